/- Parts of the proof: OffXP. -/
import Derived.Test.YtjleempapphlhabGeOffX
section
namespace Go.Proofs.Ytjleempapphlhab.Mini
open Go Go.RowKit
set_option linter.unusedVariables false
set_option linter.unusedSimpArgs false
set_option maxRecDepth 20000
theorem setL_app {A R ys : List D} {p j : Nat} (h : A.length = p) : setL (A ++ R) (p + j) ys = A ++ setL R j ys := by
  unfold setL
  rw [List.take_append, List.drop_append, List.take_of_length_le (by omega), List.drop_of_length_le (by omega), show p + j - A.length = j by omega, show p + j + ys.length - A.length = j + ys.length by omega]
  simp
theorem setL_app0 {A R ys : List D} {p : Nat} (h : A.length = p) : setL (A ++ R) p ys = A ++ setL R 0 ys := setL_app (j := 0) h
theorem setL_s {x : D} {R ys : List D} {j : Nat} : setL (x :: R) (j + 1) ys = x :: setL R j ys := by
  unfold setL
  rw [show j + 1 + ys.length = j + ys.length + 1 by omega]
  rfl
theorem setL_z {x y : D} {R : List D} : setL (x :: R) 0 [y] = y :: R := rfl
theorem get_app {A R : List D} {p j : Nat} (h : A.length = p) : (A ++ R)[p + j]? = R[j]? := by rw [List.getElem?_append_right (by omega), show p + j - A.length = j by omega]
theorem free_app {A R : List D} {p j m : Nat} (h : A.length = p) (hf : freeD R j m) : freeD (A ++ R) (p + j) m := fun q d hq hd => hf q d hq (by rw [← get_app (A := A) (p := p) h, ← Nat.add_assoc]; exact hd)
theorem free_one {R : List D} {j : Nat} {x : D} (h : R[j]? = some x) (ho : ownL x = false) : freeD R j 1 := fun q d hq hd => by
  obtain rfl : q = 0 := by omega
  rw [Nat.add_zero, h] at hd
  injection hd with hd
  subst hd; exact ho
theorem selN_app {A R : List D} {p j : Nat} (h : A.length = p) : selN (A ++ R) (p + j) = selN R j := by unfold selN; rw [get_app h]
theorem selL_app {A R : List D} {p j : Nat} (h : A.length = p) : selL (A ++ R) (p + j) = selL R j := by unfold selL; rw [get_app h]
theorem mtx_len (k n : Nat) : (mtx k n).length = n := by simp [mtx]
theorem mks_texts (k n : Nat) : mks [.str] k n = textsD (mtx k n) := by
  unfold mks textsD mtx
  rw [List.map_map]
  apply List.map_congr_left
  intro i _
  simp [Nat.mod_one, mkD]
theorem mkO_len : ∀ (k : Nat) (l : List Med), (mkO k l).length = l.length
  | _, [] => rfl
  | k, m :: l => by simp [mkO, mkO_len _ l]
theorem mkO_snoc (m : Med) : ∀ (k : Nat) (l : List Med), mkO k (l ++ [m]) = mkO k l ++ [mkM (k + cntO l) m]
  | _, [] => rfl
  | k, x :: l => by
    show mkM k x :: mkO (k + 4 + x.c.length) (l ++ [m]) = _
    rw [mkO_snoc m _ l]
    show _ = mkM k x :: (mkO (k + 4 + x.c.length) l ++ [mkM (k + (4 + x.c.length + cntO l)) m])
    rw [show k + (4 + x.c.length + cntO l) = k + 4 + x.c.length + cntO l by omega]
theorem cntO_snoc (m : Med) : ∀ l : List Med, cntO (l ++ [m]) = cntO l + (4 + m.c.length)
  | [] => by simp [cntO]
  | x :: l => by simp only [List.cons_append, cntO, cntO_snoc m l]; omega
theorem cntO_le {m : Med} : ∀ {l : List Med} {i : Nat}, l[i]? = some m → cntO (l.take i) + (4 + m.c.length) ≤ cntO l
  | [], _, h => by simp at h
  | x :: l, 0, h => by
    simp at h
    subst h
    simp [cntO]
  | x :: l, i + 1, h => by
    have := cntO_le (l := l) (i := i) (by simpa using h)
    simp only [List.take_succ_cons, cntO]
    omega
theorem cntO_mk : ∀ (k : Nat) (l : List Med), cntO (mkO k l) = cntO l
  | _, [] => rfl
  | k, m :: l => by
    show 4 + (mtx (k + 4) m.c.length).length + cntO (mkO (k + 4 + m.c.length) l) = _
    rw [mtx_len, cntO_mk _ l]
    rfl
theorem mkO_at {m : Med} : ∀ {l : List Med} {i : Nat}, l[i]? = some m → ∀ k, (mkO k l)[i]? = some (mkM (k + cntO (l.take i)) m)
  | [], _, h, k => by simp at h
  | x :: l, 0, h, k => by
    simp at h
    subst h
    rfl
  | x :: l, i + 1, h, k => by
    have := mkO_at (l := l) (i := i) (by simpa using h) (k + 4 + x.c.length)
    show (mkO (k + 4 + x.c.length) l)[i]? = some (mkM (k + (4 + x.c.length + cntO (l.take i))) m)
    rw [this, show k + (4 + x.c.length + cntO (l.take i)) = k + 4 + x.c.length + cntO (l.take i) by omega]
theorem cntO_ge : ∀ l : List Med, 4 * l.length ≤ cntO l
  | [] => Nat.le_refl _
  | m :: l => by
    have := cntO_ge l
    simp only [cntO, List.length_cons]
    omega
theorem off_split {l : List Med} {i : Nat} {m : Med} (h : l[i]? = some m) : offD (l.drop i) = medD m ++ offD (l.drop (i + 1)) := by
  have hi := (List.getElem?_eq_some_iff.mp h).1
  rw [List.drop_eq_getElem_cons hi]
  have e : l[i] = m := by rw [List.getElem?_eq_getElem hi] at h; injection h
  rw [e]
  rfl
theorem tags_off (k : Nat) (l : List Med) : (offD (mkO k l)).map tagL = (offD l).map tagL := by
  induction l generalizing k with
  | nil => rfl
  | cons m l ih =>
    show (medD (mkM k m) ++ offD (mkO (k + 4 + m.c.length) l)).map tagL = (medD m ++ offD l).map tagL
    rw [List.map_append, List.map_append, ih]
    rfl
theorem same_tags {a b : List D} (h : a.map tagL = b.map tagL) : sameOwn a b := ⟨by have := congrArg List.length h; simpa using this.symm, fun j => by rw [← List.getElem?_map, ← List.getElem?_map, h]⟩
theorem same_off (k : Nat) (l : List Med) : sameOwn (offD l) (offD (mkO k l)) := same_tags (tags_off k l).symm
theorem ok_tomedO : FnOk Try.prog 17 s_tomedO := by
  refine fnOk (fn := Try.f17) (F := F_tomedO) (hs := hs_tomedO) (tab_cons ok_tostr tab_nil) mixed rfl rfl rfl [.str, .int .i64, .bool, .bool, .list 9] (by kernel_rfl) (by simp) ?_
  rintro k p s h n cs ⟨m, e, hm⟩
  obtain ⟨rfl, rfl, rfl, rfl, rfl, rfl⟩ := med_open e
  obtain ⟨g1, g2, g3⟩ := sm_max hm
  have g4 := hm.2.1
  refine ⟨fun _ _ => False, fun _ _ => 0, ?_, fun _ _ h => h.elim⟩
  rw [t_tomedO]
  have hu : unM [D.str m.k, .int .i64 m.p, .bool m.s, .bool m.h, .list 9 m.c.length (textsD m.c)] = m := unM_med m
  simp only [F_tomedO_tostr, s_tostr, Tree.holds, ltI_t, ltI_f, leI_t, leI_f, all_cons, all_nil, and_true, true_and, forall_eq, decide_eq_true_eq, decide_eq_false_iff_not, beq_iff_eq, beq_eq_false_iff_ne, bne_iff_ne, bne_eq_false_iff_eq, ne_eq, Decidable.not_not, selI_z, selB_z, selS_z, selN_z, selL_z, selI_s, selB_s, selS_s, selN_s, selL_s, Int.toNat_natCast, Nat.mul_one, Nat.zero_add, Nat.div_one, List.drop_zero, Nat.zero_mul, Nat.le_refl, Bool.not_eq_true', Bool.not_eq_false', Bool.false_eq_true, Bool.true_eq_false, not_true_eq_false, not_false_eq_true, false_imp_iff, true_imp_iff, if_true, if_false, sig, sigF, sigW, sigR, sigO, sigD, sigWD, List.map_cons, List.map_nil, hu]
  refine ⟨⟨okC_texts g3, by omega⟩, ⟨by rw [textsD_len]; omega, by rw [textsD_take]; exact textsD_scal _⟩, ?_⟩
  rw [textsD_take]
  rfl
theorem ok_tooffD : FnOk Try.prog 27 s_tooffD := by
  refine fnOk (fn := Try.f27) (F := F_tooffD) (hs := hs_tooffD) (tab_cons ok_tomedO tab_nil) mixed rfl rfl rfl [.list 35] (by kernel_rfl) (by simp) ?_
  rintro n cs ⟨l, e, hl, hm⟩
  simp only [lawD, List.cons.injEq, D.list.injEq, true_and, and_true] at e
  obtain ⟨rfl, rfl⟩ := e
  refine ⟨fun h ys => h = 0 ∧ ∃ i : Nat, ys = [.list 35 l.length (offD l), .int .i64 (0 : Nat), .int .i64 l.length, .int .i64 i, .list 25 0 (medsK l.length (l.take i))] ∧ i ≤ l.length, fun h ys => l.length - (selI ys 3).toNat, ?_, ?_⟩
  · rw [t_tooffD]
    simp only [F_tooffD_tomedO, s_tomedO, Tree.holds, ltI_t, ltI_f, leI_t, leI_f, all_cons, all_nil, and_true, true_and, forall_eq, decide_eq_true_eq, decide_eq_false_iff_not, beq_iff_eq, beq_eq_false_iff_ne, bne_iff_ne, bne_eq_false_iff_eq, ne_eq, Decidable.not_not, selI_z, selB_z, selS_z, selN_z, selL_z, selI_s, selB_s, selS_s, selN_s, selL_s, Int.toNat_natCast, Nat.mul_one, Nat.zero_add, Nat.div_one, List.drop_zero, Nat.zero_mul, Nat.le_refl, Bool.not_eq_true', Bool.not_eq_false', Bool.false_eq_true, Bool.true_eq_false, not_true_eq_false, not_false_eq_true, false_imp_iff, true_imp_iff, if_true, if_false, sig, sigF, sigW, sigR, sigO, sigD, sigWD, List.map_cons, List.map_nil, unO_off]
    exact ⟨⟨by omega, by omega, by omega⟩, noOwn_rep zero_no _, 0, rfl, by omega⟩
  · rintro h ys ⟨rfl, i, rfl, hi⟩
    rw [t_tooffD0]
    simp only [F_tooffD_tomedO, s_tomedO, Tree.holds, ltI_t, ltI_f, leI_t, leI_f, all_cons, all_nil, and_true, true_and, forall_eq, decide_eq_true_eq, decide_eq_false_iff_not, beq_iff_eq, beq_eq_false_iff_ne, bne_iff_ne, bne_eq_false_iff_eq, ne_eq, Decidable.not_not, selI_z, selB_z, selS_z, selN_z, selL_z, selI_s, selB_s, selS_s, selN_s, selL_s, Int.toNat_natCast, Nat.mul_one, Nat.zero_add, Nat.div_one, List.drop_zero, Nat.zero_mul, Nat.le_refl, Bool.not_eq_true', Bool.not_eq_false', Bool.false_eq_true, Bool.true_eq_false, not_true_eq_false, not_false_eq_true, false_imp_iff, true_imp_iff, if_true, if_false, sig, sigF, sigW, sigR, sigO, sigD, sigWD, List.map_cons, List.map_nil, sel_kstr, sel_kint, sel_kbool, unO_off]
    refine ⟨fun hj => ?_, fun hj => ?_⟩
    · obtain ⟨m, m1, m2⟩ := off_get (l := l) (i := i) (by omega)
      obtain ⟨c0, c1, c2, c3, c4⟩ := off_at m1
      have htk : (l.take i).length = i := by rw [List.length_take]; omega
      rw [selS_of c0, selI_of c1, selB_of c2, selB_of c3, selN_of c4, selL_of c4, unM_lit]
      have hfr := medsK_free (n := l.length) (l := l.take i)
      rw [htk] at hfr
      simp only [medD, F_tooffD_tomedO, s_tomedO, Tree.holds, ltI_t, ltI_f, leI_t, leI_f, all_cons, all_nil, and_true, true_and, forall_eq, decide_eq_true_eq, decide_eq_false_iff_not, beq_iff_eq, beq_eq_false_iff_ne, bne_iff_ne, bne_eq_false_iff_eq, ne_eq, Decidable.not_not, selI_z, selB_z, selS_z, selN_z, selL_z, selI_s, selB_s, selS_s, selN_s, selL_s, Int.toNat_natCast, Nat.mul_one, Nat.zero_add, Nat.div_one, List.drop_zero, Nat.zero_mul, Nat.le_refl, Bool.not_eq_true', Bool.not_eq_false', Bool.false_eq_true, Bool.true_eq_false, not_true_eq_false, not_false_eq_true, false_imp_iff, true_imp_iff, if_true, if_false, sig, sigF, sigW, sigR, sigO, sigD, sigWD, List.map_cons, List.map_nil]
      refine ⟨⟨by omega, by omega⟩, ⟨c0, c1, c2, c3, .inl c4⟩, ⟨m, rfl, hm m m2⟩, ⟨by omega, by omega⟩, ⟨by rw [textsD_len]; omega, by rw [medsK_len (by omega)]; omega, hfr⟩, by unfold inK; omega, ⟨i + 1, ?_, by omega⟩, by omega⟩
      have := medsK_step (n := l.length) (l := l.take i) m (by omega)
      rw [htk] at this
      rw [List.take_add_one, m1]
      show _ = [_, _, _, _, D.list 25 0 (medsK l.length (l.take i ++ [m]))]
      rw [← this, textsD_take]
      rfl
    · obtain rfl : i = l.length := by omega
      rw [List.take_of_length_le (Nat.le_refl _), medsK_all, offD_take]
      exact ⟨⟨by rw [offD_len]; omega, flat_off l⟩, rfl⟩
theorem ok_mkoff : FnOk Try.prog 29 s_mkoff := by
  refine fnOkWD (fn := Try.f29) (F := F_mkoff) (hs := hs_mkoff) (tab_cons ok_marktext (tab_cons ok_markstr tab_nil)) mixed rfl rfl rfl 25 [.int .i64] [.int .i64] (by kernel_rfl) (by kernel_rfl) (by simp [hs_mkoff, shapeW, isDp]) ?_
  rintro n cs a ⟨l, k, e, h1, h2, hm⟩
  simp only [impD, List.cons_append, List.nil_append, List.cons.injEq, D.list.injEq, D.int.injEq, true_and, and_true] at e
  obtain ⟨⟨rfl, rfl⟩, rfl⟩ := e
  refine ⟨fun ys n' ds' hp hl => ?_, fun h ys => h = 0 ∧ ∃ i : Nat, ys = [.int .i64 (0 : Nat), .int .i64 l.length, .int .i64 (k + cntO (l.take i) : Nat), .int .i64 i, .list 25 0 (offD (mkO k (l.take i)) ++ offD (l.drop i))] ∧ i ≤ l.length, fun h ys => l.length - (selI ys 3).toNat, ?_, ?_⟩
  · match ys, hl with
    | [y], _ =>
      simp only [F_mkoff_marktext, F_mkoff_markstr, s_marktext, s_markstr, Tree.holds, ltI_t, ltI_f, leI_t, leI_f, all_cons, all_nil, and_true, true_and, forall_eq, decide_eq_true_eq, decide_eq_false_iff_not, beq_iff_eq, beq_eq_false_iff_ne, bne_iff_ne, bne_eq_false_iff_eq, ne_eq, Decidable.not_not, selI_z, selB_z, selS_z, selN_z, selL_z, selI_s, selB_s, selS_s, selN_s, selL_s, Int.toNat_natCast, Nat.mul_one, Nat.zero_add, Nat.div_one, List.drop_zero, Nat.zero_mul, Nat.le_refl, Bool.not_eq_true', Bool.not_eq_false', Bool.false_eq_true, Bool.true_eq_false, not_true_eq_false, not_false_eq_true, false_imp_iff, true_imp_iff, if_true, if_false, sig, sigF, sigW, sigR, sigO, sigD, sigWD, List.map_cons, List.map_nil, s_mkoff, List.cons_append, List.nil_append, List.cons.injEq, D.list.injEq, true_and, and_true, unO_off] at hp
      obtain ⟨_, rfl, rfl⟩ := hp
      exact ⟨rfl, same_off k l⟩
  · rw [t_mkoff]
    simp only [F_mkoff_marktext, F_mkoff_markstr, s_marktext, s_markstr, Tree.holds, ltI_t, ltI_f, leI_t, leI_f, all_cons, all_nil, and_true, true_and, forall_eq, decide_eq_true_eq, decide_eq_false_iff_not, beq_iff_eq, beq_eq_false_iff_ne, bne_iff_ne, bne_eq_false_iff_eq, ne_eq, Decidable.not_not, selI_z, selB_z, selS_z, selN_z, selL_z, selI_s, selB_s, selS_s, selN_s, selL_s, Int.toNat_natCast, Nat.mul_one, Nat.zero_add, Nat.div_one, List.drop_zero, Nat.zero_mul, Nat.le_refl, Bool.not_eq_true', Bool.not_eq_false', Bool.false_eq_true, Bool.true_eq_false, not_true_eq_false, not_false_eq_true, false_imp_iff, true_imp_iff, if_true, if_false, sig, sigF, sigW, sigR, sigO, sigD, sigWD, List.map_cons, List.map_nil]
    exact ⟨0, rfl, by omega⟩
  · rintro h ys ⟨rfl, i, rfl, hi⟩
    rw [t_mkoff0]
    simp only [F_mkoff_marktext, F_mkoff_markstr, s_marktext, s_markstr, Tree.holds, ltI_t, ltI_f, leI_t, leI_f, all_cons, all_nil, and_true, true_and, forall_eq, decide_eq_true_eq, decide_eq_false_iff_not, beq_iff_eq, beq_eq_false_iff_ne, bne_iff_ne, bne_eq_false_iff_eq, ne_eq, Decidable.not_not, selI_z, selB_z, selS_z, selN_z, selL_z, selI_s, selB_s, selS_s, selN_s, selL_s, Int.toNat_natCast, Nat.mul_one, Nat.zero_add, Nat.div_one, List.drop_zero, Nat.zero_mul, Nat.le_refl, Bool.not_eq_true', Bool.not_eq_false', Bool.false_eq_true, Bool.true_eq_false, not_true_eq_false, not_false_eq_true, false_imp_iff, true_imp_iff, if_true, if_false, sig, sigF, sigW, sigR, sigO, sigD, sigWD, List.map_cons, List.map_nil, unO_off]
    refine ⟨fun hj => ?_, fun hj => ?_⟩
    · obtain ⟨m, m1, m2⟩ := off_get (l := l) (i := i) (by omega)
      have hc := cntO_le m1
      have hg := cntO_ge l
      have hA : (offD (mkO k (l.take i))).length = i * 5 := by rw [offD_len, mkO_len, List.length_take, Nat.min_eq_left hi]
      rw [off_split m1]
      generalize hAd : offD (mkO k (l.take i)) = A at hA ⊢
      generalize hBd : offD (l.drop (i + 1)) = B
      have T0 : ∀ ys R, setL (A ++ R) (i * 5) ys = A ++ setL R 0 ys := fun _ _ => setL_app0 hA
      have T : ∀ j ys R, setL (A ++ R) (i * 5 + j) ys = A ++ setL R j ys := fun _ _ _ => setL_app hA
      have G : ∀ (j : Nat) (R : List D), (A ++ R)[i * 5 + j]? = R[j]? := fun _ _ => get_app hA
      have SN : ∀ (j : Nat) (R : List D), selN (A ++ R) (i * 5 + j) = selN R j := fun _ _ => selN_app hA
      have SL : ∀ (j : Nat) (R : List D), selL (A ++ R) (i * 5 + j) = selL R j := fun _ _ => selL_app hA
      simp only [medD, List.cons_append, List.nil_append, T0, T, G, SN, SL, setL_z, setL_s, sel_kstr, F_mkoff_marktext, F_mkoff_markstr, s_marktext, s_markstr, Tree.holds, ltI_t, ltI_f, leI_t, leI_f, all_cons, all_nil, and_true, true_and, forall_eq, decide_eq_true_eq, decide_eq_false_iff_not, beq_iff_eq, beq_eq_false_iff_ne, bne_iff_ne, bne_eq_false_iff_eq, ne_eq, Decidable.not_not, selI_z, selB_z, selS_z, selN_z, selL_z, selI_s, selB_s, selS_s, selN_s, selL_s, Int.toNat_natCast, Nat.mul_one, Nat.zero_add, Nat.div_one, List.drop_zero, Nat.zero_mul, Nat.le_refl, Bool.not_eq_true', Bool.not_eq_false', Bool.false_eq_true, Bool.true_eq_false, not_true_eq_false, not_false_eq_true, false_imp_iff, true_imp_iff, if_true, if_false, sig, sigF, sigW, sigR, sigO, sigD, sigWD, List.map_cons, List.map_nil, List.length_append, List.length_cons]
      have ht : l.take (i + 1) = l.take i ++ [m] := by rw [List.take_add_one, m1]; rfl
      have e1 := mkO_snoc m k (l.take i)
      have e2 := cntO_snoc m (l.take i)
      generalize hq : k + cntO (l.take i) = q at e1 ⊢
      have hi64 : ∀ x : Int, 0 ≤ x → x ≤ 1000000000000000 → inK .i64 x := fun x h1 h2 => by unfold inK; omega
      refine ⟨by omega, by omega, ⟨by omega, free_app (j := 0) hA (free_one rfl rfl)⟩, hi64 _ (by omega) (by omega), by omega, ⟨by omega, free_app hA (free_one rfl rfl)⟩, hi64 _ (by omega) (by omega), by omega, by omega, ⟨by omega, free_app hA (free_one rfl rfl)⟩, hi64 _ (by omega) (by omega), by omega, by omega, ⟨by omega, free_app hA (free_one rfl rfl)⟩, hi64 _ (by omega) (by omega), by omega, rfl, ⟨rfl, textsD_len _, textsD_scal _⟩, ⟨okC_texts (hm m m2).2.2, by omega, by omega⟩, by unfold inK; omega, ⟨i + 1, ?_, by omega⟩, by omega⟩
      rw [ht, e1, e2, hBd, offD_push, hAd, List.append_assoc]
      have e3 : (q : Int) + 1 + 1 + 1 + 1 = ((q + 4 : Nat) : Int) := by omega
      rw [e3, Int.toNat_natCast, mks_texts]
      have e4 : D.list 9 m.c.length (textsD (mtx (q + 4) m.c.length)) = .list 9 (mtx (q + 4) m.c.length).length (textsD (mtx (q + 4) m.c.length)) := by rw [mtx_len]
      rw [e4]
      have e5 : ((q + 4 : Nat) : Int) + (m.c.length : Int) * 1 = ((k + (cntO (l.take i) + (4 + m.c.length)) : Nat) : Int) := by omega
      rw [e5]
      rfl
    · obtain rfl : i = l.length := by omega
      rw [List.take_of_length_le (Nat.le_refl _), List.drop_of_length_le (Nat.le_refl _)]
      have e0 : offD (mkO k l) ++ offD [] = offD (mkO k l) := List.append_nil _
      have e1 : (offD (mkO k l)).length = l.length * 5 := by rw [offD_len, mkO_len]
      rw [e0, e1]
      exact ⟨⟨by omega, flat_off _⟩, by rw [Nat.mul_div_cancel _ (by decide)]⟩
theorem ok_hdoff : FnOk Try.prog 30 s_hdoff := by
  refine fnOk (fn := Try.f30) (F := F_hdoff) (hs := hs_hdoff) (tab_cons ok_marktext (tab_cons ok_heldstr tab_nil)) mixed rfl rfl rfl [.list 25, .int .i64] (by kernel_rfl) (by simp) ?_
  rintro n cs a ⟨l, k, e, h1, h2⟩
  simp only [impD, List.cons_append, List.nil_append, List.cons.injEq, D.list.injEq, D.int.injEq, true_and, and_true] at e
  obtain ⟨⟨rfl, rfl⟩, rfl⟩ := e
  have hcn : cntO (mkO k l) = cntO l := cntO_mk k l
  refine ⟨fun h ys => h = 0 ∧ ∃ i : Nat, ys = [.list 25 (mkO k l).length (offD (mkO k l)), .int .i64 (k + cntO (l.take i) : Nat), .int .i64 i] ∧ i ≤ l.length, fun h ys => l.length - (selI ys 2).toNat, ?_, ?_⟩
  · rw [t_hdoff]
    simp only [F_hdoff_marktext, F_hdoff_heldstr, s_marktext, s_heldstr, Tree.holds, ltI_t, ltI_f, leI_t, leI_f, all_cons, all_nil, and_true, true_and, forall_eq, decide_eq_true_eq, decide_eq_false_iff_not, beq_iff_eq, beq_eq_false_iff_ne, bne_iff_ne, bne_eq_false_iff_eq, ne_eq, Decidable.not_not, selI_z, selB_z, selS_z, selN_z, selL_z, selI_s, selB_s, selS_s, selN_s, selL_s, Int.toNat_natCast, Nat.mul_one, Nat.zero_add, Nat.div_one, List.drop_zero, Nat.zero_mul, Nat.le_refl, Bool.not_eq_true', Bool.not_eq_false', Bool.false_eq_true, Bool.true_eq_false, not_true_eq_false, not_false_eq_true, false_imp_iff, true_imp_iff, if_true, if_false, sig, sigF, sigW, sigR, sigO, sigD, sigWD, List.map_cons, List.map_nil]
    exact ⟨0, rfl, by omega⟩
  · rintro h ys ⟨rfl, i, rfl, hi⟩
    rw [t_hdoff0]
    have hml := mkO_len k l
    simp only [F_hdoff_marktext, F_hdoff_heldstr, s_marktext, s_heldstr, Tree.holds, ltI_t, ltI_f, leI_t, leI_f, all_cons, all_nil, and_true, true_and, forall_eq, decide_eq_true_eq, decide_eq_false_iff_not, beq_iff_eq, beq_eq_false_iff_ne, bne_iff_ne, bne_eq_false_iff_eq, ne_eq, Decidable.not_not, selI_z, selB_z, selS_z, selN_z, selL_z, selI_s, selB_s, selS_s, selN_s, selL_s, Int.toNat_natCast, Nat.mul_one, Nat.zero_add, Nat.div_one, List.drop_zero, Nat.zero_mul, Nat.le_refl, Bool.not_eq_true', Bool.not_eq_false', Bool.false_eq_true, Bool.true_eq_false, not_true_eq_false, not_false_eq_true, false_imp_iff, true_imp_iff, if_true, if_false, sig, sigF, sigW, sigR, sigO, sigD, sigWD, List.map_cons, List.map_nil, unO_off, sel_kstr, sel_kint, sel_kbool, hml, hcn]
    refine ⟨fun hj => ?_, fun hj => ?_⟩
    · obtain ⟨m, m1, m2⟩ := off_get (l := l) (i := i) (by omega)
      have hc := cntO_le m1
      obtain ⟨c0, c1, c2, c3, c4⟩ := off_at (mkO_at m1 k)
      have c1' : (offD (mkO k l))[i * 5 + 1]? = _ := c1
      have c2' : (offD (mkO k l))[i * 5 + 2]? = _ := c2
      have c3' : (offD (mkO k l))[i * 5 + 3]? = _ := c3
      have c4' : (offD (mkO k l))[i * 5 + 4]? = _ := c4
      have ht : l.take (i + 1) = l.take i ++ [m] := by rw [List.take_add_one, m1]; rfl
      have e2 := cntO_snoc m (l.take i)
      rw [selS_of c0, selI_of c1', selB_of c2', selB_of c3', selN_of c4', selL_of c4', c0, c1', c2', c3', c4']
      generalize hq : k + cntO (l.take i) = q
      have hg := cntO_ge l
      have hi64 : ∀ x : Int, 0 ≤ x → x ≤ 1000000000000000 → inK .i64 x := fun x h1 h2 => by unfold inK; omega
      have e3 : (q : Int) + 1 + 1 + 1 + 1 = ((q + 4 : Nat) : Int) := by omega
      have ec : (mkM q m).c = mtx (q + 4) m.c.length := rfl
      have es : (mkM q m).s = (((q : Int) + 1 + 1).tmod 3 == 0) := by
        show (((q + 2 : Nat) : Int).tmod 3 == 0) = _
        rw [show ((q + 2 : Nat) : Int) = (q : Int) + 1 + 1 by omega]
      have eh : (mkM q m).h = (((q : Int) + 1 + 1 + 1).tmod 3 == 0) := by
        show (((q + 3 : Nat) : Int).tmod 3 == 0) = _
        rw [show ((q + 3 : Nat) : Int) = (q : Int) + 1 + 1 + 1 by omega]
      refine ⟨by omega, rfl, by omega, fun e => absurd rfl e, fun _ => ⟨hi64 _ (by omega) (by omega), by omega, rfl, fun e => absurd (show ((q + 1 : Nat) : Int) = (q : Int) + 1 by omega) e, fun _ => ⟨hi64 _ (by omega) (by omega), by omega, rfl, by omega, fun e => absurd es e, fun _ => ⟨hi64 _ (by omega) (by omega), by omega, rfl, by omega, fun e => absurd eh e, fun _ => ?_⟩⟩⟩⟩
      rw [ec, mtx_len, e3, Int.toNat_natCast, mks_texts]
      refine ⟨hi64 _ (by omega) (by omega), by omega, .inl rfl, ⟨rfl, by omega, by omega⟩, fun h => by omega, fun _ => ⟨hi64 _ (by omega) (by omega), ⟨i + 1, ?_, by omega⟩, by omega⟩⟩
      rw [ht, e2]
      have e5 : ((q + 4 : Nat) : Int) + (m.c.length : Int) * 1 = ((k + (cntO (l.take i) + (4 + m.c.length)) : Nat) : Int) := by omega
      rw [e5]
      rfl
    · obtain rfl : i = l.length := by omega
      rw [List.take_of_length_le (Nat.le_refl _)]
theorem cntO_sm : ∀ {l : List Med}, (∀ m ∈ l, smM m) → cntO l ≤ l.length * 1048580
  | [], _ => Nat.zero_le _
  | m :: l, h => by
    have h1 := cntO_sm (l := l) (fun x hx => h x (by simp [hx]))
    have h2 := (h m (by simp)).2.1
    simp only [cntO, List.length_cons]
    omega
end Go.Proofs.Ytjleempapphlhab.Mini
end
