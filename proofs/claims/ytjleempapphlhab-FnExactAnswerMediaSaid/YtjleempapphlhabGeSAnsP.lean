/- Parts of the proof: SAnsP. -/
import Derived.Test.YtjleempapphlhabGeSAnsM
section
namespace Go.Proofs.Ytjleempapphlhab.Mini
open Go Go.RowKit
set_option linter.unusedVariables false
set_option linter.unusedSimpArgs false
set_option maxRecDepth 20000
theorem hasB_snoc (l : List ByteArray) (x s : ByteArray) : hasB (l ++ [x]) s = (hasB l s || (s.data.toList == x.data.toList)) := by
  unfold hasB
  rw [List.any_append]
  simp only [List.any_cons, List.any_nil, Bool.or_false]
  rw [show (x.data.toList == s.data.toList) = (s.data.toList == x.data.toList) from BEq.comm]
theorem comS_snoc (l b : List ByteArray) (x : ByteArray) : comS (l ++ [x]) b = comS l b ++ (if hasB b x = true then [x] else []) := by
  unfold comS
  rw [List.filter_append]
  congr 1
  by_cases h : hasB b x = true
  · rw [if_pos h, List.filter_cons_of_pos h]; rfl
  · rw [if_neg h, List.filter_cons_of_neg h]; rfl
theorem ok_scom : FnOk Try.prog 40 s_scom := by
  refine fnOk (fn := Try.f40) (F := F_scom) (hs := hs_scom) tab_nil mixed rfl rfl rfl [.list 9, .list 9] (by kernel_rfl) (by simp) ?_
  rintro n cs n' cs' ⟨a, b, e, ha, hb⟩
  simp only [List.cons.injEq, D.list.injEq, true_and, and_true] at e
  obtain ⟨⟨rfl, rfl⟩, rfl, rfl⟩ := e
  refine ⟨fun h ys => (h = 0 ∧ ∃ i : Nat, ys = [.list 9 a.length (textsD a), .list 9 b.length (textsD b), .int .i64 (0 : Nat), .int .i64 ((comS (a.take i) b).length : Nat), .int .i64 i, .list 9 0 (textsD (comS (a.take i) b))] ∧ i ≤ a.length) ∨
    (h = 1 ∧ ∃ (i j : Nat) (s : ByteArray), ys = [.list 9 a.length (textsD a), .list 9 b.length (textsD b), .int .i64 (0 : Nat), .int .i64 ((comS (a.take i) b).length : Nat), .int .i64 i, .bool (hasB (b.take j) s), .int .i64 j, .list 9 0 (textsD (comS (a.take i) b))] ∧ a[i]? = some s ∧ j ≤ b.length),
    fun h ys => mu2 a.length h (selI ys 4).toNat (selI ys 6).toNat, ?_, ?_⟩
  · rw [t_scom]
    simp only [Tree.holds, ltI_t, ltI_f, leI_t, leI_f, all_cons, all_nil, and_true, true_and, forall_eq, decide_eq_true_eq, decide_eq_false_iff_not, beq_iff_eq, beq_eq_false_iff_ne, bne_iff_ne, bne_eq_false_iff_eq, ne_eq, Decidable.not_not, selI_z, selB_z, selS_z, selN_z, selL_z, selI_s, selB_s, selS_s, selN_s, selL_s, Int.toNat_natCast, Nat.mul_one, Nat.zero_add, Nat.div_one, List.drop_zero, Nat.zero_mul, Nat.le_refl, Bool.not_eq_true', Bool.not_eq_false', Bool.false_eq_true, Bool.true_eq_false, not_true_eq_false, not_false_eq_true, false_imp_iff, true_imp_iff, if_true, if_false, sig, sigF, sigW, sigR, sigO, sigD, sigWD, List.map_cons, List.map_nil]
    exact .inl ⟨0, rfl, by omega⟩
  · rintro h ys (⟨rfl, i, rfl, hi⟩ | ⟨rfl, i, j, s, rfl, hs, hj⟩)
    · rw [t_scom0]
      simp only [Tree.holds, ltI_t, ltI_f, leI_t, leI_f, all_cons, all_nil, and_true, true_and, forall_eq, decide_eq_true_eq, decide_eq_false_iff_not, beq_iff_eq, beq_eq_false_iff_ne, bne_iff_ne, bne_eq_false_iff_eq, ne_eq, Decidable.not_not, selI_z, selB_z, selS_z, selN_z, selL_z, selI_s, selB_s, selS_s, selN_s, selL_s, Int.toNat_natCast, Nat.mul_one, Nat.zero_add, Nat.div_one, List.drop_zero, Nat.zero_mul, Nat.le_refl, Bool.not_eq_true', Bool.not_eq_false', Bool.false_eq_true, Bool.true_eq_false, not_true_eq_false, not_false_eq_true, false_imp_iff, true_imp_iff, if_true, if_false, sig, sigF, sigW, sigR, sigO, sigD, sigWD, List.map_cons, List.map_nil, unS_texts, textsD_take]
      refine ⟨fun hk => ⟨.inr ⟨i, 0, a[i]'(by omega), rfl, List.getElem?_eq_getElem (by omega), by omega⟩, ?_⟩, fun hk => ⟨⟨by rw [textsD_len]; omega, textsD_scal _⟩, ?_⟩⟩
      · unfold mu2; simp; omega
      · rw [List.take_of_length_le (by omega)]
    · have hia := (List.getElem?_eq_some_iff.mp hs).1
      have hsn : a.take (i + 1) = a.take i ++ [s] := by rw [List.take_add_one, hs]; rfl
      have hsd := textsD_at hs
      have hcl := comS_len (a.take i) b
      rw [List.length_take] at hcl
      rw [t_scom1]
      simp only [Tree.holds, ltI_t, ltI_f, leI_t, leI_f, all_cons, all_nil, and_true, true_and, forall_eq, decide_eq_true_eq, decide_eq_false_iff_not, beq_iff_eq, beq_eq_false_iff_ne, bne_iff_ne, bne_eq_false_iff_eq, ne_eq, Decidable.not_not, selI_z, selB_z, selS_z, selN_z, selL_z, selI_s, selB_s, selS_s, selN_s, selL_s, Int.toNat_natCast, Nat.mul_one, Nat.zero_add, Nat.div_one, List.drop_zero, Nat.zero_mul, Nat.le_refl, Bool.not_eq_true', Bool.not_eq_false', Bool.false_eq_true, Bool.true_eq_false, not_true_eq_false, not_false_eq_true, false_imp_iff, true_imp_iff, if_true, if_false, sig, sigF, sigW, sigR, sigO, sigD, sigWD, List.map_cons, List.map_nil, sel_kstr, textsD_take, ByteArray.toList_eq]
      have stp : ∀ (y : ByteArray), b[j]? = some y → hasB (b.take (j + 1)) s = (hasB (b.take j) s || (s.data.toList == y.data.toList)) := fun y hy => by
        rw [show b.take (j + 1) = b.take j ++ [y] by rw [List.take_add_one, hy]; rfl, hasB_snoc]
      have mu1 : ∀ k : Nat, mu2 a.length 0 (i + 1) k < mu2 a.length 1 i j := fun k => by unfold mu2; simp; omega
      refine ⟨fun hk => ?_, fun hk => ?_⟩
      · obtain ⟨y, y1, y2, y3⟩ := textsD_get (ls := b) (i := j) (by omega)
        have hst := stp y y1
        have mu0 : mu2 a.length 1 i (j + 1) < mu2 a.length 1 i j := by unfold mu2; simp; omega
        rw [selS_of hsd, selS_of y2]
        refine ⟨fun hf => ⟨by unfold inK; omega, .inr ⟨i, j + 1, s, ?_, hs, by omega⟩, mu0⟩, fun hf => ⟨⟨by omega, by omega⟩, hsd, ⟨by omega, by omega⟩, y2, by unfold inK; omega, .inr ⟨i, j + 1, s, ?_, hs, by omega⟩, mu0⟩⟩
        · rw [hst, hf, Bool.true_or]; rfl
        · rw [hst, hf, Bool.false_or]; rfl
      · rw [List.take_of_length_le (by omega)]
        rw [selS_of hsd]
        have hsn2 := comS_snoc (a.take i) b s
        rw [← hsn] at hsn2
        refine ⟨fun hf => ⟨⟨by omega, by omega⟩, hsd, ⟨by rw [textsD_len]; omega, by omega⟩, by unfold inK; omega, .inl ⟨i + 1, ?_, by omega⟩, mu1 _⟩, fun hf => ⟨by unfold inK; omega, .inl ⟨i + 1, ?_, by omega⟩, mu1 _⟩⟩
        · rw [hsn2, if_pos hf, textsD_push, List.length_append]; rfl
        · rw [hsn2, if_neg (by rw [hf]; simp), List.append_nil]; rfl
theorem ok_sansm : FnOk Try.prog 12 s_sansm := by
  refine fnOk (fn := Try.f12) (F := F_sansm) (hs := hs_sansm) (tab_cons ok_smed (tab_cons ok_scom tab_nil)) mixed rfl rfl rfl [.str, .int .i64, .bool, .bool, .list 9, .str, .int .i64, .bool, .bool, .list 9] (by kernel_rfl) (by simp) ?_
  rintro k p s h n cs k' p' s' h' n' cs' ⟨o, w, e, ho, hw⟩
  simp only [medD, List.cons_append, List.nil_append, List.cons.injEq, D.str.injEq, D.int.injEq, D.bool.injEq, D.list.injEq, true_and, and_true] at e
  obtain ⟨rfl, rfl, rfl, rfl, ⟨rfl, rfl⟩, rfl, rfl, rfl, rfl, rfl, rfl⟩ := e
  refine ⟨fun _ _ => False, fun _ _ => 0, ?_, fun _ _ h => h.elim⟩
  rw [t_sansm]
  have hu := unM_med o
  have hu2 := unM_med w
  simp only [medD] at hu hu2
  have hu1 : unM [D.str o.k, .int .i64 o.p, .bool o.s, .bool o.h, .list 9 o.c.length (textsD o.c), .str w.k, .int .i64 w.p, .bool w.s, .bool w.h, .list 9 w.c.length (textsD w.c)] = o := hu
  simp only [F_sansm_smed, F_sansm_scom, s_smed, s_scom, Tree.holds, ltI_t, ltI_f, leI_t, leI_f, all_cons, all_nil, and_true, true_and, forall_eq, decide_eq_true_eq, decide_eq_false_iff_not, beq_iff_eq, beq_eq_false_iff_ne, bne_iff_ne, bne_eq_false_iff_eq, ne_eq, Decidable.not_not, selI_z, selB_z, selS_z, selN_z, selL_z, selI_s, selB_s, selS_s, selN_s, selL_s, Int.toNat_natCast, Nat.mul_one, Nat.zero_add, Nat.div_one, List.drop_zero, Nat.zero_mul, Nat.le_refl, Bool.not_eq_true', Bool.not_eq_false', Bool.false_eq_true, Bool.true_eq_false, not_true_eq_false, not_false_eq_true, false_imp_iff, true_imp_iff, if_true, if_false, sig, sigF, sigW, sigR, sigO, sigD, sigWD, List.map_cons, List.map_nil, hu, hu1, hu2, List.drop_succ_cons, unS_texts, textsD_take, ByteArray.toList_eq]
  have hz : ¬ (medB o && medB w) = true → medD (ansM o w) = medD zeroMd := fun h => by unfold ansM; rw [if_neg h]
  refine ⟨⟨o, rfl, ho⟩, fun h => ?_, fun v1 => ⟨⟨w, rfl, hw⟩, fun h => ?_, fun v2 => ⟨⟨o.c, w.c, rfl, ho.2.1, hw.2.1⟩, ?_⟩⟩⟩
  · rw [hz (by rw [h]; simp)]; rfl
  · rw [hz (by rw [h]; simp)]; rfl
  have hv : (medB o && medB w) = true := by rw [v1, v2]; rfl
  have R : ¬ okA o w = true → o.c.length ≤ 1048576 ∧ o.c.length ≤ (List.take 0 [] ++ textsD o.c).length ∧ [D.str o.k, .int .i64 0, .bool false, .bool false, .list 9 o.c.length (List.take o.c.length (List.take 0 [] ++ textsD o.c))] = medD (ansM o w) := fun h => by
    have e : ansM o w = refM o := by unfold ansM; rw [if_pos hv, if_neg h]
    have e2 : (List.take 0 [] ++ textsD o.c : List D) = textsD o.c := rfl
    rw [e, e2, textsD_take, textsD_len]
    exact ⟨ho.2.1, Nat.le_refl _, rfl⟩
  have no : ¬ (o.k.data.toList = w.k.data.toList ∧ o.p ≠ 0 ∧ w.p ≠ 0 ∧ (comS o.c w.c).length ≠ 0) → ¬ okA o w = true := fun h hk => by
    obtain ⟨a1, a2, a3, a4⟩ := okA_parts hk
    exact h ⟨by rw [a1], a2, a3, a4⟩
  refine ⟨fun h => R (no fun g => h g.1), fun h1 => ⟨fun h => R (no fun g => g.2.1 h), fun h2 => ⟨fun h => R (no fun g => g.2.2.1 h), fun h3 => ⟨fun h => R (no fun g => g.2.2.2 (by omega)), fun h4 => ?_⟩⟩⟩⟩
  have yes : okA o w = true := by
    unfold okA
    simp only [Bool.and_eq_true, bne_iff_ne, sameK_iff]
    exact ⟨⟨text_eq h1, h2⟩, h3, by omega⟩
  have e : ansM o w = ⟨o.k, w.p, o.h && w.s, o.s && w.h, comS o.c w.c⟩ := by unfold ansM; rw [if_pos hv, if_pos yes]
  rw [e, textsD_len]
  refine ⟨fun a => ⟨fun b => ?_, fun b => ?_⟩, fun a => ⟨fun b => ?_, fun b => ?_⟩⟩ <;> (rw [a, b]; exact ⟨Nat.le_refl _, rfl⟩)
theorem fit1_iff (m w : Med) : fit1 m w = true ↔ w.k.data.toList = m.k.data.toList ∧ (w.p ≤ 0 ∨ (m.p ≠ 0 ∧ (w.s = true → m.h = true) ∧ (w.h = true → m.s = true) ∧ w.c.length ≤ (comS w.c m.c).length)) := by
  unfold fit1 sameK
  simp only [Bool.and_eq_true, Bool.or_eq_true, beq_iff_eq, decide_eq_true_eq, bne_iff_ne, Bool.not_eq_true', ne_eq]
  cases w.s <;> cases w.h <;> cases m.s <;> cases m.h <;> simp
theorem ok_sfits : FnOk Try.prog 32 s_sfits := by
  refine fnOk (fn := Try.f32) (F := F_sfits) (hs := hs_sfits) (tab_cons ok_soff (tab_cons ok_scom tab_nil)) mixed rfl rfl rfl [.list 25, .list 25] (by kernel_rfl) (by simp) ?_
  rintro n cs n' cs' ⟨l, o, e, hl, ho, hm, hm'⟩
  simp only [List.cons.injEq, D.list.injEq, true_and, and_true] at e
  obtain ⟨⟨rfl, rfl⟩, rfl, rfl⟩ := e
  refine ⟨fun h ys => h = 0 ∧ ∃ i : Nat, ys = [.list 25 l.length (offD l), .list 25 o.length (offD o), .int .i64 i] ∧ i ≤ l.length ∧ l.length = o.length ∧ offB l = true ∧ offB o = true ∧ fitL l o = fitL (l.drop i) (o.drop i), fun h ys => l.length - (selI ys 2).toNat, ?_, ?_⟩
  · rw [t_sfits]
    simp only [F_sfits_soff, F_sfits_scom, s_soff, s_scom, Tree.holds, ltI_t, ltI_f, leI_t, leI_f, all_cons, all_nil, and_true, true_and, forall_eq, decide_eq_true_eq, decide_eq_false_iff_not, beq_iff_eq, beq_eq_false_iff_ne, bne_iff_ne, bne_eq_false_iff_eq, ne_eq, Decidable.not_not, selI_z, selB_z, selS_z, selN_z, selL_z, selI_s, selB_s, selS_s, selN_s, selL_s, Int.toNat_natCast, Nat.mul_one, Nat.zero_add, Nat.div_one, List.drop_zero, Nat.zero_mul, Nat.le_refl, Bool.not_eq_true', Bool.not_eq_false', Bool.false_eq_true, Bool.true_eq_false, not_true_eq_false, not_false_eq_true, false_imp_iff, true_imp_iff, if_true, if_false, sig, sigF, sigW, sigR, sigO, sigD, sigWD, List.map_cons, List.map_nil, unO_off]
    refine ⟨⟨l, rfl, hl, hm⟩, fun h => ret_bool' ?_, fun v1 => ⟨⟨o, rfl, ho, hm'⟩, fun h => ret_bool' ?_, fun v2 => ⟨fun h => ret_bool' ?_, fun h => ⟨0, rfl, by omega, by omega, v1, v2, rfl⟩⟩⟩⟩
    · unfold fitO; rw [h]; rfl
    · unfold fitO; rw [h]; simp
    · unfold fitO; rw [show decide (l.length = o.length) = false from decide_eq_false (by omega)]; simp
  · rintro h ys ⟨rfl, i, rfl, hi, hlo, v1, v2, hf⟩
    rw [t_sfits0]
    simp only [F_sfits_soff, F_sfits_scom, s_soff, s_scom, Tree.holds, ltI_t, ltI_f, leI_t, leI_f, all_cons, all_nil, and_true, true_and, forall_eq, decide_eq_true_eq, decide_eq_false_iff_not, beq_iff_eq, beq_eq_false_iff_ne, bne_iff_ne, bne_eq_false_iff_eq, ne_eq, Decidable.not_not, selI_z, selB_z, selS_z, selN_z, selL_z, selI_s, selB_s, selS_s, selN_s, selL_s, Int.toNat_natCast, Nat.mul_one, Nat.zero_add, Nat.div_one, List.drop_zero, Nat.zero_mul, Nat.le_refl, Bool.not_eq_true', Bool.not_eq_false', Bool.false_eq_true, Bool.true_eq_false, not_true_eq_false, not_false_eq_true, false_imp_iff, true_imp_iff, if_true, if_false, sig, sigF, sigW, sigR, sigO, sigD, sigWD, List.map_cons, List.map_nil, sel_kstr, sel_kint, sel_kbool, unO_off, ByteArray.toList_eq]
    have hfo : fitO l o = fitL (l.drop i) (o.drop i) := by unfold fitO; rw [v1, v2, hf, show decide (l.length = o.length) = true from decide_eq_true hlo]; rfl
    refine ⟨fun hj => ?_, fun hj => ret_bool' ?_⟩
    · obtain ⟨m, m1, m2⟩ := off_get (l := l) (i := i) (by omega)
      obtain ⟨c0, c1, c2, c3, c4⟩ := off_at m1
      obtain ⟨w, w1, w2⟩ := off_get (l := o) (i := i) (by omega)
      obtain ⟨d0, d1, d2, d3, d4⟩ := off_at w1
      have hst : fitO l o = (fit1 m w && fitL (l.drop (i + 1)) (o.drop (i + 1))) := by
        rw [hfo, List.drop_eq_getElem_cons (by omega : i < l.length), List.drop_eq_getElem_cons (by omega : i < o.length)]
        rw [show l[i] = m by rw [List.getElem?_eq_getElem (by omega)] at m1; injection m1, show o[i] = w by rw [List.getElem?_eq_getElem (by omega)] at w1; injection w1]
        rfl
      rw [selS_of c0, selI_of c1, selB_of c2, selB_of c3, selN_of c4, selL_of c4, selS_of d0, selI_of d1, selB_of d2, selB_of d3, selN_of d4, selL_of d4, c0, c1, c2, c3, c4, d0, d1, d2, d3, d4]
      have hk := fit1_iff m w
      have No : ¬ fit1 m w = true → [D.bool false] = [D.bool (fitO l o)] := fun h => by
        rw [hst, show fit1 m w = false by simpa using h]; rfl
      have Go : fit1 m w = true → inK .i64 ((i : Int) + 1) ∧ (∃ i_1 : Nat, [D.list 25 l.length (offD l), .list 25 o.length (offD o), .int .i64 ((i : Int) + 1)] = [.list 25 l.length (offD l), .list 25 o.length (offD o), .int .i64 i_1] ∧ i_1 ≤ l.length ∧ l.length = o.length ∧ offB l = true ∧ offB o = true ∧ fitL l o = fitL (l.drop i_1) (o.drop i_1)) ∧ l.length - ((i : Int) + 1).toNat < l.length - i := fun h => by
        rw [h, Bool.true_and] at hst
        exact ⟨by unfold inK; omega, ⟨i + 1, rfl, by omega, hlo, v1, v2, by rw [hf, ← hfo]; exact hst⟩, by omega⟩
      have hab : ∃ a b : List ByteArray, [D.list 9 w.c.length (textsD w.c), .list 9 m.c.length (textsD m.c)] = [.list 9 a.length (textsD a), .list 9 b.length (textsD b)] ∧ a.length ≤ 1048576 ∧ b.length ≤ 1048576 := ⟨w.c, m.c, rfl, (hm' w w2).2.1, (hm m m2).2.1⟩
      rw [unS_texts, unS_texts]
      refine ⟨⟨by omega, by omega⟩, ⟨rfl, rfl, rfl, rfl, .inl rfl⟩, ⟨by omega, by omega⟩, ⟨rfl, rfl, rfl, rfl, .inl rfl⟩, fun h => No fun g => h (hk.mp g).1, fun h1 => ⟨fun h2 => ⟨fun h => No fun g => ?_, fun h3 => ⟨fun h4 => ⟨fun h => No fun g => ?_, fun h5 => ⟨fun h6 => ⟨fun h => No fun g => ?_, fun h7 => ⟨hab, fun h => No fun g => ?_, fun h8 => Go (hk.mpr ⟨h1, .inr ⟨h3, fun _ => h5, fun _ => h7, by omega⟩⟩)⟩⟩, fun h6 => ⟨hab, fun h => No fun g => ?_, fun h8 => Go (hk.mpr ⟨h1, .inr ⟨h3, fun _ => h5, fun h => (by rw [h6] at h; cases h), by omega⟩⟩)⟩⟩⟩, fun h4 => ⟨fun h6 => ⟨fun h => No fun g => ?_, fun h7 => ⟨hab, fun h => No fun g => ?_, fun h8 => Go (hk.mpr ⟨h1, .inr ⟨h3, fun h => (by rw [h4] at h; cases h), fun _ => h7, by omega⟩⟩)⟩⟩, fun h6 => ⟨hab, fun h => No fun g => ?_, fun h8 => Go (hk.mpr ⟨h1, .inr ⟨h3, fun h => (by rw [h4] at h; cases h), fun h => (by rw [h6] at h; cases h), by omega⟩⟩)⟩⟩⟩⟩, fun h2 => Go (hk.mpr ⟨h1, .inl (by omega)⟩)⟩⟩
      all_goals rcases (hk.mp g).2 with q | ⟨q1, q2, q3, q4⟩
      all_goals first
        | omega
        | exact q1 h
        | (have := q2 h4; rw [h] at this; cases this)
        | (have := q3 h6; rw [h] at this; cases this)
    · obtain rfl : i = l.length := by omega
      rw [hfo, List.drop_of_length_le (Nat.le_refl _)]
      rfl
theorem boolsD_at {u : List Bool} {i : Nat} {b : Bool} (h : u[i]? = some b) : (boolsD u)[i]? = some (.bool b) := by unfold boolsD; rw [List.getElem?_map, h]; rfl
theorem boolsD_len (u : List Bool) : (boolsD u).length = u.length := by simp [boolsD]
theorem boolsD_set {u : List Bool} {i : Nat} (h : i < u.length) (b : Bool) : setL (boolsD u) i [.bool b] = boolsD (u.set i b) := by
  unfold setL boolsD
  rw [List.set_eq_take_append_cons_drop, if_pos h, List.map_append, List.map_cons, List.map_take, List.map_drop, List.append_assoc]
  rfl
theorem boolsD_rep (n : Nat) : rep n [D.bool false] = boolsD (List.replicate n false) := by
  unfold rep boolsD
  induction n with
  | zero => rfl
  | succ n ih => simp only [List.replicate_succ, List.flatten_cons, List.map_cons, ih]; rfl
theorem findU_step {k : ByteArray} {own : List Med} {u : List Bool} {j : Nat} {m : Med} {b : Bool} (hm : own[j]? = some m) (hb : u[j]? = some b) : findU k (own.drop j) (u.drop j) = if (!b && sameK m.k k) = true then some 0 else (findU k (own.drop (j + 1)) (u.drop (j + 1))).map (· + 1) := by
  have h1 := (List.getElem?_eq_some_iff.mp hm).1
  have h2 := (List.getElem?_eq_some_iff.mp hb).1
  rw [List.drop_eq_getElem_cons h1, List.drop_eq_getElem_cons h2]
  rw [show own[j] = m by rw [List.getElem?_eq_getElem h1] at hm; injection hm, show u[j] = b by rw [List.getElem?_eq_getElem h2] at hb; injection hb]
  rfl
theorem ansL_cons (own : List Med) (o : Med) (l : List Med) (u : List Bool) : ansL own (o :: l) u = match findU o.k own u with
    | some j => ansM o (own.getD j zeroMd) :: ansL own l (u.set j true)
    | none => ansM o (refM o) :: ansL own l u := rfl
theorem ok_sanso : FnOk Try.prog 24 s_sanso := by
  refine fnOk (fn := Try.f24) (F := F_sanso) (hs := hs_sanso) (tab_cons ok_soff (tab_cons ok_sansm tab_nil)) mixed rfl rfl rfl [.list 25, .list 25] (by kernel_rfl) (by simp) ?_
  rintro n cs n' cs' ⟨l, o, e, hl, ho, hm, hm'⟩
  simp only [List.cons.injEq, D.list.injEq, true_and, and_true] at e
  obtain ⟨⟨rfl, rfl⟩, rfl, rfl⟩ := e
  refine ⟨fun h ys => (h = 0 ∧ ∃ (k : Nat) (out : List Med) (u : List Bool), ys = [.list 25 l.length (offD l), .list 25 o.length (offD o), .int .i64 (0 : Nat), .int .i64 (out.length : Nat), .int .i64 (0 : Nat), .int .i64 (u.length : Nat), .int .i64 k, .list 25 0 (offD out), .list 4 0 (boolsD u)] ∧ k ≤ l.length ∧ u.length = o.length ∧ out.length = k ∧ (k ≠ 0 → (offB l && offB o) = true) ∧ ((offB l && offB o) = true → ansO l o = out ++ ansL o (l.drop k) u)) ∨
    (h = 1 ∧ ∃ (k j : Nat) (out : List Med) (u : List Bool) (m : Med), ys = [.list 25 l.length (offD l), .list 25 o.length (offD o), .int .i64 (0 : Nat), .int .i64 (out.length : Nat), .int .i64 (0 : Nat), .int .i64 (u.length : Nat), .int .i64 k, .int .i64 j, .list 25 l.length (offD l), .bool true, .list 25 o.length (offD o), .bool true, .list 25 0 (offD out), .list 4 0 (boolsD u), .str m.k, .int .i64 0, .bool false, .bool false, .list 9 m.c.length (textsD m.c)] ∧ l[k]? = some m ∧ j ≤ o.length ∧ u.length = o.length ∧ out.length = k ∧ (offB l && offB o) = true ∧ ansO l o = out ++ ansL o (l.drop k) u ∧ findU m.k o u = (findU m.k (o.drop j) (u.drop j)).map (· + j)),
    fun h ys => mu2 l.length h (selI ys 6).toNat (selI ys 7).toNat, ?_, ?_⟩
  · rw [t_sanso]
    simp only [F_sanso_soff, F_sanso_sansm, s_soff, s_sansm, Tree.holds, ltI_t, ltI_f, leI_t, leI_f, all_cons, all_nil, and_true, true_and, forall_eq, decide_eq_true_eq, decide_eq_false_iff_not, beq_iff_eq, beq_eq_false_iff_ne, bne_iff_ne, bne_eq_false_iff_eq, ne_eq, Decidable.not_not, selI_z, selB_z, selS_z, selN_z, selL_z, selI_s, selB_s, selS_s, selN_s, selL_s, Int.toNat_natCast, Nat.mul_one, Nat.zero_add, Nat.div_one, List.drop_zero, Nat.zero_mul, Nat.le_refl, Bool.not_eq_true', Bool.not_eq_false', Bool.false_eq_true, Bool.true_eq_false, not_true_eq_false, not_false_eq_true, false_imp_iff, true_imp_iff, if_true, if_false, sig, sigF, sigW, sigR, sigO, sigD, sigWD, List.map_cons, List.map_nil, boolsD_rep]
    refine ⟨⟨by omega, by omega, by omega⟩, .inl ⟨0, [], List.replicate o.length false, ?_, by omega, by simp, rfl, fun h => absurd rfl h, fun h => ?_⟩⟩
    · simp [offD, flatD]
    · unfold ansO
      rw [if_pos h, show (o.map fun _ => false) = List.replicate o.length false by rw [List.map_const']]
      rfl
  · rintro h ys (⟨rfl, k, out, u, rfl, hk, hu, hol, hv, hA⟩ | ⟨rfl, k, j, out, u, m, rfl, hmk, hj, hu, hol, hv, hA, hF⟩)
    · rw [t_sanso0]
      simp only [F_sanso_soff, F_sanso_sansm, s_soff, s_sansm, Tree.holds, ltI_t, ltI_f, leI_t, leI_f, all_cons, all_nil, and_true, true_and, forall_eq, decide_eq_true_eq, decide_eq_false_iff_not, beq_iff_eq, beq_eq_false_iff_ne, bne_iff_ne, bne_eq_false_iff_eq, ne_eq, Decidable.not_not, selI_z, selB_z, selS_z, selN_z, selL_z, selI_s, selB_s, selS_s, selN_s, selL_s, Int.toNat_natCast, Nat.mul_one, Nat.zero_add, Nat.div_one, List.drop_zero, Nat.zero_mul, Nat.le_refl, Bool.not_eq_true', Bool.not_eq_false', Bool.false_eq_true, Bool.true_eq_false, not_true_eq_false, not_false_eq_true, false_imp_iff, true_imp_iff, if_true, if_false, sig, sigF, sigW, sigR, sigO, sigD, sigWD, List.map_cons, List.map_nil, sel_kstr, sel_kint, sel_kbool, unO_off, offD_take]
      have fin : ansO l o = out → out.length * 5 ≤ (offD out).length ∧ [D.list 25 out.length (offD out)] = [D.list 25 (ansO l o).length (offD (ansO l o))] := fun h => ⟨by rw [offD_len]; omega, by rw [h]⟩
      have E1 : ¬ (offB l && offB o) = true → ansO l o = out := fun h => by
        have hk0 : k = 0 := Decidable.byContradiction fun h0 => h (hv h0)
        have : out = [] := List.eq_nil_of_length_eq_zero (by omega)
        rw [this]
        unfold ansO
        rw [if_neg h]
      refine ⟨fun hj => ⟨⟨l, rfl, hl, hm⟩, fun v1 => ⟨⟨o, rfl, ho, hm'⟩, fun v2 => ?_, fun v2 => fin (E1 (by rw [v2]; simp))⟩, fun v1 => fin (E1 (by rw [v1]; simp))⟩, fun hj => fin ?_⟩
      · obtain ⟨m, m1, m2⟩ := off_get (l := l) (i := k) (by omega)
        obtain ⟨c0, c1, c2, c3, c4⟩ := off_at m1
        have c4' : (offD l)[k * 5 + 4]? = _ := c4
        have hvv : (offB l && offB o) = true := by rw [v1, v2]; rfl
        rw [selS_of c0, selN_of c4', selL_of c4']
        refine ⟨⟨by omega, by omega⟩, c0, ⟨by omega, by omega⟩, .inl c4', .inr ⟨k, 0, out, u, m, by rw [v1, v2]; rfl, m1, by omega, hu, hol, hvv, hA hvv, by simp⟩, by unfold mu2; simp; omega⟩
      · by_cases hvv : (offB l && offB o) = true
        · rw [hA hvv, List.drop_of_length_le (by omega)]
          exact List.append_nil _
        · exact E1 hvv
    · have hkl := (List.getElem?_eq_some_iff.mp hmk).1
      obtain ⟨c0, c1, c2, c3, c4⟩ := off_at hmk
      have hmm := hm m (List.mem_of_getElem? hmk)
      have hds : l.drop k = m :: l.drop (k + 1) := by
        rw [List.drop_eq_getElem_cons hkl, show l[k] = m by rw [List.getElem?_eq_getElem hkl] at hmk; injection hmk]
      have two : ∀ w : Med, unM [D.str m.k, .int .i64 m.p, .bool m.s, .bool m.h, .list 9 m.c.length (textsD m.c), .str w.k, .int .i64 w.p, .bool w.s, .bool w.h, .list 9 w.c.length (textsD w.c)] = m := fun w => unM_med m
      have two2 : ∀ w : Med, unM [D.str w.k, .int .i64 w.p, .bool w.s, .bool w.h, .list 9 w.c.length (textsD w.c)] = w := fun w => unM_med w
      have push : ∀ x : Med, offD out ++ [D.str (selS (medD x) 0), .int .i64 (selI (medD x) 1), .bool (selB (medD x) (1 + 1)), .bool (selB (medD x) (1 + 1 + 1)), sel (medD x) (1 + 1 + 1 + 1) (Kd.list 9)] = offD (out ++ [x]) := fun x => by rw [offD_push]; rfl
      have mu1 : ∀ x : Nat, mu2 l.length 0 (k + 1) x < mu2 l.length 1 k j := fun x => by unfold mu2; simp; omega
      have mu0 : j < o.length → mu2 l.length 1 k (j + 1) < mu2 l.length 1 k j := fun h => by unfold mu2; simp; omega
      have next : ∀ (x : Med) (u' : List Bool), u'.length = o.length → ansL o (l.drop k) u = x :: ansL o (l.drop (k + 1)) u' → ∃ (k_1 : Nat) (out_1 : List Med) (u_1 : List Bool), [D.list 25 l.length (offD l), .list 25 o.length (offD o), .int .i64 (0 : Nat), .int .i64 ((out.length + 1 : Nat) : Int), .int .i64 (0 : Nat), .int .i64 (u.length : Nat), .int .i64 ((k : Int) + 1), .list 25 0 (offD (out ++ [x])), .list 4 0 (boolsD u')] = [.list 25 l.length (offD l), .list 25 o.length (offD o), .int .i64 (0 : Nat), .int .i64 (out_1.length : Nat), .int .i64 (0 : Nat), .int .i64 (u_1.length : Nat), .int .i64 k_1, .list 25 0 (offD out_1), .list 4 0 (boolsD u_1)] ∧ k_1 ≤ l.length ∧ u_1.length = o.length ∧ out_1.length = k_1 ∧ (¬ k_1 = 0 → (offB l && offB o) = true) ∧ ((offB l && offB o) = true → ansO l o = out_1 ++ ansL o (l.drop k_1) u_1) := fun x u' h1 h2 =>
        ⟨k + 1, out ++ [x], u', by rw [List.length_append, hu, h1]; rfl, by omega, h1, by simp [hol], fun _ => hv, fun _ => by rw [hA, h2, List.append_assoc]; rfl⟩
      rw [t_sanso1]
      simp only [F_sanso_soff, F_sanso_sansm, s_soff, s_sansm, Tree.holds, ltI_t, ltI_f, leI_t, leI_f, all_cons, all_nil, and_true, true_and, forall_eq, decide_eq_true_eq, decide_eq_false_iff_not, beq_iff_eq, beq_eq_false_iff_ne, bne_iff_ne, bne_eq_false_iff_eq, ne_eq, Decidable.not_not, selI_z, selB_z, selS_z, selN_z, selL_z, selI_s, selB_s, selS_s, selN_s, selL_s, Int.toNat_natCast, Nat.mul_one, Nat.zero_add, Nat.div_one, List.drop_zero, Nat.zero_mul, Nat.le_refl, Bool.not_eq_true', Bool.not_eq_false', Bool.false_eq_true, Bool.true_eq_false, not_true_eq_false, not_false_eq_true, false_imp_iff, true_imp_iff, if_true, if_false, sig, sigF, sigW, sigR, sigO, sigD, sigWD, List.map_cons, List.map_nil, sel_kstr, sel_kint, sel_kbool, unO_off, offD_take, ByteArray.toList_eq]
      refine ⟨fun hjl => ?_, fun hjl => ?_⟩
      · obtain ⟨w, w1, w2⟩ := off_get (l := o) (i := j) (by omega)
        obtain ⟨d0, d1, d2, d3, d4⟩ := off_at w1
        have hb := List.getElem?_eq_getElem (show j < u.length by omega)
        generalize u[j] = b at hb
        have hbd := boolsD_at hb
        have hstep := findU_step (k := m.k) w1 hb
        have on : (!b && sameK w.k m.k) = false → findU m.k o u = (findU m.k (o.drop (j + 1)) (u.drop (j + 1))).map (· + (j + 1)) := fun h => by
          rw [hF, hstep, if_neg (by rw [h]; simp), Option.map_map]
          congr 1
          funext x
          show x + 1 + j = x + (j + 1)
          omega
        have nxt : (!b && sameK w.k m.k) = false → findU m.k o u = (findU m.k (o.drop (j + 1)) (u.drop (j + 1))).map (· + (j + 1)) ∧ mu2 l.length 1 k (j + 1) < mu2 l.length 1 k j := fun h => ⟨on h, mu0 (by omega)⟩
        rw [selB_of hbd, selS_of d0, selI_of d1, selB_of d2, selB_of d3, selN_of d4, selL_of d4, selS_of c0, selI_of c1, selB_of c2, selB_of c3, selN_of c4, selL_of c4, hbd, d0, d1, d2, d3, d4, c0, c1, c2, c3, c4]
        simp only [List.drop_succ_cons, List.drop_zero, two, two2, push, boolsD_set (show j < u.length by omega)]
        refine ⟨⟨by omega, by omega⟩, (by simp), fun hb0 => ⟨⟨by omega, by omega⟩, (by simp), ⟨by omega, by omega⟩, (by simp), fun hs => ?_, fun hs => ?_⟩, fun hb1 => ?_⟩
        · have hfu : findU m.k o u = some j := by
            rw [hF, hstep, if_pos (by rw [hb0, sameK_iff.mpr (text_eq hs)]; rfl)]
            show some (0 + j) = some j
            rw [Nat.zero_add]
          have hal : ansL o (l.drop k) u = ansM m w :: ansL o (l.drop (k + 1)) (u.set j true) := by
            rw [hds, ansL_cons, hfu]
            show ansM m (o.getD j zeroMd) :: ansL o _ _ = _
            rw [List.getD_eq_getElem?_getD, w1]
            rfl
          exact ⟨⟨by omega, by omega⟩, by rw [boolsD_len]; omega, ⟨by omega, by omega⟩, (by simp), ⟨by omega, by omega⟩, (by simp), ⟨m, w, rfl, hmm, hm' w w2⟩, ⟨by rw [offD_len]; omega, by omega⟩, by unfold inK; omega, .inl (next (ansM m w) (u.set j true) (by simp [hu]) hal), mu1 _⟩
        · obtain ⟨n1, n2⟩ := nxt (by rw [show sameK w.k m.k = false by unfold sameK; simpa using hs]; simp)
          exact ⟨by unfold inK; omega, .inr ⟨k, j + 1, out, u, m, rfl, hmk, by omega, hu, hol, hv, hA, n1⟩, n2⟩
        · obtain ⟨n1, n2⟩ := nxt (by rw [hb1]; rfl)
          exact ⟨by unfold inK; omega, .inr ⟨k, j + 1, out, u, m, rfl, hmk, by omega, hu, hol, hv, hA, n1⟩, n2⟩
      · have two3 : unM [D.str m.k, .int .i64 m.p, .bool m.s, .bool m.h, .list 9 m.c.length (textsD m.c), .str m.k, .int .i64 0, .bool false, .bool false, .list 9 m.c.length (textsD m.c)] = m := two (refM m)
        have two4 : unM [D.str m.k, .int .i64 0, .bool false, .bool false, .list 9 m.c.length (textsD m.c)] = refM m := two2 (refM m)
        rw [selS_of c0, selI_of c1, selB_of c2, selB_of c3, selN_of c4, selL_of c4, c0, c1, c2, c3, c4]
        simp only [List.drop_succ_cons, List.drop_zero, two3, two4, push]
        have hfu : findU m.k o u = none := by
          rw [hF, List.drop_of_length_le (show o.length ≤ j by omega)]
          rfl
        have hal : ansL o (l.drop k) u = ansM m (refM m) :: ansL o (l.drop (k + 1)) u := by
          rw [hds, ansL_cons, hfu]
        exact ⟨⟨by omega, by omega⟩, (by simp), ⟨m, refM m, rfl, hmm, ⟨hmm.1, hmm.2.1, hmm.2.2⟩⟩, ⟨by rw [offD_len]; omega, by omega⟩, by unfold inK; omega, .inl (next (ansM m (refM m)) u hu hal), mu1 _⟩
end Go.Proofs.Ytjleempapphlhab.Mini
end
