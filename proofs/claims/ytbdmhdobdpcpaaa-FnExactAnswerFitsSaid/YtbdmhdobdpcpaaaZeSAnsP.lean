/- Parts of the proof: SAnsP. -/
import Derived.Test.YtbdmhdobdpcpaaaZeSAnsM
section
namespace Go.Proofs.Ytbdmhdobdpcpaaa.Mini
open Go Go.RowKit
set_option linter.unusedVariables false
set_option linter.unusedSimpArgs false
set_option maxRecDepth 20000
theorem hasB_snoc (l : List ByteArray) (x s : ByteArray) : hasB (l ++ [x]) s = (hasB l s || (s.data.toList == x.data.toList)) := by
  unfold hasB
  rw [List.any_append]
  simp only [List.any_cons, List.any_nil, Bool.or_false]
  rw [show (x.data.toList == s.data.toList) = (s.data.toList == x.data.toList) from BEq.comm]
theorem comS_snoc (l b : List ByteArray) (x : ByteArray) : comS (l ++ [x]) b = comS l b ++ (if hasB b x = true then [x] else []) := by
  unfold comS
  rw [List.filter_append]
  congr 1
  by_cases h : hasB b x = true
  · rw [if_pos h, List.filter_cons_of_pos h]; rfl
  · rw [if_neg h, List.filter_cons_of_neg h]; rfl
theorem ok_scom : FnOk Try.prog 14 s_scom := by
  refine fnOk (fn := Try.f14) (F := F_scom) (hs := hs_scom) tab_nil mixed rfl rfl rfl [.list 9, .list 9] (by kernel_rfl) (by simp) ?_
  rintro n cs n' cs' ⟨a, b, e, ha, hb⟩
  simp only [List.cons.injEq, D.list.injEq, true_and, and_true] at e
  obtain ⟨⟨rfl, rfl⟩, rfl, rfl⟩ := e
  refine ⟨fun h ys => (h = 0 ∧ ∃ i : Nat, ys = [.list 9 a.length (textsD a), .list 9 b.length (textsD b), .int .i64 (0 : Nat), .int .i64 ((comS (a.take i) b).length : Nat), .int .i64 i, .list 9 0 (textsD (comS (a.take i) b))] ∧ i ≤ a.length) ∨
    (h = 1 ∧ ∃ (i j : Nat) (s : ByteArray), ys = [.list 9 a.length (textsD a), .list 9 b.length (textsD b), .int .i64 (0 : Nat), .int .i64 ((comS (a.take i) b).length : Nat), .int .i64 i, .bool (hasB (b.take j) s), .int .i64 j, .list 9 0 (textsD (comS (a.take i) b))] ∧ a[i]? = some s ∧ j ≤ b.length),
    fun h ys => mu2 a.length h (selI ys 4).toNat (selI ys 6).toNat, ?_, ?_⟩
  · rw [t_scom]
    simp only [Tree.holds, ltI_t, ltI_f, leI_t, leI_f, all_cons, all_nil, and_true, true_and, forall_eq, decide_eq_true_eq, decide_eq_false_iff_not, beq_iff_eq, beq_eq_false_iff_ne, bne_iff_ne, bne_eq_false_iff_eq, ne_eq, Decidable.not_not, selI_z, selB_z, selS_z, selN_z, selL_z, selI_s, selB_s, selS_s, selN_s, selL_s, Int.toNat_natCast, Nat.mul_one, Nat.zero_add, Nat.div_one, List.drop_zero, Nat.zero_mul, Nat.le_refl, Bool.not_eq_true', Bool.not_eq_false', Bool.false_eq_true, Bool.true_eq_false, not_true_eq_false, not_false_eq_true, false_imp_iff, true_imp_iff, if_true, if_false, sig, sigF, sigW, sigR, sigO, sigD, sigWD, List.map_cons, List.map_nil]
    exact .inl ⟨0, rfl, by omega⟩
  · rintro h ys (⟨rfl, i, rfl, hi⟩ | ⟨rfl, i, j, s, rfl, hs, hj⟩)
    · rw [t_scom0]
      simp only [Tree.holds, ltI_t, ltI_f, leI_t, leI_f, all_cons, all_nil, and_true, true_and, forall_eq, decide_eq_true_eq, decide_eq_false_iff_not, beq_iff_eq, beq_eq_false_iff_ne, bne_iff_ne, bne_eq_false_iff_eq, ne_eq, Decidable.not_not, selI_z, selB_z, selS_z, selN_z, selL_z, selI_s, selB_s, selS_s, selN_s, selL_s, Int.toNat_natCast, Nat.mul_one, Nat.zero_add, Nat.div_one, List.drop_zero, Nat.zero_mul, Nat.le_refl, Bool.not_eq_true', Bool.not_eq_false', Bool.false_eq_true, Bool.true_eq_false, not_true_eq_false, not_false_eq_true, false_imp_iff, true_imp_iff, if_true, if_false, sig, sigF, sigW, sigR, sigO, sigD, sigWD, List.map_cons, List.map_nil, unS_texts, textsD_take]
      refine ⟨fun hk => ⟨.inr ⟨i, 0, a[i]'(by omega), rfl, List.getElem?_eq_getElem (by omega), by omega⟩, ?_⟩, fun hk => ⟨⟨by rw [textsD_len]; omega, textsD_scal _⟩, ?_⟩⟩
      · unfold mu2; simp; omega
      · rw [List.take_of_length_le (by omega)]
    · have hia := (List.getElem?_eq_some_iff.mp hs).1
      have hsn : a.take (i + 1) = a.take i ++ [s] := by rw [List.take_add_one, hs]; rfl
      have hsd := textsD_at hs
      have hcl := comS_len (a.take i) b
      rw [List.length_take] at hcl
      rw [t_scom1]
      simp only [Tree.holds, ltI_t, ltI_f, leI_t, leI_f, all_cons, all_nil, and_true, true_and, forall_eq, decide_eq_true_eq, decide_eq_false_iff_not, beq_iff_eq, beq_eq_false_iff_ne, bne_iff_ne, bne_eq_false_iff_eq, ne_eq, Decidable.not_not, selI_z, selB_z, selS_z, selN_z, selL_z, selI_s, selB_s, selS_s, selN_s, selL_s, Int.toNat_natCast, Nat.mul_one, Nat.zero_add, Nat.div_one, List.drop_zero, Nat.zero_mul, Nat.le_refl, Bool.not_eq_true', Bool.not_eq_false', Bool.false_eq_true, Bool.true_eq_false, not_true_eq_false, not_false_eq_true, false_imp_iff, true_imp_iff, if_true, if_false, sig, sigF, sigW, sigR, sigO, sigD, sigWD, List.map_cons, List.map_nil, sel_kstr, textsD_take, ByteArray.toList_eq]
      have stp : ∀ (y : ByteArray), b[j]? = some y → hasB (b.take (j + 1)) s = (hasB (b.take j) s || (s.data.toList == y.data.toList)) := fun y hy => by
        rw [show b.take (j + 1) = b.take j ++ [y] by rw [List.take_add_one, hy]; rfl, hasB_snoc]
      have mu1 : ∀ k : Nat, mu2 a.length 0 (i + 1) k < mu2 a.length 1 i j := fun k => by unfold mu2; simp; omega
      refine ⟨fun hk => ?_, fun hk => ?_⟩
      · obtain ⟨y, y1, y2, y3⟩ := textsD_get (ls := b) (i := j) (by omega)
        have hst := stp y y1
        have mu0 : mu2 a.length 1 i (j + 1) < mu2 a.length 1 i j := by unfold mu2; simp; omega
        rw [selS_of hsd, selS_of y2]
        refine ⟨fun hf => ⟨by unfold inK; omega, .inr ⟨i, j + 1, s, ?_, hs, by omega⟩, mu0⟩, fun hf => ⟨⟨by omega, by omega⟩, hsd, ⟨by omega, by omega⟩, y2, by unfold inK; omega, .inr ⟨i, j + 1, s, ?_, hs, by omega⟩, mu0⟩⟩
        · rw [hst, hf, Bool.true_or]; rfl
        · rw [hst, hf, Bool.false_or]; rfl
      · rw [List.take_of_length_le (by omega)]
        rw [selS_of hsd]
        have hsn2 := comS_snoc (a.take i) b s
        rw [← hsn] at hsn2
        refine ⟨fun hf => ⟨⟨by omega, by omega⟩, hsd, ⟨by rw [textsD_len]; omega, by omega⟩, by unfold inK; omega, .inl ⟨i + 1, ?_, by omega⟩, mu1 _⟩, fun hf => ⟨by unfold inK; omega, .inl ⟨i + 1, ?_, by omega⟩, mu1 _⟩⟩
        · rw [hsn2, if_pos hf, textsD_push, List.length_append]; rfl
        · rw [hsn2, if_neg (by rw [hf]; simp), List.append_nil]; rfl
theorem ok_sansm : FnOk Try.prog 24 s_sansm := by
  refine fnOk (fn := Try.f24) (F := F_sansm) (hs := hs_sansm) (tab_cons ok_smed (tab_cons ok_scom tab_nil)) mixed rfl rfl rfl [.str, .int .i64, .bool, .bool, .list 9, .str, .int .i64, .bool, .bool, .list 9] (by kernel_rfl) (by simp) ?_
  rintro k p s h n cs k' p' s' h' n' cs' ⟨o, w, e, ho, hw⟩
  simp only [medD, List.cons_append, List.nil_append, List.cons.injEq, D.str.injEq, D.int.injEq, D.bool.injEq, D.list.injEq, true_and, and_true] at e
  obtain ⟨rfl, rfl, rfl, rfl, ⟨rfl, rfl⟩, rfl, rfl, rfl, rfl, rfl, rfl⟩ := e
  refine ⟨fun _ _ => False, fun _ _ => 0, ?_, fun _ _ h => h.elim⟩
  rw [t_sansm]
  have hu := unM_med o
  have hu2 := unM_med w
  simp only [medD] at hu hu2
  have hu1 : unM [D.str o.k, .int .i64 o.p, .bool o.s, .bool o.h, .list 9 o.c.length (textsD o.c), .str w.k, .int .i64 w.p, .bool w.s, .bool w.h, .list 9 w.c.length (textsD w.c)] = o := hu
  simp only [F_sansm_smed, F_sansm_scom, s_smed, s_scom, Tree.holds, ltI_t, ltI_f, leI_t, leI_f, all_cons, all_nil, and_true, true_and, forall_eq, decide_eq_true_eq, decide_eq_false_iff_not, beq_iff_eq, beq_eq_false_iff_ne, bne_iff_ne, bne_eq_false_iff_eq, ne_eq, Decidable.not_not, selI_z, selB_z, selS_z, selN_z, selL_z, selI_s, selB_s, selS_s, selN_s, selL_s, Int.toNat_natCast, Nat.mul_one, Nat.zero_add, Nat.div_one, List.drop_zero, Nat.zero_mul, Nat.le_refl, Bool.not_eq_true', Bool.not_eq_false', Bool.false_eq_true, Bool.true_eq_false, not_true_eq_false, not_false_eq_true, false_imp_iff, true_imp_iff, if_true, if_false, sig, sigF, sigW, sigR, sigO, sigD, sigWD, List.map_cons, List.map_nil, hu, hu1, hu2, List.drop_succ_cons, unS_texts, textsD_take, ByteArray.toList_eq]
  have hz : ¬ (medB o && medB w) = true → medD (ansM o w) = medD zeroMd := fun h => by unfold ansM; rw [if_neg h]
  refine ⟨⟨o, rfl, ho⟩, fun h => ?_, fun v1 => ⟨⟨w, rfl, hw⟩, fun h => ?_, fun v2 => ⟨⟨o.c, w.c, rfl, ho.2.1, hw.2.1⟩, ?_⟩⟩⟩
  · rw [hz (by rw [h]; simp)]; rfl
  · rw [hz (by rw [h]; simp)]; rfl
  have hv : (medB o && medB w) = true := by rw [v1, v2]; rfl
  have R : ¬ okA o w = true → o.c.length ≤ 1048576 ∧ o.c.length ≤ (List.take 0 [] ++ textsD o.c).length ∧ [D.str o.k, .int .i64 0, .bool false, .bool false, .list 9 o.c.length (List.take o.c.length (List.take 0 [] ++ textsD o.c))] = medD (ansM o w) := fun h => by
    have e : ansM o w = refM o := by unfold ansM; rw [if_pos hv, if_neg h]
    have e2 : (List.take 0 [] ++ textsD o.c : List D) = textsD o.c := rfl
    rw [e, e2, textsD_take, textsD_len]
    exact ⟨ho.2.1, Nat.le_refl _, rfl⟩
  have no : ¬ (o.k.data.toList = w.k.data.toList ∧ o.p ≠ 0 ∧ w.p ≠ 0 ∧ (comS o.c w.c).length ≠ 0) → ¬ okA o w = true := fun h hk => by
    obtain ⟨a1, a2, a3, a4⟩ := okA_parts hk
    exact h ⟨by rw [a1], a2, a3, a4⟩
  refine ⟨fun h => R (no fun g => h g.1), fun h1 => ⟨fun h => R (no fun g => g.2.1 h), fun h2 => ⟨fun h => R (no fun g => g.2.2.1 h), fun h3 => ⟨fun h => R (no fun g => g.2.2.2 (by omega)), fun h4 => ?_⟩⟩⟩⟩
  have yes : okA o w = true := by
    unfold okA
    simp only [Bool.and_eq_true, bne_iff_ne, sameK_iff]
    exact ⟨⟨text_eq h1, h2⟩, h3, by omega⟩
  have e : ansM o w = ⟨o.k, w.p, o.h && w.s, o.s && w.h, comS o.c w.c⟩ := by unfold ansM; rw [if_pos hv, if_pos yes]
  rw [e, textsD_len]
  refine ⟨fun a => ⟨fun b => ?_, fun b => ?_⟩, fun a => ⟨fun b => ?_, fun b => ?_⟩⟩ <;> (rw [a, b]; exact ⟨Nat.le_refl _, rfl⟩)
theorem fit1_iff (m w : Med) : fit1 m w = true ↔ w.k.data.toList = m.k.data.toList ∧ (w.p ≤ 0 ∨ (m.p ≠ 0 ∧ (w.s = true → m.h = true) ∧ (w.h = true → m.s = true) ∧ w.c.length ≤ (comS w.c m.c).length)) := by
  unfold fit1 sameK
  simp only [Bool.and_eq_true, Bool.or_eq_true, beq_iff_eq, decide_eq_true_eq, bne_iff_ne, Bool.not_eq_true', ne_eq]
  cases w.s <;> cases w.h <;> cases m.s <;> cases m.h <;> simp
theorem ok_sfits : FnOk Try.prog 43 s_sfits := by
  refine fnOk (fn := Try.f43) (F := F_sfits) (hs := hs_sfits) (tab_cons ok_soff (tab_cons ok_scom tab_nil)) mixed rfl rfl rfl [.list 33, .list 33] (by kernel_rfl) (by simp) ?_
  rintro n cs n' cs' ⟨l, o, e, hl, ho, hm, hm'⟩
  simp only [List.cons.injEq, D.list.injEq, true_and, and_true] at e
  obtain ⟨⟨rfl, rfl⟩, rfl, rfl⟩ := e
  refine ⟨fun h ys => h = 0 ∧ ∃ i : Nat, ys = [.list 33 l.length (offD l), .list 33 o.length (offD o), .int .i64 i] ∧ i ≤ l.length ∧ l.length = o.length ∧ offB l = true ∧ offB o = true ∧ fitL l o = fitL (l.drop i) (o.drop i), fun h ys => l.length - (selI ys 2).toNat, ?_, ?_⟩
  · rw [t_sfits]
    simp only [F_sfits_soff, F_sfits_scom, s_soff, s_scom, Tree.holds, ltI_t, ltI_f, leI_t, leI_f, all_cons, all_nil, and_true, true_and, forall_eq, decide_eq_true_eq, decide_eq_false_iff_not, beq_iff_eq, beq_eq_false_iff_ne, bne_iff_ne, bne_eq_false_iff_eq, ne_eq, Decidable.not_not, selI_z, selB_z, selS_z, selN_z, selL_z, selI_s, selB_s, selS_s, selN_s, selL_s, Int.toNat_natCast, Nat.mul_one, Nat.zero_add, Nat.div_one, List.drop_zero, Nat.zero_mul, Nat.le_refl, Bool.not_eq_true', Bool.not_eq_false', Bool.false_eq_true, Bool.true_eq_false, not_true_eq_false, not_false_eq_true, false_imp_iff, true_imp_iff, if_true, if_false, sig, sigF, sigW, sigR, sigO, sigD, sigWD, List.map_cons, List.map_nil, unO_off]
    refine ⟨⟨l, rfl, hl, hm⟩, fun h => ret_bool' ?_, fun v1 => ⟨⟨o, rfl, ho, hm'⟩, fun h => ret_bool' ?_, fun v2 => ⟨fun h => ret_bool' ?_, fun h => ⟨0, rfl, by omega, by omega, v1, v2, rfl⟩⟩⟩⟩
    · unfold fitO; rw [h]; rfl
    · unfold fitO; rw [h]; simp
    · unfold fitO; rw [show decide (l.length = o.length) = false from decide_eq_false (by omega)]; simp
  · rintro h ys ⟨rfl, i, rfl, hi, hlo, v1, v2, hf⟩
    rw [t_sfits0]
    simp only [F_sfits_soff, F_sfits_scom, s_soff, s_scom, Tree.holds, ltI_t, ltI_f, leI_t, leI_f, all_cons, all_nil, and_true, true_and, forall_eq, decide_eq_true_eq, decide_eq_false_iff_not, beq_iff_eq, beq_eq_false_iff_ne, bne_iff_ne, bne_eq_false_iff_eq, ne_eq, Decidable.not_not, selI_z, selB_z, selS_z, selN_z, selL_z, selI_s, selB_s, selS_s, selN_s, selL_s, Int.toNat_natCast, Nat.mul_one, Nat.zero_add, Nat.div_one, List.drop_zero, Nat.zero_mul, Nat.le_refl, Bool.not_eq_true', Bool.not_eq_false', Bool.false_eq_true, Bool.true_eq_false, not_true_eq_false, not_false_eq_true, false_imp_iff, true_imp_iff, if_true, if_false, sig, sigF, sigW, sigR, sigO, sigD, sigWD, List.map_cons, List.map_nil, sel_kstr, sel_kint, sel_kbool, unO_off, ByteArray.toList_eq]
    have hfo : fitO l o = fitL (l.drop i) (o.drop i) := by unfold fitO; rw [v1, v2, hf, show decide (l.length = o.length) = true from decide_eq_true hlo]; rfl
    refine ⟨fun hj => ?_, fun hj => ret_bool' ?_⟩
    · obtain ⟨m, m1, m2⟩ := off_get (l := l) (i := i) (by omega)
      obtain ⟨c0, c1, c2, c3, c4⟩ := off_at m1
      obtain ⟨w, w1, w2⟩ := off_get (l := o) (i := i) (by omega)
      obtain ⟨d0, d1, d2, d3, d4⟩ := off_at w1
      have hst : fitO l o = (fit1 m w && fitL (l.drop (i + 1)) (o.drop (i + 1))) := by
        rw [hfo, List.drop_eq_getElem_cons (by omega : i < l.length), List.drop_eq_getElem_cons (by omega : i < o.length)]
        rw [show l[i] = m by rw [List.getElem?_eq_getElem (by omega)] at m1; injection m1, show o[i] = w by rw [List.getElem?_eq_getElem (by omega)] at w1; injection w1]
        rfl
      rw [selS_of c0, selI_of c1, selB_of c2, selB_of c3, selN_of c4, selL_of c4, selS_of d0, selI_of d1, selB_of d2, selB_of d3, selN_of d4, selL_of d4, c0, c1, c2, c3, c4, d0, d1, d2, d3, d4]
      have hk := fit1_iff m w
      have No : ¬ fit1 m w = true → [D.bool false] = [D.bool (fitO l o)] := fun h => by
        rw [hst, show fit1 m w = false by simpa using h]; rfl
      have Go : fit1 m w = true → inK .i64 ((i : Int) + 1) ∧ (∃ i_1 : Nat, [D.list 33 l.length (offD l), .list 33 o.length (offD o), .int .i64 ((i : Int) + 1)] = [.list 33 l.length (offD l), .list 33 o.length (offD o), .int .i64 i_1] ∧ i_1 ≤ l.length ∧ l.length = o.length ∧ offB l = true ∧ offB o = true ∧ fitL l o = fitL (l.drop i_1) (o.drop i_1)) ∧ l.length - ((i : Int) + 1).toNat < l.length - i := fun h => by
        rw [h, Bool.true_and] at hst
        exact ⟨by unfold inK; omega, ⟨i + 1, rfl, by omega, hlo, v1, v2, by rw [hf, ← hfo]; exact hst⟩, by omega⟩
      have hab : ∃ a b : List ByteArray, [D.list 9 w.c.length (textsD w.c), .list 9 m.c.length (textsD m.c)] = [.list 9 a.length (textsD a), .list 9 b.length (textsD b)] ∧ a.length ≤ 1048576 ∧ b.length ≤ 1048576 := ⟨w.c, m.c, rfl, (hm' w w2).2.1, (hm m m2).2.1⟩
      rw [unS_texts, unS_texts]
      refine ⟨⟨by omega, by omega⟩, ⟨rfl, rfl, rfl, rfl, .inl rfl⟩, ⟨by omega, by omega⟩, ⟨rfl, rfl, rfl, rfl, .inl rfl⟩, fun h => No fun g => h (hk.mp g).1, fun h1 => ⟨fun h2 => ⟨fun h => No fun g => ?_, fun h3 => ⟨fun h4 => ⟨fun h => No fun g => ?_, fun h5 => ⟨fun h6 => ⟨fun h => No fun g => ?_, fun h7 => ⟨hab, fun h => No fun g => ?_, fun h8 => Go (hk.mpr ⟨h1, .inr ⟨h3, fun _ => h5, fun _ => h7, by omega⟩⟩)⟩⟩, fun h6 => ⟨hab, fun h => No fun g => ?_, fun h8 => Go (hk.mpr ⟨h1, .inr ⟨h3, fun _ => h5, fun h => (by rw [h6] at h; cases h), by omega⟩⟩)⟩⟩⟩, fun h4 => ⟨fun h6 => ⟨fun h => No fun g => ?_, fun h7 => ⟨hab, fun h => No fun g => ?_, fun h8 => Go (hk.mpr ⟨h1, .inr ⟨h3, fun h => (by rw [h4] at h; cases h), fun _ => h7, by omega⟩⟩)⟩⟩, fun h6 => ⟨hab, fun h => No fun g => ?_, fun h8 => Go (hk.mpr ⟨h1, .inr ⟨h3, fun h => (by rw [h4] at h; cases h), fun h => (by rw [h6] at h; cases h), by omega⟩⟩)⟩⟩⟩⟩, fun h2 => Go (hk.mpr ⟨h1, .inl (by omega)⟩)⟩⟩
      all_goals rcases (hk.mp g).2 with q | ⟨q1, q2, q3, q4⟩
      all_goals first
        | omega
        | exact q1 h
        | (have := q2 h4; rw [h] at this; cases this)
        | (have := q3 h6; rw [h] at this; cases this)
    · obtain rfl : i = l.length := by omega
      rw [hfo, List.drop_of_length_le (Nat.le_refl _)]
      rfl
end Go.Proofs.Ytbdmhdobdpcpaaa.Mini
end
