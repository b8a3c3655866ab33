/- Parts of the proof: IAnsP. -/
import Derived.Test.YtjleempapphlhabGeIAns
section
namespace Go.Proofs.Ytjleempapphlhab.Mini
open Go Go.RowKit
set_option linter.unusedVariables false
set_option linter.unusedSimpArgs false
set_option maxRecDepth 20000
theorem unB_bools (u : List Bool) : unB (boolsD u) = u := by
  unfold unB boolsD
  rw [List.map_map]
  conv => rhs; rw [← List.map_id u]
  rfl
theorem copy_texts (a : List ByteArray) : setL (rep a.length [D.str ⟨#[]⟩]) 0 (textsD a) = textsD a := by
  unfold setL
  rw [List.drop_of_length_le (by rw [rep_len, textsD_len]; simp)]
  simp
theorem ok_icpl : FnOk Try.prog 56 s_icpl := by
  refine fnOk (fn := Try.f56) (F := F_icpl) (hs := hs_icpl) tab_nil mixed rfl rfl rfl [.list 9] (by kernel_rfl) (by simp) ?_
  rintro n cs ⟨a, e, ha⟩
  simp only [List.cons.injEq, D.list.injEq, true_and, and_true] at e
  obtain ⟨rfl, rfl⟩ := e
  refine ⟨fun _ _ => False, fun _ _ => 0, ?_, fun _ _ h => h.elim⟩
  rw [t_icpl]
  have hr : (rep a.length [D.str ⟨#[]⟩]).length = a.length := by rw [rep_len]; simp
  have hs := copy_texts a
  simp only [Tree.holds, ltI_t, ltI_f, leI_t, leI_f, all_cons, all_nil, and_true, true_and, forall_eq, decide_eq_true_eq, decide_eq_false_iff_not, beq_iff_eq, beq_eq_false_iff_ne, bne_iff_ne, bne_eq_false_iff_eq, ne_eq, Decidable.not_not, selI_z, selB_z, selS_z, selN_z, selL_z, selI_s, selB_s, selS_s, selN_s, selL_s, Int.toNat_natCast, Nat.mul_one, Nat.zero_add, Nat.div_one, List.drop_zero, Nat.zero_mul, Nat.le_refl, Bool.not_eq_true', Bool.not_eq_false', Bool.false_eq_true, Bool.true_eq_false, not_true_eq_false, not_false_eq_true, false_imp_iff, true_imp_iff, if_true, if_false, sig, sigF, sigW, sigR, sigO, sigD, sigWD, List.map_cons, List.map_nil]
  simp only [hs, textsD_take, textsD_len, hr]
  exact ⟨⟨by omega, by omega, by omega⟩, Nat.le_refl _, ⟨Nat.le_refl _, textsD_scal a⟩, trivial⟩
theorem ok_icom : FnOk Try.prog 35 s_icom := by
  refine fnOk (fn := Try.f35) (F := F_icom) (hs := hs_icom) (tab_cons ok_ihas tab_nil) mixed rfl rfl rfl [.list 9, .list 9] (by kernel_rfl) (by simp) ?_
  rintro n cs n' cs' ⟨a, b, e, ha, hb, hs⟩
  simp only [List.cons.injEq, D.list.injEq, true_and, and_true] at e
  obtain ⟨⟨rfl, rfl⟩, rfl, rfl⟩ := e
  refine ⟨fun h ys => h = 0 ∧ ∃ i : Nat, ys = [.list 9 a.length (textsD a), .list 9 b.length (textsD b), .int .i64 (0 : Nat), .int .i64 ((comS (a.take i) b).length : Nat), .int .i64 i, .list 9 0 (textsD (comS (a.take i) b))] ∧ i ≤ a.length, fun h ys => a.length - (selI ys 4).toNat, ?_, ?_⟩
  · rw [t_icom]
    simp only [F_icom_ihas, s_ihas, Tree.holds, ltI_t, ltI_f, leI_t, leI_f, all_cons, all_nil, and_true, true_and, forall_eq, decide_eq_true_eq, decide_eq_false_iff_not, beq_iff_eq, beq_eq_false_iff_ne, bne_iff_ne, bne_eq_false_iff_eq, ne_eq, Decidable.not_not, selI_z, selB_z, selS_z, selN_z, selL_z, selI_s, selB_s, selS_s, selN_s, selL_s, Int.toNat_natCast, Nat.mul_one, Nat.zero_add, Nat.div_one, List.drop_zero, Nat.zero_mul, Nat.le_refl, Bool.not_eq_true', Bool.not_eq_false', Bool.false_eq_true, Bool.true_eq_false, not_true_eq_false, not_false_eq_true, false_imp_iff, true_imp_iff, if_true, if_false, sig, sigF, sigW, sigR, sigO, sigD, sigWD, List.map_cons, List.map_nil]
    exact ⟨0, rfl, by omega⟩
  · rintro h ys ⟨rfl, i, rfl, hi⟩
    rw [t_icom0]
    simp only [F_icom_ihas, s_ihas, Tree.holds, ltI_t, ltI_f, leI_t, leI_f, all_cons, all_nil, and_true, true_and, forall_eq, decide_eq_true_eq, decide_eq_false_iff_not, beq_iff_eq, beq_eq_false_iff_ne, bne_iff_ne, bne_eq_false_iff_eq, ne_eq, Decidable.not_not, selI_z, selB_z, selS_z, selN_z, selL_z, selI_s, selB_s, selS_s, selN_s, selL_s, Int.toNat_natCast, Nat.mul_one, Nat.zero_add, Nat.div_one, List.drop_zero, Nat.zero_mul, Nat.le_refl, Bool.not_eq_true', Bool.not_eq_false', Bool.false_eq_true, Bool.true_eq_false, not_true_eq_false, not_false_eq_true, false_imp_iff, true_imp_iff, if_true, if_false, sig, sigF, sigW, sigR, sigO, sigD, sigWD, List.map_cons, List.map_nil, sel_kstr, unS_texts, textsD_take]
    refine ⟨fun hk => ?_, fun hk => ⟨⟨by rw [textsD_len]; omega, textsD_scal _⟩, ?_⟩⟩
    · obtain ⟨s, s1, s2, s3⟩ := textsD_get (ls := a) (i := i) (by omega)
      have hsn : a.take (i + 1) = a.take i ++ [s] := by rw [List.take_add_one, s1]; rfl
      have hcl := comS_len (a.take i) b
      rw [List.length_take] at hcl
      have hsn2 := comS_snoc (a.take i) b s
      rw [← hsn] at hsn2
      rw [selS_of s2]
      refine ⟨⟨by omega, by omega⟩, s2, ⟨b, s, rfl, hb, hs⟩, fun hf => ⟨⟨by omega, by omega⟩, s2, ⟨by rw [textsD_len]; omega, by omega⟩, by unfold inK; omega, ⟨i + 1, ?_, by omega⟩, by omega⟩, fun hf => ⟨by unfold inK; omega, ⟨i + 1, ?_, by omega⟩, by omega⟩⟩
      · rw [hsn2, if_pos hf, textsD_push, List.length_append]; rfl
      · rw [hsn2, if_neg (by rw [hf]; simp), List.append_nil]; rfl
    · rw [List.take_of_length_le (by omega)]
theorem ok_iref : FnOk Try.prog 36 s_iref := by
  refine fnOk (fn := Try.f36) (F := F_iref) (hs := hs_iref) tab_nil mixed rfl rfl rfl [.str, .int .i64, .bool, .bool, .list 9] (by kernel_rfl) (by simp) ?_
  intro k p s h n cs _
  refine ⟨fun _ _ => False, fun _ _ => 0, ?_, fun _ _ h => h.elim⟩
  rw [t_iref]
  simp only [Tree.holds, ltI_t, ltI_f, leI_t, leI_f, all_cons, all_nil, and_true, true_and, forall_eq, decide_eq_true_eq, decide_eq_false_iff_not, beq_iff_eq, beq_eq_false_iff_ne, bne_iff_ne, bne_eq_false_iff_eq, ne_eq, Decidable.not_not, selI_z, selB_z, selS_z, selN_z, selL_z, selI_s, selB_s, selS_s, selN_s, selL_s, Int.toNat_natCast, Nat.mul_one, Nat.zero_add, Nat.div_one, List.drop_zero, Nat.zero_mul, Nat.le_refl, Bool.not_eq_true', Bool.not_eq_false', Bool.false_eq_true, Bool.true_eq_false, not_true_eq_false, not_false_eq_true, false_imp_iff, true_imp_iff, if_true, if_false, sig, sigF, sigW, sigR, sigO, sigD, sigWD, List.map_cons, List.map_nil]
theorem ok_irfm : FnOk Try.prog 37 s_irfm := by
  refine fnOk (fn := Try.f37) (F := F_irfm) (hs := hs_irfm) (tab_cons ok_icpl tab_nil) mixed rfl rfl rfl [.str, .int .i64, .bool, .bool, .list 9] (by kernel_rfl) (by simp) ?_
  rintro k p s h n cs ⟨m, e, hm⟩
  obtain ⟨rfl, rfl, rfl, rfl, rfl, rfl⟩ := med_open e
  refine ⟨fun _ _ => False, fun _ _ => 0, ?_, fun _ _ h => h.elim⟩
  rw [t_irfm]
  have hu := unM_med m
  simp only [medD] at hu
  simp only [F_irfm_icpl, s_icpl, Tree.holds, ltI_t, ltI_f, leI_t, leI_f, all_cons, all_nil, and_true, true_and, forall_eq, decide_eq_true_eq, decide_eq_false_iff_not, beq_iff_eq, beq_eq_false_iff_ne, bne_iff_ne, bne_eq_false_iff_eq, ne_eq, Decidable.not_not, selI_z, selB_z, selS_z, selN_z, selL_z, selI_s, selB_s, selS_s, selN_s, selL_s, Int.toNat_natCast, Nat.mul_one, Nat.zero_add, Nat.div_one, List.drop_zero, Nat.zero_mul, Nat.le_refl, Bool.not_eq_true', Bool.not_eq_false', Bool.false_eq_true, Bool.true_eq_false, not_true_eq_false, not_false_eq_true, false_imp_iff, true_imp_iff, if_true, if_false, sig, sigF, sigW, sigR, sigO, sigD, sigWD, List.map_cons, List.map_nil, hu]
  simp only [textsD_take, textsD_len]
  exact ⟨⟨m.c, rfl, hm.2.1⟩, ⟨Nat.le_refl _, textsD_scal _⟩, rfl⟩
theorem ok_iansm : FnOk Try.prog 10 s_iansm := by
  refine fnOk (fn := Try.f10) (F := F_iansm) (hs := hs_iansm) (tab_cons ok_imed (tab_cons ok_icom (tab_cons ok_iref (tab_cons ok_irfm tab_nil)))) mixed rfl rfl rfl [.str, .int .i64, .bool, .bool, .list 9, .str, .int .i64, .bool, .bool, .list 9] (by kernel_rfl) (by simp) ?_
  rintro k p s h n cs k' p' s' h' n' cs' ⟨o, w, e, ho, hw⟩
  simp only [medD, List.cons_append, List.nil_append, List.cons.injEq, D.str.injEq, D.int.injEq, D.bool.injEq, D.list.injEq, true_and, and_true] at e
  obtain ⟨rfl, rfl, rfl, rfl, ⟨rfl, rfl⟩, rfl, rfl, rfl, rfl, rfl, rfl⟩ := e
  refine ⟨fun _ _ => False, fun _ _ => 0, ?_, fun _ _ h => h.elim⟩
  rw [t_iansm]
  have hu := unM_med o
  have hu2 := unM_med w
  simp only [medD] at hu hu2
  have hu1 : unM [D.str o.k, .int .i64 o.p, .bool o.s, .bool o.h, .list 9 o.c.length (textsD o.c), .str w.k, .int .i64 w.p, .bool w.s, .bool w.h, .list 9 w.c.length (textsD w.c)] = o := hu
  have hr : medD (refM o) = [D.str o.k, .int .i64 0, .bool false, .bool false, .list 9 o.c.length (textsD o.c)] := rfl
  simp only [F_iansm_imed, F_iansm_icom, F_iansm_iref, F_iansm_irfm, s_imed, s_icom, s_iref, s_irfm, Tree.holds, ltI_t, ltI_f, leI_t, leI_f, all_cons, all_nil, and_true, true_and, forall_eq, decide_eq_true_eq, decide_eq_false_iff_not, beq_iff_eq, beq_eq_false_iff_ne, bne_iff_ne, bne_eq_false_iff_eq, ne_eq, Decidable.not_not, selI_z, selB_z, selS_z, selN_z, selL_z, selI_s, selB_s, selS_s, selN_s, selL_s, Int.toNat_natCast, Nat.mul_one, Nat.zero_add, Nat.div_one, List.drop_zero, Nat.zero_mul, Nat.le_refl, Bool.not_eq_true', Bool.not_eq_false', Bool.false_eq_true, Bool.true_eq_false, not_true_eq_false, not_false_eq_true, false_imp_iff, true_imp_iff, if_true, if_false, sig, sigF, sigW, sigR, sigO, sigD, sigWD, List.map_cons, List.map_nil, hu, hu1, hu2, hr, List.drop_succ_cons, unS_texts, ByteArray.toList_eq]
  simp only [textsD_take, textsD_len]
  have hz : ¬ (medB o && medB w) = true → medD (ansM o w) = medD zeroMd := fun h => by unfold ansM; rw [if_neg h]
  refine ⟨⟨o, rfl, ho⟩, fun h => ?_, fun v1 => ⟨⟨w, rfl, hw⟩, fun h => ?_, fun v2 => ⟨⟨o.c, w.c, rfl, ho.2.1, hw.2.1, hw.2.2⟩, ?_⟩⟩⟩
  · rw [hz (by rw [h]; simp)]; rfl
  · rw [hz (by rw [h]; simp)]; rfl
  have hv : (medB o && medB w) = true := by rw [v1, v2]; rfl
  have P : ∃ m : Med, [D.str o.k, .int .i64 o.p, .bool o.s, .bool o.h, .list 9 o.c.length (textsD o.c)] = medD m ∧ smM m := ⟨o, rfl, ho⟩
  have R : ¬ okA o w = true → (∃ m : Med, [D.str o.k, .int .i64 o.p, .bool o.s, .bool o.h, .list 9 o.c.length (textsD o.c)] = medD m ∧ smM m) ∧ (o.c.length ≤ o.c.length ∧ scal (textsD o.c)) ∧ [D.str o.k, .int .i64 0, .bool false, .bool false, .list 9 o.c.length (textsD o.c)] = medD (ansM o w) := fun h => by
    have e : ansM o w = refM o := by unfold ansM; rw [if_pos hv, if_neg h]
    rw [e]
    exact ⟨P, ⟨Nat.le_refl _, textsD_scal _⟩, rfl⟩
  have no : ¬ (o.k.data.toList = w.k.data.toList ∧ o.p ≠ 0 ∧ w.p ≠ 0 ∧ (comS o.c w.c).length ≠ 0) → ¬ okA o w = true := fun h hk => by
    obtain ⟨a1, a2, a3, a4⟩ := okA_parts hk
    exact h ⟨by rw [a1], a2, a3, a4⟩
  refine ⟨fun h => R (no fun g => h g.1), fun h1 => ⟨fun h => R (no fun g => g.2.1 h), fun h2 => ⟨fun h => R (no fun g => g.2.2.1 h), fun h3 => ⟨fun h => R (no fun g => g.2.2.2 (by omega)), fun h4 => ?_⟩⟩⟩⟩
  have yes : okA o w = true := by
    unfold okA
    simp only [Bool.and_eq_true, bne_iff_ne, sameK_iff]
    exact ⟨⟨text_eq h1, h2⟩, h3, by omega⟩
  have e : ansM o w = ⟨o.k, w.p, o.h && w.s, o.s && w.h, comS o.c w.c⟩ := by unfold ansM; rw [if_pos hv, if_pos yes]
  rw [e]
  refine ⟨fun a => ⟨fun b => ?_, fun b => ?_⟩, fun a => ⟨fun b => ?_, fun b => ?_⟩⟩ <;> (rw [a, b]; exact ⟨⟨Nat.le_refl _, textsD_scal _⟩, rfl⟩)
theorem ok_iunu : FnOk Try.prog 50 s_iunu := by
  refine fnOk (fn := Try.f50) (F := F_iunu) (hs := hs_iunu) tab_nil mixed rfl rfl rfl [.list 25, .list 4, .str] (by kernel_rfl) (by simp) ?_
  rintro n cs n' cs' k ⟨l, u, k', e, hl, hu⟩
  simp only [List.cons.injEq, D.list.injEq, D.str.injEq, true_and, and_true] at e
  obtain ⟨⟨rfl, rfl⟩, ⟨rfl, rfl⟩, rfl⟩ := e
  refine ⟨fun h ys => h = 0 ∧ ∃ i : Nat, ys = [.list 25 l.length (offD l), .list 4 u.length (boolsD u), .str k, .int .i64 i] ∧ i ≤ l.length ∧ findU k l u = (findU k (l.drop i) (u.drop i)).map (· + i), fun h ys => l.length - (selI ys 3).toNat, ?_, ?_⟩
  · rw [t_iunu]
    simp only [Tree.holds, ltI_t, ltI_f, leI_t, leI_f, all_cons, all_nil, and_true, true_and, forall_eq, decide_eq_true_eq, decide_eq_false_iff_not, beq_iff_eq, beq_eq_false_iff_ne, bne_iff_ne, bne_eq_false_iff_eq, ne_eq, Decidable.not_not, selI_z, selB_z, selS_z, selN_z, selL_z, selI_s, selB_s, selS_s, selN_s, selL_s, Int.toNat_natCast, Nat.mul_one, Nat.zero_add, Nat.div_one, List.drop_zero, Nat.zero_mul, Nat.le_refl, Bool.not_eq_true', Bool.not_eq_false', Bool.false_eq_true, Bool.true_eq_false, not_true_eq_false, not_false_eq_true, false_imp_iff, true_imp_iff, if_true, if_false, sig, sigF, sigW, sigR, sigO, sigD, sigWD, List.map_cons, List.map_nil]
    exact ⟨0, rfl, by omega, by simp⟩
  · rintro h ys ⟨rfl, i, rfl, hi, hF⟩
    rw [t_iunu0]
    simp only [Tree.holds, ltI_t, ltI_f, leI_t, leI_f, all_cons, all_nil, and_true, true_and, forall_eq, decide_eq_true_eq, decide_eq_false_iff_not, beq_iff_eq, beq_eq_false_iff_ne, bne_iff_ne, bne_eq_false_iff_eq, ne_eq, Decidable.not_not, selI_z, selB_z, selS_z, selN_z, selL_z, selI_s, selB_s, selS_s, selN_s, selL_s, Int.toNat_natCast, Nat.mul_one, Nat.zero_add, Nat.div_one, List.drop_zero, Nat.zero_mul, Nat.le_refl, Bool.not_eq_true', Bool.not_eq_false', Bool.false_eq_true, Bool.true_eq_false, not_true_eq_false, not_false_eq_true, false_imp_iff, true_imp_iff, if_true, if_false, sig, sigF, sigW, sigR, sigO, sigD, sigWD, List.map_cons, List.map_nil, sel_kstr, sel_kint, sel_kbool, unO_off, unB_bools, ByteArray.toList_eq]
    refine ⟨fun hj => ?_, fun hj => ?_⟩
    · obtain ⟨m, m1, m2⟩ := off_get (l := l) (i := i) (by omega)
      obtain ⟨c0, -⟩ := off_at m1
      have hb := List.getElem?_eq_getElem (show i < u.length by omega)
      generalize u[i] = b at hb
      have hbd := boolsD_at hb
      have hst := findU_step (k := k) m1 hb
      have on : (!b && sameK m.k k) = false → findU k l u = (findU k (l.drop (i + 1)) (u.drop (i + 1))).map (· + (i + 1)) := fun h => by
        rw [hF, hst, if_neg (by rw [h]; simp), Option.map_map]
        congr 1
        funext x
        show x + 1 + i = x + (i + 1)
        omega
      rw [selS_of c0, selB_of hbd]
      refine ⟨⟨by omega, by omega⟩, c0, fun hs => ⟨⟨by omega, by omega⟩, hbd, fun hb0 => ?_, fun hb1 => ⟨by unfold inK; omega, ⟨i + 1, rfl, by omega, on ?_⟩, by omega⟩⟩, fun hs => ⟨by unfold inK; omega, ⟨i + 1, rfl, by omega, on ?_⟩, by omega⟩⟩
      · rw [hF, hst, if_pos (by rw [hb0, sameK_iff.mpr (text_eq hs)]; rfl)]
        show [D.int .i64 (i : Int)] = [.int .i64 (plU (some (0 + i)))]
        rw [Nat.zero_add]
        rfl
      · rw [hb1]; rfl
      · rw [show sameK m.k k = false by unfold sameK; simpa using hs]; simp
    · rw [hF, List.drop_of_length_le (show l.length ≤ i by omega)]
      rfl
theorem ansM_ref {m : Med} (hv : medB m = true) : ansM m (refM m) = refM m := by
  unfold ansM
  rw [if_pos (by rw [hv, ref_valid hv]; rfl), if_neg (fun h => (okA_parts h).2.2.1 rfl)]
theorem ok_iansoD : FnOk Try.prog 22 s_iansoD := by
  refine fnOk (fn := Try.f22) (F := F_iansoD) (hs := hs_iansoD) (tab_cons ok_ioff (tab_cons ok_iunu (tab_cons ok_irfm (tab_cons ok_iansm tab_nil)))) mixed rfl rfl rfl [.list 25, .list 25] (by kernel_rfl) (by simp) ?_
  rintro n cs n' cs' ⟨l, o, e, hl, ho, hm, hm'⟩
  simp only [List.cons.injEq, D.list.injEq, true_and, and_true] at e
  obtain ⟨⟨rfl, rfl⟩, rfl, rfl⟩ := e
  refine ⟨fun h ys => h = 0 ∧ ∃ (k : Nat) (out : List Med) (u : List Bool), ys = [.list 25 l.length (offD l), .list 25 o.length (offD o), .int .i64 (0 : Nat), .int .i64 (l.length : Nat), .int .i64 (0 : Nat), .int .i64 (u.length : Nat), .int .i64 k, .list 25 0 (medsK l.length out), .list 4 0 (boolsD u)] ∧ k ≤ l.length ∧ u.length = o.length ∧ out.length = k ∧ offB l = true ∧ offB o = true ∧ ansO l o = out ++ ansL o (l.drop k) u, fun h ys => l.length - (selI ys 6).toNat, ?_, ?_⟩
  · rw [t_iansoD]
    simp only [F_iansoD_ioff, F_iansoD_iunu, F_iansoD_irfm, F_iansoD_iansm, s_ioff, s_iunu, s_irfm, s_iansm, Tree.holds, ltI_t, ltI_f, leI_t, leI_f, all_cons, all_nil, and_true, true_and, forall_eq, decide_eq_true_eq, decide_eq_false_iff_not, beq_iff_eq, beq_eq_false_iff_ne, bne_iff_ne, bne_eq_false_iff_eq, ne_eq, Decidable.not_not, selI_z, selB_z, selS_z, selN_z, selL_z, selI_s, selB_s, selS_s, selN_s, selL_s, Int.toNat_natCast, Nat.mul_one, Nat.zero_add, Nat.div_one, List.drop_zero, Nat.zero_mul, Nat.le_refl, Bool.not_eq_true', Bool.not_eq_false', Bool.false_eq_true, Bool.true_eq_false, not_true_eq_false, not_false_eq_true, false_imp_iff, true_imp_iff, if_true, if_false, sig, sigF, sigW, sigR, sigO, sigD, sigWD, List.map_cons, List.map_nil, boolsD_rep, unO_off]
    have E : ¬ (offB l && offB o) = true → [D.list 25 0 []] = [D.list 25 (ansO l o).length (offD (ansO l o))] := fun h => by
      have : ansO l o = [] := by unfold ansO; rw [if_neg h]
      rw [this]; rfl
    refine ⟨⟨l, rfl, hl, hm⟩, fun h => E (by rw [h]; simp), fun v1 => ⟨⟨o, rfl, ho, hm'⟩, fun h => E (by rw [h]; simp), fun v2 => ⟨⟨by omega, by omega, by omega⟩, ⟨by omega, by omega, by omega⟩, noOwn_rep zero_no _, 0, [], List.replicate o.length false, ?_, by omega, by simp, rfl, v1, v2, ?_⟩⟩⟩
    · simp [medsK, offD, flatD]
    · unfold ansO
      rw [if_pos (by rw [v1, v2]; rfl), show (o.map fun _ => false) = List.replicate o.length false by rw [List.map_const']]
      rfl
  · rintro h ys ⟨rfl, k, out, u, rfl, hk, hu, hol, v1, v2, hA⟩
    rw [t_iansoD0]
    simp only [F_iansoD_ioff, F_iansoD_iunu, F_iansoD_irfm, F_iansoD_iansm, s_ioff, s_iunu, s_irfm, s_iansm, Tree.holds, ltI_t, ltI_f, leI_t, leI_f, all_cons, all_nil, and_true, true_and, forall_eq, decide_eq_true_eq, decide_eq_false_iff_not, beq_iff_eq, beq_eq_false_iff_ne, bne_iff_ne, bne_eq_false_iff_eq, ne_eq, Decidable.not_not, selI_z, selB_z, selS_z, selN_z, selL_z, selI_s, selB_s, selS_s, selN_s, selL_s, Int.toNat_natCast, Nat.mul_one, Nat.zero_add, Nat.div_one, List.drop_zero, Nat.zero_mul, Nat.le_refl, Bool.not_eq_true', Bool.not_eq_false', Bool.false_eq_true, Bool.true_eq_false, not_true_eq_false, not_false_eq_true, false_imp_iff, true_imp_iff, if_true, if_false, sig, sigF, sigW, sigR, sigO, sigD, sigWD, List.map_cons, List.map_nil, sel_kstr, sel_kint, sel_kbool, unO_off, unB_bools, offD_take]
    have hbl := boolsD_len u
    have hbt : List.take u.length (boolsD u) = boolsD u := List.take_of_length_le (by omega)
    rw [hbt]
    simp only [unB_bools]
    have hml := medsK_len (n := l.length) (l := out) (by omega)
    refine ⟨fun hj => ?_, fun hj => ?_⟩
    · obtain ⟨m, m1, m2⟩ := off_get (l := l) (i := k) (by omega)
      obtain ⟨c0, c1, c2, c3, c4⟩ := off_at m1
      have hmm := hm m m2
      have hds : l.drop k = m :: l.drop (k + 1) := by
        rw [List.drop_eq_getElem_cons (by omega), show l[k] = m by rw [List.getElem?_eq_getElem (by omega)] at m1; injection m1]
      have hfr := medsK_free (n := l.length) (l := out)
      rw [hol] at hfr
      have push : ∀ x : Med, setL (medsK l.length out) (k * 5) [D.str (selS (medD x) 0), .int .i64 (selI (medD x) 1), .bool (selB (medD x) 2), .bool (selB (medD x) 3), .list 9 (selN (medD x) 4) (List.take (selN (medD x) 4) (selL (medD x) 4))] = medsK l.length (out ++ [x]) := fun x => by
        have := medsK_step (n := l.length) (l := out) x (by omega)
        rw [hol] at this
        rw [← this]
        show setL _ _ [_, _, _, _, D.list 9 x.c.length (List.take x.c.length (textsD x.c))] = _
        rw [textsD_take]
        rfl
      have cell : ∀ x : Med, selN (medD x) 4 ≤ (selL (medD x) 4).length := fun x => by
        show x.c.length ≤ (textsD x.c).length
        rw [textsD_len]; exact Nat.le_refl _
      have hvm := (off_parts v1).1 m m2
      have next : ∀ (x : Med) (u' : List Bool), u'.length = o.length → ansL o (l.drop k) u = x :: ansL o (l.drop (k + 1)) u' → ∃ (k_1 : Nat) (out_1 : List Med) (u_1 : List Bool), [D.list 25 l.length (offD l), .list 25 o.length (offD o), .int .i64 (0 : Nat), .int .i64 (l.length : Nat), .int .i64 (0 : Nat), .int .i64 (u.length : Nat), .int .i64 ((k : Int) + 1), .list 25 0 (medsK l.length (out ++ [x])), .list 4 0 (boolsD u')] = [.list 25 l.length (offD l), .list 25 o.length (offD o), .int .i64 (0 : Nat), .int .i64 (l.length : Nat), .int .i64 (0 : Nat), .int .i64 (u_1.length : Nat), .int .i64 k_1, .list 25 0 (medsK l.length out_1), .list 4 0 (boolsD u_1)] ∧ k_1 ≤ l.length ∧ u_1.length = o.length ∧ out_1.length = k_1 ∧ offB l = true ∧ offB o = true ∧ ansO l o = out_1 ++ ansL o (l.drop k_1) u_1 := fun x u' h1 h2 =>
        ⟨k + 1, out ++ [x], u', by rw [hu, h1]; rfl, by omega, h1, by simp [hol], v1, v2, by rw [hA, h2, List.append_assoc]; rfl⟩
      have lit := unM_med m
      simp only [medD] at lit
      rw [selS_of c0, selI_of c1, selB_of c2, selB_of c3, selN_of c4, selL_of c4]
      simp only [lit]
      cases hF : findU m.k o u with
      | none =>
        have hal : ansL o (l.drop k) u = refM m :: ansL o (l.drop (k + 1)) u := by rw [hds, ansL_cons, hF, ansM_ref hvm]
        simp only [plU, push]
        exact ⟨⟨by omega, by omega⟩, c0, by omega, ⟨o, u, m.k, rfl, ho, hu⟩, fun _ => ⟨⟨by omega, by omega⟩, ⟨c0, c1, c2, c3, .inl c4⟩, ⟨m, rfl, hmm⟩, ⟨by omega, by omega⟩, ⟨cell _, by omega, hfr⟩, by unfold inK; omega, next _ _ hu hal, by omega⟩, fun h => absurd (by omega) h⟩
      | some j =>
        obtain ⟨w, w1, w2, w3⟩ := findU_lt hF
        have hjo := (List.getElem?_eq_some_iff.mp w1).1
        have w4 := List.mem_of_getElem? w1
        obtain ⟨d0, d1, d2, d3, d4⟩ := off_at w1
        have hal : ansL o (l.drop k) u = ansM m w :: ansL o (l.drop (k + 1)) (u.set j true) := by
          rw [hds, ansL_cons, hF]
          show ansM m (o.getD j zeroMd) :: _ = _
          rw [List.getD_eq_getElem?_getD, w1]
          rfl
        have lit2 : unM [D.str m.k, .int .i64 m.p, .bool m.s, .bool m.h, .list 9 m.c.length (textsD m.c), .str w.k, .int .i64 w.p, .bool w.s, .bool w.h, .list 9 w.c.length (textsD w.c)] = m := unM_med m
        have lit3 := unM_med w
        simp only [medD] at lit3
        simp only [plU, Int.toNat_natCast]
        rw [selS_of d0, selI_of d1, selB_of d2, selB_of d3, selN_of d4, selL_of d4]
        simp only [lit2, lit3, List.drop_succ_cons, List.drop_zero, push, boolsD_set (show j < u.length by omega)]
        exact ⟨⟨by omega, by omega⟩, c0, by omega, ⟨o, u, m.k, rfl, ho, hu⟩, fun h => absurd h (by omega), fun _ => ⟨⟨by omega, by omega⟩, ⟨c0, c1, c2, c3, .inl c4⟩, ⟨by omega, by omega⟩, ⟨d0, d1, d2, d3, .inl d4⟩, ⟨m, w, rfl, hmm, hm' w w4⟩, ⟨by omega, by omega⟩, ⟨cell _, by omega, hfr⟩, ⟨by omega, by omega⟩, by omega, by unfold inK; omega, next _ _ (by rw [List.length_set, hu]) hal, by omega⟩⟩
    · obtain rfl : k = l.length := by omega
      rw [List.drop_of_length_le (Nat.le_refl _)] at hA
      have e1 : medsK l.length out = offD out := by rw [← hol]; exact medsK_all out
      have e2 : List.take (l.length * 5) (offD out) = offD out := List.take_of_length_le (by rw [offD_len, hol]; omega)
      have e3 : ansO l o = out := by rw [hA]; exact List.append_nil _
      rw [e1, e2, e3, hol]
      exact ⟨⟨by rw [offD_len]; omega, flat_off _⟩, rfl⟩
theorem ok_ihws : FnOk Try.prog 61 s_ihws := by
  refine fnOk (fn := Try.f61) (F := F_ihws) (hs := hs_ihws) (tab_cons ok_icom tab_nil) mixed rfl rfl rfl [.list 9, .list 9] (by kernel_rfl) (by simp) ?_
  rintro n cs n' cs' ⟨a, b, e, ha, hb, hs⟩
  simp only [List.cons.injEq, D.list.injEq, true_and, and_true] at e
  obtain ⟨⟨rfl, rfl⟩, rfl, rfl⟩ := e
  refine ⟨fun _ _ => False, fun _ _ => 0, ?_, fun _ _ h => h.elim⟩
  rw [t_ihws]
  simp only [F_ihws_icom, s_icom, Tree.holds, ltI_t, ltI_f, leI_t, leI_f, all_cons, all_nil, and_true, true_and, forall_eq, decide_eq_true_eq, decide_eq_false_iff_not, beq_iff_eq, beq_eq_false_iff_ne, bne_iff_ne, bne_eq_false_iff_eq, ne_eq, Decidable.not_not, selI_z, selB_z, selS_z, selN_z, selL_z, selI_s, selB_s, selS_s, selN_s, selL_s, Int.toNat_natCast, Nat.mul_one, Nat.zero_add, Nat.div_one, List.drop_zero, Nat.zero_mul, Nat.le_refl, Bool.not_eq_true', Bool.not_eq_false', Bool.false_eq_true, Bool.true_eq_false, not_true_eq_false, not_false_eq_true, false_imp_iff, true_imp_iff, if_true, if_false, sig, sigF, sigW, sigR, sigO, sigD, sigWD, List.map_cons, List.map_nil, unS_texts]
  refine ⟨⟨b, a, rfl, hb, ha, hs⟩, ret_bool' ?_⟩
  have := comS_len b a
  rw [Bool.eq_iff_iff, beq_iff_eq, decide_eq_true_eq]
  omega
theorem ok_imfit : FnOk Try.prog 43 s_imfit := by
  refine fnOk (fn := Try.f43) (F := F_imfit) (hs := hs_imfit) (tab_cons ok_iref (tab_cons ok_ihws tab_nil)) mixed rfl rfl rfl [.str, .int .i64, .bool, .bool, .list 9, .str, .int .i64, .bool, .bool, .list 9] (by kernel_rfl) (by simp) ?_
  rintro k p s h n cs k' p' s' h' n' cs' ⟨o, w, e, ho, hw, hp⟩
  simp only [medD, List.cons_append, List.nil_append, List.cons.injEq, D.str.injEq, D.int.injEq, D.bool.injEq, D.list.injEq, true_and, and_true] at e
  obtain ⟨rfl, rfl, rfl, rfl, ⟨rfl, rfl⟩, rfl, rfl, rfl, rfl, rfl, rfl⟩ := e
  refine ⟨fun _ _ => False, fun _ _ => 0, ?_, fun _ _ h => h.elim⟩
  rw [t_imfit]
  have hu2 := unM_med w
  have hu1 : unM [D.str o.k, .int .i64 o.p, .bool o.s, .bool o.h, .list 9 o.c.length (textsD o.c), .str w.k, .int .i64 w.p, .bool w.s, .bool w.h, .list 9 w.c.length (textsD w.c)] = o := unM_med o
  simp only [medD] at hu2
  simp only [F_imfit_iref, F_imfit_ihws, s_iref, s_ihws, Tree.holds, ltI_t, ltI_f, leI_t, leI_f, all_cons, all_nil, and_true, true_and, forall_eq, decide_eq_true_eq, decide_eq_false_iff_not, beq_iff_eq, beq_eq_false_iff_ne, bne_iff_ne, bne_eq_false_iff_eq, ne_eq, Decidable.not_not, selI_z, selB_z, selS_z, selN_z, selL_z, selI_s, selB_s, selS_s, selN_s, selL_s, Int.toNat_natCast, Nat.mul_one, Nat.zero_add, Nat.div_one, List.drop_zero, Nat.zero_mul, Nat.le_refl, Bool.not_eq_true', Bool.not_eq_false', Bool.false_eq_true, Bool.true_eq_false, not_true_eq_false, not_false_eq_true, false_imp_iff, true_imp_iff, if_true, if_false, sig, sigF, sigW, sigR, sigO, sigD, sigWD, List.map_cons, List.map_nil, hu1, hu2, List.drop_succ_cons, unS_texts, ByteArray.toList_eq]
  have hk := fit1_iff o w
  have P : ∃ a b : List ByteArray, [D.list 9 o.c.length (textsD o.c), .list 9 w.c.length (textsD w.c)] = [.list 9 a.length (textsD a), .list 9 b.length (textsD b)] ∧ a.length ≤ 1048576 ∧ b.length ≤ 1048576 ∧ ∀ x ∈ a, x.size ≤ 1048576 := ⟨o.c, w.c, rfl, ho.2.1, hw.2.1, ho.2.2⟩
  have No : ¬ fit1 o w = true → [D.bool false] = [D.bool (fit1 o w)] := fun h => by rw [show fit1 o w = false by simpa using h]
  refine ⟨fun h => No fun g => h (hk.mp g).1.symm, fun h1 => ⟨fun h2 => ret_bool' (hk.mpr ⟨h1.symm, .inl (by omega)⟩).symm, fun h2 => ?_⟩⟩
  have W : ∀ b : Bool, (o.p ≠ 0 → (w.s = true → o.h = true) → (w.h = true → o.s = true) → b = decide (w.c.length ≤ (comS w.c o.c).length)) → (¬ (o.p ≠ 0 ∧ (w.s = true → o.h = true) ∧ (w.h = true → o.s = true)) → b = false) → b = fit1 o w := fun b g1 g2 => by
    rw [Bool.eq_iff_iff, hk]
    by_cases g : o.p ≠ 0 ∧ (w.s = true → o.h = true) ∧ (w.h = true → o.s = true)
    · rw [g1 g.1 g.2.1 g.2.2, decide_eq_true_eq]
      exact ⟨fun q => ⟨h1.symm, .inr ⟨g.1, g.2.1, g.2.2, q⟩⟩, fun q => q.2.elim (fun q => by omega) fun q => q.2.2.2⟩
    · rw [g2 g]
      exact ⟨fun q => (by cases q), fun q => q.2.elim (fun q => by omega) fun q => absurd ⟨q.1, q.2.1, q.2.2.1⟩ g⟩
  refine ⟨fun h3 => ⟨fun a => ⟨fun b => ⟨P, ret_bool' (W _ (fun _ _ _ => rfl) fun g => absurd ⟨h3, fun _ => a, fun _ => b⟩ g)⟩, fun b => ⟨fun c => ⟨P, ret_bool' (W _ (fun _ _ _ => rfl) fun g => absurd ⟨h3, fun _ => a, fun h => (by rw [c] at h; cases h)⟩ g)⟩, fun c => ret_bool' (W _ (fun _ _ q => absurd (q c) (by rw [b]; simp)) fun _ => rfl)⟩⟩,
    fun a => ⟨fun b => ⟨fun c => ⟨P, ret_bool' (W _ (fun _ _ _ => rfl) fun g => absurd ⟨h3, (fun h => by rw [b] at h; cases h), fun _ => c⟩ g)⟩, fun c => ⟨fun d => ⟨P, ret_bool' (W _ (fun _ _ _ => rfl) fun g => absurd ⟨h3, (fun h => by rw [b] at h; cases h), (fun h => by rw [d] at h; cases h)⟩ g)⟩, fun d => ret_bool' (W _ (fun _ _ q => absurd (q d) (by rw [c]; simp)) fun _ => rfl)⟩⟩, fun b => ret_bool' (W _ (fun _ q _ => absurd (q b) (by rw [a]; simp)) fun _ => rfl)⟩⟩, fun h3 => ret_bool' (W _ (fun h => absurd h3 h) fun _ => rfl)⟩
theorem ok_ifits : FnOk Try.prog 15 s_ifits := by
  refine fnOk (fn := Try.f15) (F := F_ifits) (hs := hs_ifits) (tab_cons ok_ioff (tab_cons ok_imfit tab_nil)) mixed rfl rfl rfl [.list 25, .list 25] (by kernel_rfl) (by simp) ?_
  rintro n cs n' cs' ⟨l, o, e, hl, ho, hm, hm'⟩
  simp only [List.cons.injEq, D.list.injEq, true_and, and_true] at e
  obtain ⟨⟨rfl, rfl⟩, rfl, rfl⟩ := e
  refine ⟨fun h ys => h = 0 ∧ ∃ i : Nat, ys = [.list 25 l.length (offD l), .list 25 o.length (offD o), .int .i64 i] ∧ i ≤ l.length ∧ l.length = o.length ∧ offB l = true ∧ offB o = true ∧ fitL l o = fitL (l.drop i) (o.drop i), fun h ys => l.length - (selI ys 2).toNat, ?_, ?_⟩
  · rw [t_ifits]
    simp only [F_ifits_ioff, F_ifits_imfit, s_ioff, s_imfit, Tree.holds, ltI_t, ltI_f, leI_t, leI_f, all_cons, all_nil, and_true, true_and, forall_eq, decide_eq_true_eq, decide_eq_false_iff_not, beq_iff_eq, beq_eq_false_iff_ne, bne_iff_ne, bne_eq_false_iff_eq, ne_eq, Decidable.not_not, selI_z, selB_z, selS_z, selN_z, selL_z, selI_s, selB_s, selS_s, selN_s, selL_s, Int.toNat_natCast, Nat.mul_one, Nat.zero_add, Nat.div_one, List.drop_zero, Nat.zero_mul, Nat.le_refl, Bool.not_eq_true', Bool.not_eq_false', Bool.false_eq_true, Bool.true_eq_false, not_true_eq_false, not_false_eq_true, false_imp_iff, true_imp_iff, if_true, if_false, sig, sigF, sigW, sigR, sigO, sigD, sigWD, List.map_cons, List.map_nil, unO_off]
    refine ⟨⟨l, rfl, hl, hm⟩, fun h => ret_bool' ?_, fun v1 => ⟨⟨o, rfl, ho, hm'⟩, fun h => ret_bool' ?_, fun v2 => ⟨fun h => ret_bool' ?_, fun h => ⟨0, rfl, by omega, by omega, v1, v2, rfl⟩⟩⟩⟩
    · unfold fitO; rw [h]; rfl
    · unfold fitO; rw [h]; simp
    · unfold fitO; rw [show decide (l.length = o.length) = false from decide_eq_false (by omega)]; simp
  · rintro h ys ⟨rfl, i, rfl, hi, hlo, v1, v2, hf⟩
    rw [t_ifits0]
    simp only [F_ifits_ioff, F_ifits_imfit, s_ioff, s_imfit, Tree.holds, ltI_t, ltI_f, leI_t, leI_f, all_cons, all_nil, and_true, true_and, forall_eq, decide_eq_true_eq, decide_eq_false_iff_not, beq_iff_eq, beq_eq_false_iff_ne, bne_iff_ne, bne_eq_false_iff_eq, ne_eq, Decidable.not_not, selI_z, selB_z, selS_z, selN_z, selL_z, selI_s, selB_s, selS_s, selN_s, selL_s, Int.toNat_natCast, Nat.mul_one, Nat.zero_add, Nat.div_one, List.drop_zero, Nat.zero_mul, Nat.le_refl, Bool.not_eq_true', Bool.not_eq_false', Bool.false_eq_true, Bool.true_eq_false, not_true_eq_false, not_false_eq_true, false_imp_iff, true_imp_iff, if_true, if_false, sig, sigF, sigW, sigR, sigO, sigD, sigWD, List.map_cons, List.map_nil, sel_kstr, sel_kint, sel_kbool, unO_off]
    have hfo : fitO l o = fitL (l.drop i) (o.drop i) := by unfold fitO; rw [v1, v2, hf, show decide (l.length = o.length) = true from decide_eq_true hlo]; rfl
    refine ⟨fun hj => ?_, fun hj => ret_bool' ?_⟩
    · obtain ⟨m, m1, m2⟩ := off_get (l := l) (i := i) (by omega)
      obtain ⟨c0, c1, c2, c3, c4⟩ := off_at m1
      obtain ⟨w, w1, w2⟩ := off_get (l := o) (i := i) (by omega)
      obtain ⟨d0, d1, d2, d3, d4⟩ := off_at w1
      have hst : fitO l o = (fit1 m w && fitL (l.drop (i + 1)) (o.drop (i + 1))) := by
        rw [hfo, List.drop_eq_getElem_cons (by omega : i < l.length), List.drop_eq_getElem_cons (by omega : i < o.length)]
        rw [show l[i] = m by rw [List.getElem?_eq_getElem (by omega)] at m1; injection m1, show o[i] = w by rw [List.getElem?_eq_getElem (by omega)] at w1; injection w1]
        rfl
      have hwv := (med_iff.mp ((off_parts v2).1 w w2)).2.2.1.1
      have hu2 := unM_med w
      have hu1 : unM [D.str m.k, .int .i64 m.p, .bool m.s, .bool m.h, .list 9 m.c.length (textsD m.c), .str w.k, .int .i64 w.p, .bool w.s, .bool w.h, .list 9 w.c.length (textsD w.c)] = m := unM_med m
      simp only [medD] at hu2
      rw [selS_of c0, selI_of c1, selB_of c2, selB_of c3, selN_of c4, selL_of c4, selS_of d0, selI_of d1, selB_of d2, selB_of d3, selN_of d4, selL_of d4, c0, c1, c2, c3, c4, d0, d1, d2, d3, d4]
      simp only [hu1, hu2, List.drop_succ_cons, List.drop_zero]
      refine ⟨⟨by omega, by omega⟩, ⟨trivial, trivial, trivial, trivial, .inl trivial⟩, ⟨by omega, by omega⟩, ⟨trivial, trivial, trivial, trivial, .inl trivial⟩, ⟨m, w, rfl, hm m m2, hm' w w2, hwv⟩, fun h => ret_bool' ?_, fun h => ⟨by unfold inK; omega, ⟨i + 1, rfl, by omega, hlo, v1, v2, ?_⟩, by omega⟩⟩
      · rw [hst, h]; rfl
      · rw [hf, ← hfo, hst, h, Bool.true_and]
    · obtain rfl : i = l.length := by omega
      rw [hfo, List.drop_of_length_le (Nat.le_refl _)]
      rfl
end Go.Proofs.Ytjleempapphlhab.Mini
end
