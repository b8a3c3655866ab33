/- Parts of the proof: AnsXP. -/
import Derived.Test.YtbdmhdobdpcpaaaZfAnsX
import Derived.Test.YtbdmhdobdpcpaaaZfAnsT
section
namespace Go.Proofs.Ytbdmhdobdpcpaaa.Mini
open Go Go.RowKit
set_option linter.unusedVariables false
set_option linter.unusedSimpArgs false
set_option maxRecDepth 20000
theorem ok_eao : FnOk Try.prog 8 s_eao := by
  refine fnOk (fn := Try.f8) (F := F_eao) (hs := hs_eao) (tab_cons ok_szoff (tab_cons ok_sanso (tab_cons ok_tooffD (tab_cons ok_iansoD (tab_cons ok_eqoff (tab_cons ok_mkoff (tab_cons ok_hdoff tab_nil))))))) mixed rfl rfl rfl [.list 41, .list 41] (by kernel_rfl) (by simp) ?_
  intro n cs n' cs' hw
  obtain ⟨w0, w1, -⟩ := hw
  obtain ⟨l, e, hl, hm⟩ := wf_offer w0
  simp only [lawD, List.cons.injEq, D.list.injEq, true_and, and_true] at e
  obtain ⟨rfl, rfl⟩ := e
  obtain ⟨o, e, ho, hm'⟩ := wf_offer w1
  simp only [lawD, List.cons.injEq, D.list.injEq, true_and, and_true] at e
  obtain ⟨rfl, rfl⟩ := e
  refine ⟨fun h ys => False, fun h ys => 0, ?_, fun _ _ h => h.elim⟩
  rw [t_eao]
  simp only [F_eao_szoff, F_eao_sanso, F_eao_tooffD, F_eao_iansoD, F_eao_eqoff, F_eao_mkoff, F_eao_hdoff, s_szoff, s_sanso, s_tooffD, s_iansoD, s_eqoff, s_mkoff, s_hdoff, Tree.holds, ltI_t, ltI_f, leI_t, leI_f, all_cons, all_nil, and_true, true_and, forall_eq, decide_eq_true_eq, decide_eq_false_iff_not, beq_iff_eq, beq_eq_false_iff_ne, bne_iff_ne, bne_eq_false_iff_eq, ne_eq, Decidable.not_not, selI_z, selB_z, selS_z, selN_z, selL_z, selI_s, selB_s, selS_s, selN_s, selL_s, Int.toNat_natCast, Nat.mul_one, Nat.zero_add, Nat.div_one, List.drop_zero, Nat.zero_mul, Nat.le_refl, Bool.not_eq_true', Bool.not_eq_false', Bool.false_eq_true, Bool.true_eq_false, not_true_eq_false, not_false_eq_true, false_imp_iff, true_imp_iff, if_true, if_false, sig, sigF, sigW, sigR, sigO, sigD, sigWD, List.map_cons, List.map_nil]
  refine ⟨⟨l, 1048576, rfl, hl, hm, by omega, by omega⟩, ?_⟩
  rintro ys ⟨r, rfl, r0, r1, r2⟩
  simp only [F_eao_szoff, F_eao_sanso, F_eao_tooffD, F_eao_iansoD, F_eao_eqoff, F_eao_mkoff, F_eao_hdoff, s_szoff, s_sanso, s_tooffD, s_iansoD, s_eqoff, s_mkoff, s_hdoff, Tree.holds, ltI_t, ltI_f, leI_t, leI_f, all_cons, all_nil, and_true, true_and, forall_eq, decide_eq_true_eq, decide_eq_false_iff_not, beq_iff_eq, beq_eq_false_iff_ne, bne_iff_ne, bne_eq_false_iff_eq, ne_eq, Decidable.not_not, selI_z, selB_z, selS_z, selN_z, selL_z, selI_s, selB_s, selS_s, selN_s, selL_s, Int.toNat_natCast, Nat.mul_one, Nat.zero_add, Nat.div_one, List.drop_zero, Nat.zero_mul, Nat.le_refl, Bool.not_eq_true', Bool.not_eq_false', Bool.false_eq_true, Bool.true_eq_false, not_true_eq_false, not_false_eq_true, false_imp_iff, true_imp_iff, if_true, if_false, sig, sigF, sigW, sigR, sigO, sigD, sigWD, List.map_cons, List.map_nil]
  refine ⟨fun _ => trivial, fun h => ⟨⟨o, r, rfl, ho, hm', by omega, by omega⟩, ?_⟩⟩
  rintro ys ⟨r', rfl, r0', r1', r2'⟩
  simp only [F_eao_szoff, F_eao_sanso, F_eao_tooffD, F_eao_iansoD, F_eao_eqoff, F_eao_mkoff, F_eao_hdoff, s_szoff, s_sanso, s_tooffD, s_iansoD, s_eqoff, s_mkoff, s_hdoff, Tree.holds, ltI_t, ltI_f, leI_t, leI_f, all_cons, all_nil, and_true, true_and, forall_eq, decide_eq_true_eq, decide_eq_false_iff_not, beq_iff_eq, beq_eq_false_iff_ne, bne_iff_ne, bne_eq_false_iff_eq, ne_eq, Decidable.not_not, selI_z, selB_z, selS_z, selN_z, selL_z, selI_s, selB_s, selS_s, selN_s, selL_s, Int.toNat_natCast, Nat.mul_one, Nat.zero_add, Nat.div_one, List.drop_zero, Nat.zero_mul, Nat.le_refl, Bool.not_eq_true', Bool.not_eq_false', Bool.false_eq_true, Bool.true_eq_false, not_true_eq_false, not_false_eq_true, false_imp_iff, true_imp_iff, if_true, if_false, sig, sigF, sigW, sigR, sigO, sigD, sigWD, List.map_cons, List.map_nil]
  refine ⟨fun _ => trivial, fun h' => ?_⟩
  obtain ⟨hs1, hs2⟩ := r2 (by omega) (by omega)
  obtain ⟨hs1', hs2'⟩ := r2' (by omega) (by omega)
  rw [unO_off] at hs2 hs2'
  have hx2 := sm_ansO hs2 hs2'
  have hxl := @ansO_len l o
  have e1 : ∀ l : List Med, D.list 33 (selN (impD l) 0) (selL (impD l) 0) = .list 33 l.length (offD l) := fun _ => rfl
  have e2 : ∀ l : List Med, selL (impD l) 0 = offD l := fun _ => rfl
  have e3 : ∀ l : List Med, selN (impD l) 0 = l.length := fun _ => rfl
  have k1 : ((1 : Int)).toNat = 1 := rfl
  have c1 := cntO_sm hs2
  have c2 := cntO_sm hs2'
  have c3 := cntO_sm hx2
  clear r2 r2' w0 w1
  simp only [unO_off, e1, e2, e3, k1, offD_take, offD_len, Int.toNat_natCast, mkO_len, cntO_mk, F_eao_szoff, F_eao_sanso, F_eao_tooffD, F_eao_iansoD, F_eao_eqoff, F_eao_mkoff, F_eao_hdoff, s_szoff, s_sanso, s_tooffD, s_iansoD, s_eqoff, s_mkoff, s_hdoff, Tree.holds, ltI_t, ltI_f, leI_t, leI_f, all_cons, all_nil, and_true, true_and, forall_eq, decide_eq_true_eq, decide_eq_false_iff_not, beq_iff_eq, beq_eq_false_iff_ne, bne_iff_ne, bne_eq_false_iff_eq, ne_eq, Decidable.not_not, selI_z, selB_z, selS_z, selN_z, selL_z, selI_s, selB_s, selS_s, selN_s, selL_s, Int.toNat_natCast, Nat.mul_one, Nat.zero_add, Nat.div_one, List.drop_zero, Nat.zero_mul, Nat.le_refl, Bool.not_eq_true', Bool.not_eq_false', Bool.false_eq_true, Bool.true_eq_false, not_true_eq_false, not_false_eq_true, false_imp_iff, true_imp_iff, if_true, if_false, sig, sigF, sigW, sigR, sigO, sigD, sigWD, List.map_cons, List.map_nil]
  generalize ansO l o = x at *
  have tk : List.take (x.length * 5) (offD (mkO 1 x)) = offD (mkO 1 x) := List.take_of_length_le (by rw [offD_len, mkO_len]; omega)
  simp only [tk, unO_off, mkO_len, cntO_mk, offD_len]
  have F := flat_off
  have A : ∀ l : List Med, l.length ≤ 1048576 → (∀ m ∈ l, smM m) → ∃ l_1, [D.list 41 l.length (offD l)] = lawD l_1 ∧ l_1.length ≤ 1048576 ∧ ∀ m ∈ l_1, smM m := fun l h1 h2 => ⟨l, rfl, h1, h2⟩
  have E : ∀ l : List Med, l.length ≤ 1048576 → (∀ m ∈ l, smM m) → ∃ l_1, [D.list 33 l.length (offD l), D.list 33 l.length (offD l)] = impD l_1 ++ impD l_1 ∧ l_1.length ≤ 1048576 ∧ ∀ m ∈ l_1, smM m := fun l h1 h2 => ⟨l, rfl, h1, h2⟩
  have P : ∃ l_1 o_1 : List Med, [D.list 33 l.length (offD l), .list 33 o.length (offD o)] = [.list 33 l_1.length (offD l_1), .list 33 o_1.length (offD o_1)] ∧ l_1.length ≤ 1048576 ∧ o_1.length ≤ 1048576 ∧ (∀ m ∈ l_1, smM m) ∧ ∀ m ∈ o_1, smM m := ⟨l, o, rfl, hs1, hs1', hs2, hs2'⟩
  have M : ∀ (l : List Med) (k : Nat), 1 ≤ k → k + cntO l ≤ 900000000000000 → (∀ m ∈ l, smM m) → ∃ (l_1 : List Med) (k_1 : Nat), [D.list 33 l.length (offD l), .int .i64 (k : Int)] = impD l_1 ++ [.int .i64 (k_1 : Int)] ∧ 1 ≤ k_1 ∧ k_1 + cntO l_1 ≤ 900000000000000 ∧ ∀ m ∈ l_1, wfM m := fun l k h1 h2 h3 => ⟨l, k, rfl, h1, h2, fun m hx => sm_max (h3 m hx)⟩
  have H : ∃ (l_1 : List Med) (k_1 : Nat), [D.list 33 x.length (offD (mkO 1 x)), .int .i64 1] = impD (mkO k_1 l_1) ++ [.int .i64 (k_1 : Int)] ∧ 1 ≤ k_1 ∧ k_1 + cntO l_1 ≤ 900000000000000 := ⟨x, 1, by unfold impD; rw [mkO_len]; rfl, by omega, by omega⟩
  have hxl' : x.length ≤ 1048576 := by omega
  repeat' (first | exact trivial | exact F _ | exact P | exact A l hs1 hs2 | exact A o hs1' hs2' | exact E l hs1 hs2 | exact E o hs1' hs2' | exact E x hxl' hx2 | exact H | exact same_off _ _ | exact M l 1 (by omega) (by omega) hs2 | exact M o _ (by omega) (by omega) hs2' | exact M x 1 (by omega) (by omega) hx2 | omega | (intro h9; exact absurd trivial h9) | (intro h9; exact absurd h9 (by omega)) | (intro _) | apply And.intro)
end Go.Proofs.Ytbdmhdobdpcpaaa.Mini
end
