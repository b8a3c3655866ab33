/- Parts of the proof: AnsDP. -/
import Derived.Test.YtjleempapphlhabGdAnsT
section
namespace Go.Proofs.Ytjleempapphlhab.Mini
open Go Go.RowKit
set_option linter.unusedVariables false
set_option linter.unusedSimpArgs false
set_option maxRecDepth 20000
theorem ok_dam : FnOk Try.prog 9 s_dam := by
  refine fnOk (fn := Try.f9) (F := F_dam) (hs := hs_dam) (tab_cons ok_dopen (tab_cons ok_dmedia tab_nil)) mixed rfl rfl rfl [.list 5] (by kernel_rfl) (by simp) ?_
  intro m bl hb
  refine ⟨fun h ys => False, fun h ys => 0, ?_, fun _ _ h => h.elim⟩
  rw [t_dam]
  simp only [F_dam_dopen, F_dam_dmedia, s_dopen, s_dmedia, Tree.holds, ltI_t, ltI_f, leI_t, leI_f, all_cons, all_nil, and_true, true_and, forall_eq, decide_eq_true_eq, decide_eq_false_iff_not, beq_iff_eq, beq_eq_false_iff_ne, bne_iff_ne, bne_eq_false_iff_eq, ne_eq, Decidable.not_not, selI_z, selB_z, selS_z, selN_z, selL_z, selI_s, selB_s, selS_s, selN_s, selL_s, Int.toNat_natCast, Nat.mul_one, Nat.zero_add, Nat.div_one, List.drop_zero, Nat.zero_mul, Nat.le_refl, Bool.not_eq_true', Bool.not_eq_false', Bool.false_eq_true, Bool.true_eq_false, not_true_eq_false, not_false_eq_true, false_imp_iff, true_imp_iff, if_true, if_false, sig, sigF, sigW, sigR, sigO, sigD, sigWD, List.map_cons, List.map_nil]
  refine ⟨hb, ?_⟩
  rintro ys ⟨L, hL, rfl⟩
  simp only [F_dam_dopen, F_dam_dmedia, s_dopen, s_dmedia, Tree.holds, ltI_t, ltI_f, leI_t, leI_f, all_cons, all_nil, and_true, true_and, forall_eq, decide_eq_true_eq, decide_eq_false_iff_not, beq_iff_eq, beq_eq_false_iff_ne, bne_iff_ne, bne_eq_false_iff_eq, ne_eq, Decidable.not_not, selI_z, selB_z, selS_z, selN_z, selL_z, selI_s, selB_s, selS_s, selN_s, selL_s, Int.toNat_natCast, Nat.mul_one, Nat.zero_add, Nat.div_one, List.drop_zero, Nat.zero_mul, Nat.le_refl, Bool.not_eq_true', Bool.not_eq_false', Bool.false_eq_true, Bool.true_eq_false, not_true_eq_false, not_false_eq_true, false_imp_iff, true_imp_iff, if_true, if_false, sig, sigF, sigW, sigR, sigO, sigD, sigWD, List.map_cons, List.map_nil]
  refine ⟨⟨rd_in hL (by omega) (by omega), by omega, by omega⟩, ?_⟩
  rintro ys ⟨p1, rs, rfl, q1, q2, a, rfl, ha⟩
  rw [rdN_z] at q1 q2
  simp only [F_dam_dopen, F_dam_dmedia, s_dopen, s_dmedia, Tree.holds, ltI_t, ltI_f, leI_t, leI_f, all_cons, all_nil, and_true, true_and, forall_eq, decide_eq_true_eq, decide_eq_false_iff_not, beq_iff_eq, beq_eq_false_iff_ne, bne_iff_ne, bne_eq_false_iff_eq, ne_eq, Decidable.not_not, selI_z, selB_z, selS_z, selN_z, selL_z, selI_s, selB_s, selS_s, selN_s, selL_s, Int.toNat_natCast, Nat.mul_one, Nat.zero_add, Nat.div_one, List.drop_zero, Nat.zero_mul, Nat.le_refl, Bool.not_eq_true', Bool.not_eq_false', Bool.false_eq_true, Bool.true_eq_false, not_true_eq_false, not_false_eq_true, false_imp_iff, true_imp_iff, if_true, if_false, sig, sigF, sigW, sigR, sigO, sigD, sigWD, List.map_cons, List.map_nil, rdB_z]
  refine ⟨⟨rd_in hL (by omega) (by omega), by omega, by omega⟩, ?_⟩
  rintro ys ⟨p2, rs, rfl, q3, q4, b, rfl, hb'⟩
  exact ⟨a, b, rfl, ha, hb'⟩
theorem ok_dao : FnOk Try.prog 21 s_dao := by
  refine fnOk (fn := Try.f21) (F := F_dao) (hs := hs_dao) (tab_cons ok_dopen (tab_cons ok_doffer tab_nil)) mixed rfl rfl rfl [.list 5] (by kernel_rfl) (by simp) ?_
  intro m bl hb
  refine ⟨fun h ys => False, fun h ys => 0, ?_, fun _ _ h => h.elim⟩
  rw [t_dao]
  simp only [F_dao_dopen, F_dao_doffer, s_dopen, s_doffer, Tree.holds, ltI_t, ltI_f, leI_t, leI_f, all_cons, all_nil, and_true, true_and, forall_eq, decide_eq_true_eq, decide_eq_false_iff_not, beq_iff_eq, beq_eq_false_iff_ne, bne_iff_ne, bne_eq_false_iff_eq, ne_eq, Decidable.not_not, selI_z, selB_z, selS_z, selN_z, selL_z, selI_s, selB_s, selS_s, selN_s, selL_s, Int.toNat_natCast, Nat.mul_one, Nat.zero_add, Nat.div_one, List.drop_zero, Nat.zero_mul, Nat.le_refl, Bool.not_eq_true', Bool.not_eq_false', Bool.false_eq_true, Bool.true_eq_false, not_true_eq_false, not_false_eq_true, false_imp_iff, true_imp_iff, if_true, if_false, sig, sigF, sigW, sigR, sigO, sigD, sigWD, List.map_cons, List.map_nil]
  refine ⟨hb, ?_⟩
  rintro ys ⟨L, hL, rfl⟩
  simp only [F_dao_dopen, F_dao_doffer, s_dopen, s_doffer, Tree.holds, ltI_t, ltI_f, leI_t, leI_f, all_cons, all_nil, and_true, true_and, forall_eq, decide_eq_true_eq, decide_eq_false_iff_not, beq_iff_eq, beq_eq_false_iff_ne, bne_iff_ne, bne_eq_false_iff_eq, ne_eq, Decidable.not_not, selI_z, selB_z, selS_z, selN_z, selL_z, selI_s, selB_s, selS_s, selN_s, selL_s, Int.toNat_natCast, Nat.mul_one, Nat.zero_add, Nat.div_one, List.drop_zero, Nat.zero_mul, Nat.le_refl, Bool.not_eq_true', Bool.not_eq_false', Bool.false_eq_true, Bool.true_eq_false, not_true_eq_false, not_false_eq_true, false_imp_iff, true_imp_iff, if_true, if_false, sig, sigF, sigW, sigR, sigO, sigD, sigWD, List.map_cons, List.map_nil]
  refine ⟨⟨rd_in hL (by omega) (by omega), by omega, by omega⟩, ?_⟩
  rintro ys ⟨p1, rs, rfl, q1, q2, l, rfl, hl, hlm⟩
  rw [rdN_z] at q1 q2
  simp only [F_dao_dopen, F_dao_doffer, s_dopen, s_doffer, Tree.holds, ltI_t, ltI_f, leI_t, leI_f, all_cons, all_nil, and_true, true_and, forall_eq, decide_eq_true_eq, decide_eq_false_iff_not, beq_iff_eq, beq_eq_false_iff_ne, bne_iff_ne, bne_eq_false_iff_eq, ne_eq, Decidable.not_not, selI_z, selB_z, selS_z, selN_z, selL_z, selI_s, selB_s, selS_s, selN_s, selL_s, Int.toNat_natCast, Nat.mul_one, Nat.zero_add, Nat.div_one, List.drop_zero, Nat.zero_mul, Nat.le_refl, Bool.not_eq_true', Bool.not_eq_false', Bool.false_eq_true, Bool.true_eq_false, not_true_eq_false, not_false_eq_true, false_imp_iff, true_imp_iff, if_true, if_false, sig, sigF, sigW, sigR, sigO, sigD, sigWD, List.map_cons, List.map_nil, rdB_z]
  refine ⟨⟨rd_in hL (by omega) (by omega), by omega, by omega⟩, ?_⟩
  rintro ys ⟨p2, rs, rfl, q3, q4, o, rfl, ho, hom⟩
  exact ⟨l, o, rfl, hl, ho, hlm, hom⟩
theorem dr_zero : drM zeroMd := ⟨by decide, by simp [zeroMd], by simp [zeroMd]⟩
theorem dr_ans {o w : Med} (h : drM o) : drM (ansM o w) := by
  unfold ansM
  split
  · split
    · have := comS_len o.c w.c
      exact ⟨h.1, by show (comS o.c w.c).length ≤ _; have := h.2.1; omega, fun x hx => h.2.2 x (List.mem_filter.mp hx).1⟩
    · exact ⟨h.1, h.2.1, h.2.2⟩
  · exact dr_zero
theorem dr_ansO {l own : List Med} (hl : ∀ m ∈ l, drM m) (hw : ∀ m ∈ own, drM m) : ∀ m ∈ ansO l own, drM m := ansO_each (fun o w h _ => dr_ans h) (fun o h => ⟨h.1, h.2.1, h.2.2⟩) hl hw
theorem ok_daf : FnOk Try.prog 31 s_daf := by
  refine fnOk (fn := Try.f31) (F := F_daf) (hs := hs_daf) (tab_cons ok_dopen (tab_cons ok_doffer (tab_cons ok_dpick (tab_cons ok_sanso tab_nil)))) mixed rfl rfl rfl [.list 5] (by kernel_rfl) (by simp) ?_
  intro m bl hb
  refine ⟨fun h ys => False, fun h ys => 0, ?_, fun _ _ h => h.elim⟩
  rw [t_daf]
  simp only [F_daf_dopen, F_daf_doffer, F_daf_dpick, F_daf_sanso, s_dopen, s_doffer, s_dpick, s_sanso, Tree.holds, ltI_t, ltI_f, leI_t, leI_f, all_cons, all_nil, and_true, true_and, forall_eq, decide_eq_true_eq, decide_eq_false_iff_not, beq_iff_eq, beq_eq_false_iff_ne, bne_iff_ne, bne_eq_false_iff_eq, ne_eq, Decidable.not_not, selI_z, selB_z, selS_z, selN_z, selL_z, selI_s, selB_s, selS_s, selN_s, selL_s, Int.toNat_natCast, Nat.mul_one, Nat.zero_add, Nat.div_one, List.drop_zero, Nat.zero_mul, Nat.le_refl, Bool.not_eq_true', Bool.not_eq_false', Bool.false_eq_true, Bool.true_eq_false, not_true_eq_false, not_false_eq_true, false_imp_iff, true_imp_iff, if_true, if_false, sig, sigF, sigW, sigR, sigO, sigD, sigWD, List.map_cons, List.map_nil]
  refine ⟨hb, ?_⟩
  rintro ys ⟨L, hL, rfl⟩
  simp only [F_daf_dopen, F_daf_doffer, F_daf_dpick, F_daf_sanso, s_dopen, s_doffer, s_dpick, s_sanso, Tree.holds, ltI_t, ltI_f, leI_t, leI_f, all_cons, all_nil, and_true, true_and, forall_eq, decide_eq_true_eq, decide_eq_false_iff_not, beq_iff_eq, beq_eq_false_iff_ne, bne_iff_ne, bne_eq_false_iff_eq, ne_eq, Decidable.not_not, selI_z, selB_z, selS_z, selN_z, selL_z, selI_s, selB_s, selS_s, selN_s, selL_s, Int.toNat_natCast, Nat.mul_one, Nat.zero_add, Nat.div_one, List.drop_zero, Nat.zero_mul, Nat.le_refl, Bool.not_eq_true', Bool.not_eq_false', Bool.false_eq_true, Bool.true_eq_false, not_true_eq_false, not_false_eq_true, false_imp_iff, true_imp_iff, if_true, if_false, sig, sigF, sigW, sigR, sigO, sigD, sigWD, List.map_cons, List.map_nil]
  refine ⟨⟨rd_in hL (by omega) (by omega), by omega, by omega⟩, ?_⟩
  rintro ys ⟨p1, rs, rfl, q1, q2, l, rfl, hl, hlm⟩
  rw [rdN_z] at q1 q2
  simp only [F_daf_dopen, F_daf_doffer, F_daf_dpick, F_daf_sanso, s_dopen, s_doffer, s_dpick, s_sanso, Tree.holds, ltI_t, ltI_f, leI_t, leI_f, all_cons, all_nil, and_true, true_and, forall_eq, decide_eq_true_eq, decide_eq_false_iff_not, beq_iff_eq, beq_eq_false_iff_ne, bne_iff_ne, bne_eq_false_iff_eq, ne_eq, Decidable.not_not, selI_z, selB_z, selS_z, selN_z, selL_z, selI_s, selB_s, selS_s, selN_s, selL_s, Int.toNat_natCast, Nat.mul_one, Nat.zero_add, Nat.div_one, List.drop_zero, Nat.zero_mul, Nat.le_refl, Bool.not_eq_true', Bool.not_eq_false', Bool.false_eq_true, Bool.true_eq_false, not_true_eq_false, not_false_eq_true, false_imp_iff, true_imp_iff, if_true, if_false, sig, sigF, sigW, sigR, sigO, sigD, sigWD, List.map_cons, List.map_nil, rdB_z]
  refine ⟨⟨rd_in hL (by omega) (by omega), by omega, by omega⟩, ?_⟩
  rintro ys ⟨p2, rs, rfl, q3, q4, o, rfl, ho, hom⟩
  rw [rdN_z] at q3 q4
  simp only [F_daf_dopen, F_daf_doffer, F_daf_dpick, F_daf_sanso, s_dopen, s_doffer, s_dpick, s_sanso, Tree.holds, ltI_t, ltI_f, leI_t, leI_f, all_cons, all_nil, and_true, true_and, forall_eq, decide_eq_true_eq, decide_eq_false_iff_not, beq_iff_eq, beq_eq_false_iff_ne, bne_iff_ne, bne_eq_false_iff_eq, ne_eq, Decidable.not_not, selI_z, selB_z, selS_z, selN_z, selL_z, selI_s, selB_s, selS_s, selN_s, selL_s, Int.toNat_natCast, Nat.mul_one, Nat.zero_add, Nat.div_one, List.drop_zero, Nat.zero_mul, Nat.le_refl, Bool.not_eq_true', Bool.not_eq_false', Bool.false_eq_true, Bool.true_eq_false, not_true_eq_false, not_false_eq_true, false_imp_iff, true_imp_iff, if_true, if_false, sig, sigF, sigW, sigR, sigO, sigD, sigWD, List.map_cons, List.map_nil, rdB_z]
  refine ⟨⟨rd_in hL (by omega) (by omega), by omega, by omega⟩, ?_⟩
  rintro ys ⟨p3, rs, rfl, p3a, p3b, x, rfl, x0, x1⟩
  rw [rdN_z] at p3a p3b
  have x1 : x < 3 := x1
  try simp only [F_daf_dopen, F_daf_doffer, F_daf_dpick, F_daf_sanso, s_dopen, s_doffer, s_dpick, s_sanso, Tree.holds, ltI_t, ltI_f, leI_t, leI_f, all_cons, all_nil, and_true, true_and, forall_eq, decide_eq_true_eq, decide_eq_false_iff_not, beq_iff_eq, beq_eq_false_iff_ne, bne_iff_ne, bne_eq_false_iff_eq, ne_eq, Decidable.not_not, selI_z, selB_z, selS_z, selN_z, selL_z, selI_s, selB_s, selS_s, selN_s, selL_s, Int.toNat_natCast, Nat.mul_one, Nat.zero_add, Nat.div_one, List.drop_zero, Nat.zero_mul, Nat.le_refl, Bool.not_eq_true', Bool.not_eq_false', Bool.false_eq_true, Bool.true_eq_false, not_true_eq_false, not_false_eq_true, false_imp_iff, true_imp_iff, if_true, if_false, sig, sigF, sigW, sigR, sigO, sigD, sigWD, List.map_cons, List.map_nil, rdB_z]
  have hlen := @ansO_len l o
  simp only [unO_off]
  exact ⟨fun _ => ⟨⟨l, o, rfl, by omega, by omega, fun m hx => drM_sm (hlm m hx), fun m hx => drM_sm (hom m hx)⟩, l, ansO l o, rfl, hl, by omega, hlm, dr_ansO hlm hom⟩, fun _ => ⟨l, o, rfl, hl, ho, hlm, hom⟩⟩
end Go.Proofs.Ytjleempapphlhab.Mini
end
