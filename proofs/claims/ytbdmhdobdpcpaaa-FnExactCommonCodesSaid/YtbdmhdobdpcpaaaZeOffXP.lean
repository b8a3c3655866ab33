/- Parts of the proof: OffXP. -/
import Derived.Test.YtbdmhdobdpcpaaaZeOffX
section
namespace Go.Proofs.Ytbdmhdobdpcpaaa.Mini
open Go Go.RowKit
set_option linter.unusedVariables false
set_option linter.unusedSimpArgs false
set_option maxRecDepth 20000
theorem mtx_len (k n : Nat) : (mtx k n).length = n := by simp [mtx]
theorem mks_texts (k n : Nat) : mks [.str] k n = textsD (mtx k n) := by
  unfold mks textsD mtx
  rw [List.map_map]
  apply List.map_congr_left
  intro i _
  simp [Nat.mod_one, mkD]
theorem ok_tomedO : FnOk Try.prog 28 s_tomedO := by
  refine fnOk (fn := Try.f28) (F := F_tomedO) (hs := hs_tomedO) (tab_cons ok_tostr tab_nil) mixed rfl rfl rfl [.str, .int .i64, .bool, .bool, .list 9] (by kernel_rfl) (by simp) ?_
  rintro k p s h n cs ⟨m, e, hm⟩
  obtain ⟨rfl, rfl, rfl, rfl, rfl, rfl⟩ := med_open e
  obtain ⟨g1, g2, g3⟩ := sm_max hm
  have g4 := hm.2.1
  refine ⟨fun _ _ => False, fun _ _ => 0, ?_, fun _ _ h => h.elim⟩
  rw [t_tomedO]
  have hu : unM [D.str m.k, .int .i64 m.p, .bool m.s, .bool m.h, .list 9 m.c.length (textsD m.c)] = m := unM_med m
  simp only [F_tomedO_tostr, s_tostr, Tree.holds, ltI_t, ltI_f, leI_t, leI_f, all_cons, all_nil, and_true, true_and, forall_eq, decide_eq_true_eq, decide_eq_false_iff_not, beq_iff_eq, beq_eq_false_iff_ne, bne_iff_ne, bne_eq_false_iff_eq, ne_eq, Decidable.not_not, selI_z, selB_z, selS_z, selN_z, selL_z, selI_s, selB_s, selS_s, selN_s, selL_s, Int.toNat_natCast, Nat.mul_one, Nat.zero_add, Nat.div_one, List.drop_zero, Nat.zero_mul, Nat.le_refl, Bool.not_eq_true', Bool.not_eq_false', Bool.false_eq_true, Bool.true_eq_false, not_true_eq_false, not_false_eq_true, false_imp_iff, true_imp_iff, if_true, if_false, sig, sigF, sigW, sigR, sigO, sigD, sigWD, List.map_cons, List.map_nil, hu]
  refine ⟨⟨okC_texts g3, by omega⟩, ⟨by rw [textsD_len]; omega, by rw [textsD_take]; exact textsD_scal _⟩, ?_⟩
  rw [textsD_take]
  rfl
end Go.Proofs.Ytbdmhdobdpcpaaa.Mini
end
