/- Parts of the proof: Help. -/
import Derived.Test.YtjleempapphlhabGeMini16
import Derived.Test.YtjleempapphlhabGeTyp3
import Derived.Test.YtjleempapphlhabGeMini18
section
namespace Go.Proofs.Ytjleempapphlhab.Mini
open Go Go.RowKit
set_option linter.unusedVariables false
set_option linter.unusedSimpArgs false
set_option maxRecDepth 20000
theorem mixed : Try.prog.follows .mixedOrders = true := by kernel_rfl
/-- Marks. -/
def marks (k : Int) (n : Nat) : List Int := (List.range n).map fun (i : Nat) => k + (i : Int)
def inB (a b c : Int) : Bool := decide (b ≤ a) && decide (a ≤ c)
theorem inB_iff {a b c : Int} : inB a b c = true ↔ b ≤ a ∧ a ≤ c := by simp [inB]
noncomputable def s_sin : Sig := sig Try.f58 (fun _ => True) (fun xs ys => ys = [.bool (inB (selI xs 0) (selI xs 1) (selI xs 2))])
noncomputable def F_sin : Tb := tab []
noncomputable def hs_sin : Hds := []
set_option maxHeartbeats 4000000 in
theorem t_sin (a0 : Int) (a1 : Int) (a2 : Int) : fnT' Try.prog F_sin hs_sin .own Try.f58 [.int IntKind.i64 a0, .int IntKind.i64 a1, .int IntKind.i64 a2] = (Tree.ite (leI a1 a0) (Tree.ret [(D.bool (leI a0 a2))]) (Tree.ret [(D.bool false)])) := by kernel_rfl
theorem ok_sin : FnOk Try.prog 58 s_sin := by
  refine fnOk (fn := Try.f58) (F := F_sin) (hs := hs_sin) tab_nil mixed rfl rfl rfl [.int .i64, .int .i64, .int .i64] (by kernel_rfl) (by simp) ?_
  intro a0 a1 a2 _
  refine ⟨fun _ _ => False, fun _ _ => 0, ?_, fun _ _ h => h.elim⟩
  rw [t_sin]
  simp only [Tree.holds, ltI_t, ltI_f, leI_t, leI_f, all_cons, all_nil, and_true, true_and, forall_eq, decide_eq_true_eq, decide_eq_false_iff_not, beq_iff_eq, beq_eq_false_iff_ne, bne_iff_ne, bne_eq_false_iff_eq, ne_eq, Decidable.not_not, selI_z, selB_z, selS_z, selN_z, selL_z, selI_s, selB_s, selS_s, selN_s, selL_s, Int.toNat_natCast, Nat.mul_one, Nat.zero_add, Nat.div_one, List.drop_zero, Nat.zero_mul, Nat.le_refl, Bool.not_eq_true', Bool.not_eq_false', Bool.false_eq_true, Bool.true_eq_false, not_true_eq_false, not_false_eq_true, false_imp_iff, true_imp_iff, if_true, if_false, sig, sigF, sigW, sigR, sigO, sigD, sigWD, List.map_cons, List.map_nil]
  exact ⟨fun h => ret_bool' (by unfold inB leI; rw [decide_eq_true h]; rfl), fun h => ret_bool' (by unfold inB; rw [decide_eq_false h]; rfl)⟩
end Go.Proofs.Ytjleempapphlhab.Mini
end
