/- Parts of the proof: OffX. -/
import Derived.Test.YtbdmhdobdpcpaaaZeOffEP
import Derived.Test.YtbdmhdobdpcpaaaZeIOffP
section
namespace Go.Proofs.Ytbdmhdobdpcpaaa.Mini
open Go Go.RowKit
set_option linter.unusedVariables false
set_option linter.unusedSimpArgs false
set_option maxRecDepth 20000
def mtx (k n : Nat) : List ByteArray := (List.range n).map fun i => mtxt (k + i)
noncomputable def s_tomedO : Sig := sig Try.f28 (fun xs => ∃ m : Med, xs = medD m ∧ smM m) (fun xs ys => ys = medD (unM xs))
noncomputable def F_tomedO : Tb := tab [(17, s_tostr)]
theorem F_tomedO_tostr : F_tomedO 17 = some s_tostr := rfl
noncomputable def hs_tomedO : Hds := []
set_option maxHeartbeats 4000000 in
theorem t_tomedO (a0 : ByteArray) (a1 : Int) (a2 : Bool) (a3 : Bool) (a4n : Nat) (a4 : List D) : fnT' Try.prog F_tomedO hs_tomedO .own Try.f28 [.str a0, .int IntKind.i64 a1, .bool a2, .bool a3, .list 9 a4n a4] = (Tree.call 17 [(D.list 9 a4n a4)] (fun y199 => (Tree.need (all_ [((((0 : Nat) + (selN y199 0)) * (1 : Nat)) ≤ (List.length (selL y199 0))), (scal (List.take ((selN y199 0) * (1 : Nat)) (List.drop ((0 : Nat) * (1 : Nat)) (selL y199 0))))]) (Tree.ret [(D.str a0), (D.int .i64 a1), (D.bool a2), (D.bool a3), (D.list 9 (selN y199 0) (List.take ((selN y199 0) * (1 : Nat)) (List.drop ((0 : Nat) * (1 : Nat)) (selL y199 0))))])))) := by kernel_rfl
end Go.Proofs.Ytbdmhdobdpcpaaa.Mini
end
