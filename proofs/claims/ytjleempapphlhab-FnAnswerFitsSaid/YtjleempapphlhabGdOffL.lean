/- Parts of the proof: OffE, OffL. -/
import Derived.Test.YtjleempapphlhabGdIOffP
import Derived.Test.YtjleempapphlhabGdHelp
import Derived.Test.YtjleempapphlhabGdOffDP
section
namespace Go.Proofs.Ytjleempapphlhab.Mini
open Go Go.RowKit
set_option linter.unusedVariables false
set_option linter.unusedSimpArgs false
set_option maxRecDepth 20000
def impD (l : List Med) : List D := [.list 25 l.length (offD l)]
end Go.Proofs.Ytjleempapphlhab.Mini
end
section
namespace Go.Proofs.Ytjleempapphlhab.Mini
open Go Go.RowKit
set_option linter.unusedVariables false
set_option linter.unusedSimpArgs false
set_option maxRecDepth 20000
noncomputable def s_samem : Sig := sig Try.f11 (fun xs => ∃ m : Med, xs = medD m ++ medD m ∧ m.c.length ≤ 1048576) (fun xs ys => ys = [.bool true])
noncomputable def s_sameo : Sig := sig Try.f23 (fun xs => ∃ l : List Med, xs = impD l ++ impD l ∧ l.length ≤ 1048576 ∧ ∀ m ∈ l, m.c.length ≤ 1048576) (fun xs ys => ys = [.bool true])
noncomputable def F_samem : Tb := tab [(38, s_samet)]
theorem F_samem_samet : F_samem 38 = some s_samet := rfl
noncomputable def hs_samem : Hds := []
set_option maxHeartbeats 4000000 in
theorem t_samem (a0 : ByteArray) (a1 : Int) (a2 : Bool) (a3 : Bool) (a4n : Nat) (a4 : List D) (a5 : ByteArray) (a6 : Int) (a7 : Bool) (a8 : Bool) (a9n : Nat) (a9 : List D) : fnT' Try.prog F_samem hs_samem .own Try.f11 [.str a0, .int IntKind.i64 a1, .bool a2, .bool a3, .list 9 a4n a4, .str a5, .int IntKind.i64 a6, .bool a7, .bool a8, .list 9 a9n a9] = (Tree.ite ((ByteArray.toList a0) == (ByteArray.toList a5)) (Tree.ite (a1 == a6) (Tree.ite (a2 == a7) (Tree.ite (a3 == a8) (Tree.call 38 [(D.list 9 a4n a4), (D.list 9 a9n a9)] (fun y195 => (Tree.ret [(D.bool (selB y195 0))]))) (Tree.ret [(D.bool false)])) (Tree.ret [(D.bool false)])) (Tree.ret [(D.bool false)])) (Tree.ret [(D.bool false)])) := by kernel_rfl
noncomputable def F_sameo : Tb := tab [(11, s_samem)]
theorem F_sameo_samem : F_sameo 11 = some s_samem := rfl
noncomputable def hs_sameo : Hds := [([false, true, false, true, true], shapeW Try.f23 0 [(0, .one (.kd (.list 25))), (1, .one (.kd (.list 25))), (5, .one (.kd (.int .i64)))] [])]
set_option maxHeartbeats 4000000 in
theorem t_sameo (a0n : Nat) (a0 : List D) (a1n : Nat) (a1 : List D) : fnT' Try.prog F_sameo hs_sameo .own Try.f23 [.list 25 a0n a0, .list 25 a1n a1] = (Tree.ite ((Nat.cast a0n : Int) != (Nat.cast a1n : Int)) (Tree.ret [(D.bool false)]) (Tree.goto 0 [(D.list 25 a0n a0), (D.list 25 a1n a1), (D.int .i64 (0 : Int))])) := by kernel_rfl
set_option maxHeartbeats 4000000 in
theorem t_sameo0 (x0n : Nat) (x0 : List D) (x1n : Nat) (x1 : List D) (x5 : Int) : plT' Try.prog F_sameo hs_sameo .own Try.f23 0 [.list 25 x0n x0, .list 25 x1n x1, .int .i64 x5] = (Tree.ite (ltI x5 (Nat.cast x0n : Int)) (Tree.need (all_ [(((0 : Int) ≤ x5) ∧ (x5 < (Nat.cast x0n : Int)))]) (Tree.need (all_ [((GetElem?.getElem? x0 ((Int.toNat x5) * (5 : Nat))) = (Option.some (sel x0 ((Int.toNat x5) * (5 : Nat)) Kd.str))), ((GetElem?.getElem? x0 (((Int.toNat x5) * (5 : Nat)) + (1 : Nat))) = (Option.some (sel x0 (((Int.toNat x5) * (5 : Nat)) + (1 : Nat)) (Kd.int .i64)))), ((GetElem?.getElem? x0 ((((Int.toNat x5) * (5 : Nat)) + (1 : Nat)) + (1 : Nat))) = (Option.some (sel x0 ((((Int.toNat x5) * (5 : Nat)) + (1 : Nat)) + (1 : Nat)) Kd.bool))), ((GetElem?.getElem? x0 (((((Int.toNat x5) * (5 : Nat)) + (1 : Nat)) + (1 : Nat)) + (1 : Nat))) = (Option.some (sel x0 (((((Int.toNat x5) * (5 : Nat)) + (1 : Nat)) + (1 : Nat)) + (1 : Nat)) Kd.bool))), (((GetElem?.getElem? x0 ((((((Int.toNat x5) * (5 : Nat)) + (1 : Nat)) + (1 : Nat)) + (1 : Nat)) + (1 : Nat))) = (Option.some (D.list 9 (selN x0 ((((((Int.toNat x5) * (5 : Nat)) + (1 : Nat)) + (1 : Nat)) + (1 : Nat)) + (1 : Nat))) (selL x0 ((((((Int.toNat x5) * (5 : Nat)) + (1 : Nat)) + (1 : Nat)) + (1 : Nat)) + (1 : Nat)))))) ∨ ((GetElem?.getElem? x0 ((((((Int.toNat x5) * (5 : Nat)) + (1 : Nat)) + (1 : Nat)) + (1 : Nat)) + (1 : Nat))) = (Option.some (D.list 0 (0 : Nat) []))))]) (Tree.need (all_ [(((0 : Int) ≤ x5) ∧ (x5 < (Nat.cast x1n : Int)))]) (Tree.need (all_ [((GetElem?.getElem? x1 ((Int.toNat x5) * (5 : Nat))) = (Option.some (sel x1 ((Int.toNat x5) * (5 : Nat)) Kd.str))), ((GetElem?.getElem? x1 (((Int.toNat x5) * (5 : Nat)) + (1 : Nat))) = (Option.some (sel x1 (((Int.toNat x5) * (5 : Nat)) + (1 : Nat)) (Kd.int .i64)))), ((GetElem?.getElem? x1 ((((Int.toNat x5) * (5 : Nat)) + (1 : Nat)) + (1 : Nat))) = (Option.some (sel x1 ((((Int.toNat x5) * (5 : Nat)) + (1 : Nat)) + (1 : Nat)) Kd.bool))), ((GetElem?.getElem? x1 (((((Int.toNat x5) * (5 : Nat)) + (1 : Nat)) + (1 : Nat)) + (1 : Nat))) = (Option.some (sel x1 (((((Int.toNat x5) * (5 : Nat)) + (1 : Nat)) + (1 : Nat)) + (1 : Nat)) Kd.bool))), (((GetElem?.getElem? x1 ((((((Int.toNat x5) * (5 : Nat)) + (1 : Nat)) + (1 : Nat)) + (1 : Nat)) + (1 : Nat))) = (Option.some (D.list 9 (selN x1 ((((((Int.toNat x5) * (5 : Nat)) + (1 : Nat)) + (1 : Nat)) + (1 : Nat)) + (1 : Nat))) (selL x1 ((((((Int.toNat x5) * (5 : Nat)) + (1 : Nat)) + (1 : Nat)) + (1 : Nat)) + (1 : Nat)))))) ∨ ((GetElem?.getElem? x1 ((((((Int.toNat x5) * (5 : Nat)) + (1 : Nat)) + (1 : Nat)) + (1 : Nat)) + (1 : Nat))) = (Option.some (D.list 0 (0 : Nat) []))))]) (Tree.call 11 [(D.str (selS x0 ((Int.toNat x5) * (5 : Nat)))), (D.int .i64 (selI x0 (((Int.toNat x5) * (5 : Nat)) + (1 : Nat)))), (D.bool (selB x0 ((((Int.toNat x5) * (5 : Nat)) + (1 : Nat)) + (1 : Nat)))), (D.bool (selB x0 (((((Int.toNat x5) * (5 : Nat)) + (1 : Nat)) + (1 : Nat)) + (1 : Nat)))), (D.list 9 (selN x0 ((((((Int.toNat x5) * (5 : Nat)) + (1 : Nat)) + (1 : Nat)) + (1 : Nat)) + (1 : Nat))) (selL x0 ((((((Int.toNat x5) * (5 : Nat)) + (1 : Nat)) + (1 : Nat)) + (1 : Nat)) + (1 : Nat)))), (D.str (selS x1 ((Int.toNat x5) * (5 : Nat)))), (D.int .i64 (selI x1 (((Int.toNat x5) * (5 : Nat)) + (1 : Nat)))), (D.bool (selB x1 ((((Int.toNat x5) * (5 : Nat)) + (1 : Nat)) + (1 : Nat)))), (D.bool (selB x1 (((((Int.toNat x5) * (5 : Nat)) + (1 : Nat)) + (1 : Nat)) + (1 : Nat)))), (D.list 9 (selN x1 ((((((Int.toNat x5) * (5 : Nat)) + (1 : Nat)) + (1 : Nat)) + (1 : Nat)) + (1 : Nat))) (selL x1 ((((((Int.toNat x5) * (5 : Nat)) + (1 : Nat)) + (1 : Nat)) + (1 : Nat)) + (1 : Nat))))] (fun y194 => (Tree.ite (Bool.not (selB y194 0)) (Tree.ret [(D.bool false)]) (Tree.need (all_ [(inK .i64 (x5 + (1 : Int)))]) (Tree.goto 0 [(D.list 25 x0n x0), (D.list 25 x1n x1), (D.int .i64 (x5 + (1 : Int)))]))))))))) (Tree.ret [(D.bool true)])) := by kernel_rfl
end Go.Proofs.Ytjleempapphlhab.Mini
end
