/- Parts of the proof: OffE, OffL. -/
import Derived.Test.YtbdmhdobdpcpaaaZdIOffP
import Derived.Test.YtbdmhdobdpcpaaaZdHelp
import Derived.Test.YtbdmhdobdpcpaaaZdOffDP
section
namespace Go.Proofs.Ytbdmhdobdpcpaaa.Mini
open Go Go.RowKit
set_option linter.unusedVariables false
set_option linter.unusedSimpArgs false
set_option maxRecDepth 20000
def impD (l : List Med) : List D := [.list 33 l.length (offD l)]
end Go.Proofs.Ytbdmhdobdpcpaaa.Mini
end
section
namespace Go.Proofs.Ytbdmhdobdpcpaaa.Mini
open Go Go.RowKit
set_option linter.unusedVariables false
set_option linter.unusedSimpArgs false
set_option maxRecDepth 20000
def sameB (a b : List ByteArray) : Bool := decide (a = b)
noncomputable def s_samet : Sig := sig Try.f13 (fun xs => ∃ a b : List ByteArray, xs = [.list 9 a.length (textsD a), .list 9 b.length (textsD b)] ∧ a.length ≤ 1048576) (fun xs ys => ys = [.bool (sameB (unS (selL xs 0)) (unS (selL xs 1)))])
noncomputable def s_samem : Sig := sig Try.f23 (fun xs => ∃ m : Med, xs = medD m ++ medD m ∧ m.c.length ≤ 1048576) (fun xs ys => ys = [.bool true])
noncomputable def s_sameo : Sig := sig Try.f34 (fun xs => ∃ l : List Med, xs = impD l ++ impD l ∧ l.length ≤ 1048576 ∧ ∀ m ∈ l, m.c.length ≤ 1048576) (fun xs ys => ys = [.bool true])
noncomputable def F_samet : Tb := tab []
noncomputable def hs_samet : Hds := [([false, true, false, true, true], shapeW Try.f13 0 [(0, .one (.kd (.list 9))), (1, .one (.kd (.list 9))), (5, .one (.kd (.int .i64)))] [])]
set_option maxHeartbeats 4000000 in
theorem t_samet (a0n : Nat) (a0 : List D) (a1n : Nat) (a1 : List D) : fnT' Try.prog F_samet hs_samet .own Try.f13 [.list 9 a0n a0, .list 9 a1n a1] = (Tree.ite ((Nat.cast a0n : Int) != (Nat.cast a1n : Int)) (Tree.ret [(D.bool false)]) (Tree.goto 0 [(D.list 9 a0n a0), (D.list 9 a1n a1), (D.int .i64 (0 : Int))])) := by kernel_rfl
set_option maxHeartbeats 4000000 in
theorem t_samet0 (x0n : Nat) (x0 : List D) (x1n : Nat) (x1 : List D) (x5 : Int) : plT' Try.prog F_samet hs_samet .own Try.f13 0 [.list 9 x0n x0, .list 9 x1n x1, .int .i64 x5] = (Tree.ite (ltI x5 (Nat.cast x0n : Int)) (Tree.need (all_ [(((0 : Int) ≤ x5) ∧ (x5 < (Nat.cast x0n : Int)))]) (Tree.need (all_ [((GetElem?.getElem? x0 ((Int.toNat x5) * (1 : Nat))) = (Option.some (sel x0 ((Int.toNat x5) * (1 : Nat)) Kd.str)))]) (Tree.need (all_ [(((0 : Int) ≤ x5) ∧ (x5 < (Nat.cast x1n : Int)))]) (Tree.need (all_ [((GetElem?.getElem? x1 ((Int.toNat x5) * (1 : Nat))) = (Option.some (sel x1 ((Int.toNat x5) * (1 : Nat)) Kd.str)))]) (Tree.ite (Bool.not ((ByteArray.toList (selS x0 ((Int.toNat x5) * (1 : Nat)))) == (ByteArray.toList (selS x1 ((Int.toNat x5) * (1 : Nat)))))) (Tree.ret [(D.bool false)]) (Tree.need (all_ [(inK .i64 (x5 + (1 : Int)))]) (Tree.goto 0 [(D.list 9 x0n x0), (D.list 9 x1n x1), (D.int .i64 (x5 + (1 : Int)))]))))))) (Tree.ret [(D.bool true)])) := by kernel_rfl
noncomputable def F_samem : Tb := tab [(13, s_samet)]
theorem F_samem_samet : F_samem 13 = some s_samet := rfl
noncomputable def hs_samem : Hds := []
set_option maxHeartbeats 4000000 in
theorem t_samem (a0 : ByteArray) (a1 : Int) (a2 : Bool) (a3 : Bool) (a4n : Nat) (a4 : List D) (a5 : ByteArray) (a6 : Int) (a7 : Bool) (a8 : Bool) (a9n : Nat) (a9 : List D) : fnT' Try.prog F_samem hs_samem .own Try.f23 [.str a0, .int IntKind.i64 a1, .bool a2, .bool a3, .list 9 a4n a4, .str a5, .int IntKind.i64 a6, .bool a7, .bool a8, .list 9 a9n a9] = (Tree.ite ((ByteArray.toList a0) == (ByteArray.toList a5)) (Tree.ite (a1 == a6) (Tree.ite (a2 == a7) (Tree.ite (a3 == a8) (Tree.call 13 [(D.list 9 a4n a4), (D.list 9 a9n a9)] (fun y195 => (Tree.ret [(D.bool (selB y195 0))]))) (Tree.ret [(D.bool false)])) (Tree.ret [(D.bool false)])) (Tree.ret [(D.bool false)])) (Tree.ret [(D.bool false)])) := by kernel_rfl
noncomputable def F_sameo : Tb := tab [(23, s_samem)]
theorem F_sameo_samem : F_sameo 23 = some s_samem := rfl
noncomputable def hs_sameo : Hds := [([false, true, false, true, true], shapeW Try.f34 0 [(0, .one (.kd (.list 33))), (1, .one (.kd (.list 33))), (5, .one (.kd (.int .i64)))] [])]
set_option maxHeartbeats 4000000 in
theorem t_sameo (a0n : Nat) (a0 : List D) (a1n : Nat) (a1 : List D) : fnT' Try.prog F_sameo hs_sameo .own Try.f34 [.list 33 a0n a0, .list 33 a1n a1] = (Tree.ite ((Nat.cast a0n : Int) != (Nat.cast a1n : Int)) (Tree.ret [(D.bool false)]) (Tree.goto 0 [(D.list 33 a0n a0), (D.list 33 a1n a1), (D.int .i64 (0 : Int))])) := by kernel_rfl
set_option maxHeartbeats 4000000 in
theorem t_sameo0 (x0n : Nat) (x0 : List D) (x1n : Nat) (x1 : List D) (x5 : Int) : plT' Try.prog F_sameo hs_sameo .own Try.f34 0 [.list 33 x0n x0, .list 33 x1n x1, .int .i64 x5] = (Tree.ite (ltI x5 (Nat.cast x0n : Int)) (Tree.need (all_ [(((0 : Int) ≤ x5) ∧ (x5 < (Nat.cast x0n : Int)))]) (Tree.need (all_ [((GetElem?.getElem? x0 ((Int.toNat x5) * (5 : Nat))) = (Option.some (sel x0 ((Int.toNat x5) * (5 : Nat)) Kd.str))), ((GetElem?.getElem? x0 (((Int.toNat x5) * (5 : Nat)) + (1 : Nat))) = (Option.some (sel x0 (((Int.toNat x5) * (5 : Nat)) + (1 : Nat)) (Kd.int .i64)))), ((GetElem?.getElem? x0 ((((Int.toNat x5) * (5 : Nat)) + (1 : Nat)) + (1 : Nat))) = (Option.some (sel x0 ((((Int.toNat x5) * (5 : Nat)) + (1 : Nat)) + (1 : Nat)) Kd.bool))), ((GetElem?.getElem? x0 (((((Int.toNat x5) * (5 : Nat)) + (1 : Nat)) + (1 : Nat)) + (1 : Nat))) = (Option.some (sel x0 (((((Int.toNat x5) * (5 : Nat)) + (1 : Nat)) + (1 : Nat)) + (1 : Nat)) Kd.bool))), (((GetElem?.getElem? x0 ((((((Int.toNat x5) * (5 : Nat)) + (1 : Nat)) + (1 : Nat)) + (1 : Nat)) + (1 : Nat))) = (Option.some (D.list 9 (selN x0 ((((((Int.toNat x5) * (5 : Nat)) + (1 : Nat)) + (1 : Nat)) + (1 : Nat)) + (1 : Nat))) (selL x0 ((((((Int.toNat x5) * (5 : Nat)) + (1 : Nat)) + (1 : Nat)) + (1 : Nat)) + (1 : Nat)))))) ∨ ((GetElem?.getElem? x0 ((((((Int.toNat x5) * (5 : Nat)) + (1 : Nat)) + (1 : Nat)) + (1 : Nat)) + (1 : Nat))) = (Option.some (D.list 0 (0 : Nat) []))))]) (Tree.need (all_ [(((0 : Int) ≤ x5) ∧ (x5 < (Nat.cast x1n : Int)))]) (Tree.need (all_ [((GetElem?.getElem? x1 ((Int.toNat x5) * (5 : Nat))) = (Option.some (sel x1 ((Int.toNat x5) * (5 : Nat)) Kd.str))), ((GetElem?.getElem? x1 (((Int.toNat x5) * (5 : Nat)) + (1 : Nat))) = (Option.some (sel x1 (((Int.toNat x5) * (5 : Nat)) + (1 : Nat)) (Kd.int .i64)))), ((GetElem?.getElem? x1 ((((Int.toNat x5) * (5 : Nat)) + (1 : Nat)) + (1 : Nat))) = (Option.some (sel x1 ((((Int.toNat x5) * (5 : Nat)) + (1 : Nat)) + (1 : Nat)) Kd.bool))), ((GetElem?.getElem? x1 (((((Int.toNat x5) * (5 : Nat)) + (1 : Nat)) + (1 : Nat)) + (1 : Nat))) = (Option.some (sel x1 (((((Int.toNat x5) * (5 : Nat)) + (1 : Nat)) + (1 : Nat)) + (1 : Nat)) Kd.bool))), (((GetElem?.getElem? x1 ((((((Int.toNat x5) * (5 : Nat)) + (1 : Nat)) + (1 : Nat)) + (1 : Nat)) + (1 : Nat))) = (Option.some (D.list 9 (selN x1 ((((((Int.toNat x5) * (5 : Nat)) + (1 : Nat)) + (1 : Nat)) + (1 : Nat)) + (1 : Nat))) (selL x1 ((((((Int.toNat x5) * (5 : Nat)) + (1 : Nat)) + (1 : Nat)) + (1 : Nat)) + (1 : Nat)))))) ∨ ((GetElem?.getElem? x1 ((((((Int.toNat x5) * (5 : Nat)) + (1 : Nat)) + (1 : Nat)) + (1 : Nat)) + (1 : Nat))) = (Option.some (D.list 0 (0 : Nat) []))))]) (Tree.call 23 [(D.str (selS x0 ((Int.toNat x5) * (5 : Nat)))), (D.int .i64 (selI x0 (((Int.toNat x5) * (5 : Nat)) + (1 : Nat)))), (D.bool (selB x0 ((((Int.toNat x5) * (5 : Nat)) + (1 : Nat)) + (1 : Nat)))), (D.bool (selB x0 (((((Int.toNat x5) * (5 : Nat)) + (1 : Nat)) + (1 : Nat)) + (1 : Nat)))), (D.list 9 (selN x0 ((((((Int.toNat x5) * (5 : Nat)) + (1 : Nat)) + (1 : Nat)) + (1 : Nat)) + (1 : Nat))) (selL x0 ((((((Int.toNat x5) * (5 : Nat)) + (1 : Nat)) + (1 : Nat)) + (1 : Nat)) + (1 : Nat)))), (D.str (selS x1 ((Int.toNat x5) * (5 : Nat)))), (D.int .i64 (selI x1 (((Int.toNat x5) * (5 : Nat)) + (1 : Nat)))), (D.bool (selB x1 ((((Int.toNat x5) * (5 : Nat)) + (1 : Nat)) + (1 : Nat)))), (D.bool (selB x1 (((((Int.toNat x5) * (5 : Nat)) + (1 : Nat)) + (1 : Nat)) + (1 : Nat)))), (D.list 9 (selN x1 ((((((Int.toNat x5) * (5 : Nat)) + (1 : Nat)) + (1 : Nat)) + (1 : Nat)) + (1 : Nat))) (selL x1 ((((((Int.toNat x5) * (5 : Nat)) + (1 : Nat)) + (1 : Nat)) + (1 : Nat)) + (1 : Nat))))] (fun y194 => (Tree.ite (Bool.not (selB y194 0)) (Tree.ret [(D.bool false)]) (Tree.need (all_ [(inK .i64 (x5 + (1 : Int)))]) (Tree.goto 0 [(D.list 33 x0n x0), (D.list 33 x1n x1), (D.int .i64 (x5 + (1 : Int)))]))))))))) (Tree.ret [(D.bool true)])) := by kernel_rfl
end Go.Proofs.Ytbdmhdobdpcpaaa.Mini
end
