/- Parts of the proof: IOff. -/
import Derived.Test.YtjleempapphlhabGeSMath
import Derived.Test.YtjleempapphlhabGeITx
section
namespace Go.Proofs.Ytjleempapphlhab.Mini
open Go Go.RowKit
set_option linter.unusedVariables false
set_option linter.unusedSimpArgs false
set_option maxRecDepth 20000
def hasB (ls : List ByteArray) (s : ByteArray) : Bool := ls.any fun x => x.data.toList == s.data.toList
def codB (ls : List ByteArray) : Bool := (ls.all wordS && distB ls) && inB ls.length 1 4
noncomputable def s_ihas : Sig := sig Try.f55 (fun xs => ∃ (ls : List ByteArray) (s : ByteArray), xs = [.list 9 ls.length (textsD ls), .str s] ∧ ls.length ≤ 1048576 ∧ ∀ x ∈ ls, x.size ≤ 1048576) (fun xs ys => ys = [.bool (hasB (unS (selL xs 0)) (selS xs 1))])
noncomputable def s_icod : Sig := sig Try.f42 (fun xs => ∃ (ls : List ByteArray), xs = [.list 9 ls.length (textsD ls)] ∧ ls.length ≤ 1048576 ∧ ∀ x ∈ ls, x.size ≤ 1048576) (fun xs ys => ys = [.bool (codB (unS (selL xs 0)))])
noncomputable def s_imed : Sig := sig Try.f13 (fun xs => ∃ m : Med, xs = medD m ∧ smM m) (fun xs ys => ys = [.bool (medB (unM xs))])
noncomputable def s_ioff : Sig := sig Try.f25 (fun xs => ∃ l : List Med, xs = [.list 25 l.length (offD l)] ∧ l.length ≤ 1048576 ∧ ∀ m ∈ l, smM m) (fun xs ys => ys = [.bool (offB (unO (selL xs 0)))])
noncomputable def F_ihas : Tb := tab []
noncomputable def hs_ihas : Hds := [([false, true, false, true], shapeW Try.f55 0 [(0, .one (.kd (.list 9))), (1, .one (.kd .str)), (5, .one (.kd (.int .i64)))] [])]
set_option maxHeartbeats 4000000 in
theorem t_ihas (a0n : Nat) (a0 : List D) (a1 : ByteArray) : fnT' Try.prog F_ihas hs_ihas .own Try.f55 [.list 9 a0n a0, .str a1] = (Tree.goto 0 [(D.list 9 a0n a0), (D.str a1), (D.int .i64 (0 : Int))]) := by kernel_rfl
set_option maxHeartbeats 4000000 in
theorem t_ihas0 (x0n : Nat) (x0 : List D) (x1 : ByteArray) (x5 : Int) : plT' Try.prog F_ihas hs_ihas .own Try.f55 0 [.list 9 x0n x0, .str x1, .int .i64 x5] = (Tree.ite (ltI x5 (Nat.cast x0n : Int)) (Tree.need (all_ [(((0 : Int) ≤ x5) ∧ (x5 < (Nat.cast x0n : Int)))]) (Tree.need (all_ [((GetElem?.getElem? x0 ((Int.toNat x5) * (1 : Nat))) = (Option.some (sel x0 ((Int.toNat x5) * (1 : Nat)) Kd.str)))]) (Tree.ite ((ByteArray.toList (selS x0 ((Int.toNat x5) * (1 : Nat)))) == (ByteArray.toList x1)) (Tree.ret [(D.bool true)]) (Tree.need (all_ [(inK .i64 (x5 + (1 : Int)))]) (Tree.goto 0 [(D.list 9 x0n x0), (D.str x1), (D.int .i64 (x5 + (1 : Int)))]))))) (Tree.ret [(D.bool false)])) := by kernel_rfl
noncomputable def F_icod : Tb := tab [(60, s_tdif)]
theorem F_icod_tdif : F_icod 60 = some s_tdif := rfl
noncomputable def hs_icod : Hds := []
set_option maxHeartbeats 4000000 in
theorem t_icod (a0n : Nat) (a0 : List D) : fnT' Try.prog F_icod hs_icod .own Try.f42 [.list 9 a0n a0] = (Tree.ite (leI (1 : Int) (Nat.cast a0n : Int)) (Tree.call 60 [(D.list 9 a0n a0), (D.int .i64 (4 : Int))] (fun y198 => (Tree.ret [(D.bool (selB y198 0))]))) (Tree.ret [(D.bool false)])) := by kernel_rfl
noncomputable def F_imed : Tb := tab [(41, s_iword), (42, s_icod)]
theorem F_imed_iword : F_imed 41 = some s_iword := rfl
theorem F_imed_icod : F_imed 42 = some s_icod := rfl
noncomputable def hs_imed : Hds := []
set_option maxHeartbeats 4000000 in
theorem t_imed (a0 : ByteArray) (a1 : Int) (a2 : Bool) (a3 : Bool) (a4n : Nat) (a4 : List D) : fnT' Try.prog F_imed hs_imed .own Try.f13 [.str a0, .int IntKind.i64 a1, .bool a2, .bool a3, .list 9 a4n a4] = (Tree.call 41 [(D.str a0)] (fun y199 => (Tree.ite (selB y199 0) (Tree.ite (leI (0 : Int) a1) (Tree.ite (leI a1 (65535 : Int)) (Tree.call 42 [(D.list 9 a4n a4)] (fun y195 => (Tree.ret [(D.bool (selB y195 0))]))) (Tree.ret [(D.bool false)])) (Tree.ret [(D.bool false)])) (Tree.ret [(D.bool false)])))) := by kernel_rfl
noncomputable def F_ioff : Tb := tab [(13, s_imed)]
theorem F_ioff_imed : F_ioff 13 = some s_imed := rfl
noncomputable def hs_ioff : Hds := [([false, true, false, true, true], shapeW Try.f25 0 [(0, .one (.kd (.list 25))), (3, .one (.kd (.int .i64)))] [])]
set_option maxHeartbeats 4000000 in
theorem t_ioff (a0n : Nat) (a0 : List D) : fnT' Try.prog F_ioff hs_ioff .own Try.f25 [.list 25 a0n a0] = (Tree.ite (ltI (4 : Int) (Nat.cast a0n : Int)) (Tree.ret [(D.bool false)]) (Tree.goto 0 [(D.list 25 a0n a0), (D.int .i64 (0 : Int))])) := by kernel_rfl
set_option maxHeartbeats 4000000 in
theorem t_ioff0 (x0n : Nat) (x0 : List D) (x3 : Int) : plT' Try.prog F_ioff hs_ioff .own Try.f25 0 [.list 25 x0n x0, .int .i64 x3] = (Tree.ite (ltI x3 (Nat.cast x0n : Int)) (Tree.need (all_ [(((0 : Int) ≤ x3) ∧ (x3 < (Nat.cast x0n : Int)))]) (Tree.need (all_ [((GetElem?.getElem? x0 ((Int.toNat x3) * (5 : Nat))) = (Option.some (sel x0 ((Int.toNat x3) * (5 : Nat)) Kd.str))), ((GetElem?.getElem? x0 (((Int.toNat x3) * (5 : Nat)) + (1 : Nat))) = (Option.some (sel x0 (((Int.toNat x3) * (5 : Nat)) + (1 : Nat)) (Kd.int .i64)))), ((GetElem?.getElem? x0 ((((Int.toNat x3) * (5 : Nat)) + (1 : Nat)) + (1 : Nat))) = (Option.some (sel x0 ((((Int.toNat x3) * (5 : Nat)) + (1 : Nat)) + (1 : Nat)) Kd.bool))), ((GetElem?.getElem? x0 (((((Int.toNat x3) * (5 : Nat)) + (1 : Nat)) + (1 : Nat)) + (1 : Nat))) = (Option.some (sel x0 (((((Int.toNat x3) * (5 : Nat)) + (1 : Nat)) + (1 : Nat)) + (1 : Nat)) Kd.bool))), (((GetElem?.getElem? x0 ((((((Int.toNat x3) * (5 : Nat)) + (1 : Nat)) + (1 : Nat)) + (1 : Nat)) + (1 : Nat))) = (Option.some (D.list 9 (selN x0 ((((((Int.toNat x3) * (5 : Nat)) + (1 : Nat)) + (1 : Nat)) + (1 : Nat)) + (1 : Nat))) (selL x0 ((((((Int.toNat x3) * (5 : Nat)) + (1 : Nat)) + (1 : Nat)) + (1 : Nat)) + (1 : Nat)))))) ∨ ((GetElem?.getElem? x0 ((((((Int.toNat x3) * (5 : Nat)) + (1 : Nat)) + (1 : Nat)) + (1 : Nat)) + (1 : Nat))) = (Option.some (D.list 0 (0 : Nat) []))))]) (Tree.call 13 [(D.str (selS x0 ((Int.toNat x3) * (5 : Nat)))), (D.int .i64 (selI x0 (((Int.toNat x3) * (5 : Nat)) + (1 : Nat)))), (D.bool (selB x0 ((((Int.toNat x3) * (5 : Nat)) + (1 : Nat)) + (1 : Nat)))), (D.bool (selB x0 (((((Int.toNat x3) * (5 : Nat)) + (1 : Nat)) + (1 : Nat)) + (1 : Nat)))), (D.list 9 (selN x0 ((((((Int.toNat x3) * (5 : Nat)) + (1 : Nat)) + (1 : Nat)) + (1 : Nat)) + (1 : Nat))) (selL x0 ((((((Int.toNat x3) * (5 : Nat)) + (1 : Nat)) + (1 : Nat)) + (1 : Nat)) + (1 : Nat))))] (fun y196 => (Tree.ite (Bool.not (selB y196 0)) (Tree.ret [(D.bool false)]) (Tree.need (all_ [(inK .i64 (x3 + (1 : Int)))]) (Tree.goto 0 [(D.list 25 x0n x0), (D.int .i64 (x3 + (1 : Int)))]))))))) (Tree.ret [(D.bool true)])) := by kernel_rfl
end Go.Proofs.Ytjleempapphlhab.Mini
end
