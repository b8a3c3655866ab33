/- Parts of the proof: Offer. -/
import Derived.Test.YtjleempapphlhabGeTx
section
namespace Go.Proofs.Ytjleempapphlhab.Mini
open Go Go.RowKit
set_option linter.unusedVariables false
set_option linter.unusedSimpArgs false
set_option maxRecDepth 20000
structure Med where
  k : ByteArray
  p : Int
  s : Bool
  h : Bool
  c : List ByteArray
def medD (m : Med) : List D := [.str m.k, .int .i64 m.p, .bool m.s, .bool m.h, .list 9 m.c.length (textsD m.c)]
def offD (l : List Med) : List D := flatD medD l
def unM (xs : List D) : Med := ⟨selS xs 0, selI xs 1, selB xs 2, selB xs 3, unS (selL xs 4)⟩
def unO : List D → List Med
  | .str k :: .int _ p :: .bool s :: .bool h :: .list _ _ c :: r => ⟨k, p, s, h, unS c⟩ :: unO r
  | _ => []
def smM (m : Med) : Prop := m.k.size ≤ 1048576 ∧ m.c.length ≤ 1048576 ∧ ∀ x ∈ m.c, x.size ≤ 1048576
def medB (m : Med) : Bool := (m.c.all wordS && distB m.c) && (wordS m.k && (inB m.p 0 65535 && inB m.c.length 1 4))
def offB (l : List Med) : Bool := l.all medB && decide (l.length ≤ 4)
noncomputable def s_smed : Sig := sig Try.f39 (fun xs => ∃ m : Med, xs = medD m ∧ smM m) (fun xs ys => ys = [.bool (medB (unM xs))])
noncomputable def s_soff : Sig := sig Try.f51 (fun xs => ∃ l : List Med, xs = [.list 25 l.length (offD l)] ∧ l.length ≤ 1048576 ∧ ∀ m ∈ l, smM m) (fun xs ys => ys = [.bool (offB (unO (selL xs 0)))])
noncomputable def F_smed : Tb := tab [(57, s_sword), (58, s_sin)]
theorem F_smed_sword : F_smed 57 = some s_sword := rfl
theorem F_smed_sin : F_smed 58 = some s_sin := rfl
noncomputable def hs_smed : Hds := [([false, true, false, true], shapeW Try.f39 0 [(1, .one (.ptr 0 0)), (3, .one (.kd (.int .i64)))] [.fix 25 [.kd .str, .kd (.int .i64), .kd .bool, .kd .bool, .kd (.list 9)]]), ([false, true, true, false, false, true, false, false, true, false, true], shapeW Try.f39 0 [(1, .one (.ptr 0 0)), (3, .one (.kd (.int .i64))), (4, .one (.kd (.int .i64)))] [.fix 25 [.kd .str, .kd (.int .i64), .kd .bool, .kd .bool, .kd (.list 9)]])]
set_option maxHeartbeats 4000000 in
theorem t_smed (a0 : ByteArray) (a1 : Int) (a2 : Bool) (a3 : Bool) (a4n : Nat) (a4 : List D) : fnT' Try.prog F_smed hs_smed .own Try.f39 [.str a0, .int IntKind.i64 a1, .bool a2, .bool a3, .list 9 a4n a4] = (Tree.goto 0 [(D.int .i64 (0 : Int)), (D.str a0), (D.int .i64 a1), (D.bool a2), (D.bool a3), (D.list 9 a4n a4)]) := by kernel_rfl
set_option maxHeartbeats 4000000 in
theorem t_smed0 (x3 : Int) (r0_0 : ByteArray) (r0_1 : Int) (r0_2 : Bool) (r0_3 : Bool) (r0_4n : Nat) (r0_4 : List D) : plT' Try.prog F_smed hs_smed .own Try.f39 0 [.int .i64 x3, .str r0_0, .int .i64 r0_1, .bool r0_2, .bool r0_3, .list 9 r0_4n r0_4] = (Tree.ite (ltI x3 (Nat.cast r0_4n : Int)) (Tree.need (all_ [(((0 : Int) ≤ x3) ∧ (x3 < (Nat.cast r0_4n : Int)))]) (Tree.need (all_ [((GetElem?.getElem? r0_4 ((Int.toNat x3) * (1 : Nat))) = (Option.some (sel r0_4 ((Int.toNat x3) * (1 : Nat)) Kd.str)))]) (Tree.call 57 [(D.str (selS r0_4 ((Int.toNat x3) * (1 : Nat))))] (fun y196 => (Tree.ite (Bool.not (selB y196 0)) (Tree.ret [(D.bool false)]) (Tree.goto 1 [(D.int .i64 x3), (D.int .i64 (0 : Int)), (D.str r0_0), (D.int .i64 r0_1), (D.bool r0_2), (D.bool r0_3), (D.list 9 r0_4n r0_4)])))))) (Tree.call 57 [(D.str r0_0)] (fun y198 => (Tree.ite (selB y198 0) (Tree.call 58 [(D.int .i64 r0_1), (D.int .i64 (0 : Int)), (D.int .i64 (65535 : Int))] (fun y196 => (Tree.ite (selB y196 0) (Tree.call 58 [(D.int .i64 (Nat.cast r0_4n : Int)), (D.int .i64 (1 : Int)), (D.int .i64 (4 : Int))] (fun y194 => (Tree.ret [(D.bool (selB y194 0))]))) (Tree.ret [(D.bool false)])))) (Tree.ret [(D.bool false)]))))) := by kernel_rfl
set_option maxHeartbeats 4000000 in
theorem t_smed1 (x3 : Int) (x4 : Int) (r0_0 : ByteArray) (r0_1 : Int) (r0_2 : Bool) (r0_3 : Bool) (r0_4n : Nat) (r0_4 : List D) : plT' Try.prog F_smed hs_smed .own Try.f39 1 [.int .i64 x3, .int .i64 x4, .str r0_0, .int .i64 r0_1, .bool r0_2, .bool r0_3, .list 9 r0_4n r0_4] = (Tree.ite (ltI x4 x3) (Tree.need (all_ [(((0 : Int) ≤ x4) ∧ (x4 < (Nat.cast r0_4n : Int)))]) (Tree.need (all_ [((GetElem?.getElem? r0_4 ((Int.toNat x4) * (1 : Nat))) = (Option.some (sel r0_4 ((Int.toNat x4) * (1 : Nat)) Kd.str)))]) (Tree.need (all_ [(((0 : Int) ≤ x3) ∧ (x3 < (Nat.cast r0_4n : Int)))]) (Tree.need (all_ [((GetElem?.getElem? r0_4 ((Int.toNat x3) * (1 : Nat))) = (Option.some (sel r0_4 ((Int.toNat x3) * (1 : Nat)) Kd.str)))]) (Tree.ite ((ByteArray.toList (selS r0_4 ((Int.toNat x4) * (1 : Nat)))) == (ByteArray.toList (selS r0_4 ((Int.toNat x3) * (1 : Nat))))) (Tree.ret [(D.bool false)]) (Tree.need (all_ [(inK .i64 (x4 + (1 : Int)))]) (Tree.goto 1 [(D.int .i64 x3), (D.int .i64 (x4 + (1 : Int))), (D.str r0_0), (D.int .i64 r0_1), (D.bool r0_2), (D.bool r0_3), (D.list 9 r0_4n r0_4)]))))))) (Tree.need (all_ [(inK .i64 (x3 + (1 : Int)))]) (Tree.goto 0 [(D.int .i64 (x3 + (1 : Int))), (D.str r0_0), (D.int .i64 r0_1), (D.bool r0_2), (D.bool r0_3), (D.list 9 r0_4n r0_4)]))) := by kernel_rfl
noncomputable def F_soff : Tb := tab [(39, s_smed)]
theorem F_soff_smed : F_soff 39 = some s_smed := rfl
noncomputable def hs_soff : Hds := [([false, true, false, true], shapeW Try.f51 0 [(0, .one (.kd (.list 25))), (3, .one (.kd (.int .i64)))] [])]
set_option maxHeartbeats 4000000 in
theorem t_soff (a0n : Nat) (a0 : List D) : fnT' Try.prog F_soff hs_soff .own Try.f51 [.list 25 a0n a0] = (Tree.goto 0 [(D.list 25 a0n a0), (D.int .i64 (0 : Int))]) := by kernel_rfl
set_option maxHeartbeats 4000000 in
theorem t_soff0 (x0n : Nat) (x0 : List D) (x3 : Int) : plT' Try.prog F_soff hs_soff .own Try.f51 0 [.list 25 x0n x0, .int .i64 x3] = (Tree.ite (ltI x3 (Nat.cast x0n : Int)) (Tree.need (all_ [(((0 : Int) ≤ x3) ∧ (x3 < (Nat.cast x0n : Int)))]) (Tree.need (all_ [((GetElem?.getElem? x0 ((Int.toNat x3) * (5 : Nat))) = (Option.some (sel x0 ((Int.toNat x3) * (5 : Nat)) Kd.str))), ((GetElem?.getElem? x0 (((Int.toNat x3) * (5 : Nat)) + (1 : Nat))) = (Option.some (sel x0 (((Int.toNat x3) * (5 : Nat)) + (1 : Nat)) (Kd.int .i64)))), ((GetElem?.getElem? x0 ((((Int.toNat x3) * (5 : Nat)) + (1 : Nat)) + (1 : Nat))) = (Option.some (sel x0 ((((Int.toNat x3) * (5 : Nat)) + (1 : Nat)) + (1 : Nat)) Kd.bool))), ((GetElem?.getElem? x0 (((((Int.toNat x3) * (5 : Nat)) + (1 : Nat)) + (1 : Nat)) + (1 : Nat))) = (Option.some (sel x0 (((((Int.toNat x3) * (5 : Nat)) + (1 : Nat)) + (1 : Nat)) + (1 : Nat)) Kd.bool))), (((GetElem?.getElem? x0 ((((((Int.toNat x3) * (5 : Nat)) + (1 : Nat)) + (1 : Nat)) + (1 : Nat)) + (1 : Nat))) = (Option.some (D.list 9 (selN x0 ((((((Int.toNat x3) * (5 : Nat)) + (1 : Nat)) + (1 : Nat)) + (1 : Nat)) + (1 : Nat))) (selL x0 ((((((Int.toNat x3) * (5 : Nat)) + (1 : Nat)) + (1 : Nat)) + (1 : Nat)) + (1 : Nat)))))) ∨ ((GetElem?.getElem? x0 ((((((Int.toNat x3) * (5 : Nat)) + (1 : Nat)) + (1 : Nat)) + (1 : Nat)) + (1 : Nat))) = (Option.some (D.list 0 (0 : Nat) []))))]) (Tree.call 39 [(D.str (selS x0 ((Int.toNat x3) * (5 : Nat)))), (D.int .i64 (selI x0 (((Int.toNat x3) * (5 : Nat)) + (1 : Nat)))), (D.bool (selB x0 ((((Int.toNat x3) * (5 : Nat)) + (1 : Nat)) + (1 : Nat)))), (D.bool (selB x0 (((((Int.toNat x3) * (5 : Nat)) + (1 : Nat)) + (1 : Nat)) + (1 : Nat)))), (D.list 9 (selN x0 ((((((Int.toNat x3) * (5 : Nat)) + (1 : Nat)) + (1 : Nat)) + (1 : Nat)) + (1 : Nat))) (selL x0 ((((((Int.toNat x3) * (5 : Nat)) + (1 : Nat)) + (1 : Nat)) + (1 : Nat)) + (1 : Nat))))] (fun y196 => (Tree.ite (Bool.not (selB y196 0)) (Tree.ret [(D.bool false)]) (Tree.need (all_ [(inK .i64 (x3 + (1 : Int)))]) (Tree.goto 0 [(D.list 25 x0n x0), (D.int .i64 (x3 + (1 : Int)))]))))))) (Tree.ret [(D.bool (leI (Nat.cast x0n : Int) (4 : Int)))])) := by kernel_rfl
end Go.Proofs.Ytjleempapphlhab.Mini
end
