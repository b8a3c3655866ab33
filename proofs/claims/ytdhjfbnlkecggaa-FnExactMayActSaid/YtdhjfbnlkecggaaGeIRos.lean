/- Parts of the proof: IRos. -/
import Derived.Test.YtdhjfbnlkecggaaGeRosP
section
namespace Go.Proofs.Ytdhjfbnlkecggaa.Mini
open Go Go.RowKit
set_option linter.unusedVariables false
set_option linter.unusedSimpArgs false
set_option maxRecDepth 20000
/-- The first one with a role. -/
def frN (r : Int) (l : List Per) : Nat := l.findIdx fun p => p.r == r
def frP (r : Int) (l : List Per) : Int := if frN r l < l.length then (frN r l : Int) else -1
noncomputable def s_irosv : Sig := sig Try.f21 (fun xs => ∃ l : List Per, xs = [.list 30 l.length (rosD l)] ∧ smR l) (fun xs ys => ys = [.bool (rosB (unR (selL xs 0)))])
noncomputable def s_irole : Sig := sig Try.f41 (fun _ => True) (fun xs ys => ys = [.bool (inB (selI xs 0) 0 2)])
noncomputable def s_iperat : Sig := sig Try.f12 (fun xs => ∃ (l : List Per) (w : ByteArray), xs = [.list 30 l.length (rosD l), .str w] ∧ smR l) (fun xs ys => ys = [.int .i64 (atP (unR (selL xs 0)) (selS xs 1))])
noncomputable def s_icpp : Sig := sig Try.f39 (fun xs => ∃ l : List Per, xs = [.list 30 l.length (rosD l)] ∧ l.length ≤ 1048576) (fun xs ys => ys = [.list 30 (selN xs 0) (selL xs 0)])
noncomputable def s_ifwr : Sig := sig Try.f43 (fun xs => ∃ (l : List Per) (r : Int), xs = [.list 30 l.length (rosD l), .int .i64 r] ∧ l.length ≤ 1048576) (fun xs ys => ys = [.int .i64 (frP (selI xs 1) (unR (selL xs 0)))])
noncomputable def F_irole : Tb := tab []
noncomputable def hs_irole : Hds := []
set_option maxHeartbeats 4000000 in
theorem t_irole (a0 : Int) : fnT' Try.prog F_irole hs_irole .own Try.f41 [.int IntKind.i64 a0] = (Tree.ite (leI (0 : Int) a0) (Tree.ret [(D.bool (leI a0 (2 : Int)))]) (Tree.ret [(D.bool false)])) := by kernel_rfl
noncomputable def F_irosv : Tb := tab [(35, s_iword), (41, s_irole)]
theorem F_irosv_iword : F_irosv 35 = some s_iword := rfl
theorem F_irosv_irole : F_irosv 41 = some s_irole := rfl
noncomputable def hs_irosv : Hds := [([false, true, false, true, true], shapeW Try.f21 0 [(0, .one (.kd (.list 30))), (3, .one (.kd (.int .i64)))] [])]
set_option maxHeartbeats 4000000 in
theorem t_irosv (a0n : Nat) (a0 : List D) : fnT' Try.prog F_irosv hs_irosv .own Try.f21 [.list 30 a0n a0] = (Tree.ite (ltI (8 : Int) (Nat.cast a0n : Int)) (Tree.ret [(D.bool false)]) (Tree.goto 0 [(D.list 30 a0n a0), (D.int .i64 (0 : Int))])) := by kernel_rfl
set_option maxHeartbeats 4000000 in
theorem t_irosv0 (x0n : Nat) (x0 : List D) (x3 : Int) : plT' Try.prog F_irosv hs_irosv .own Try.f21 0 [.list 30 x0n x0, .int .i64 x3] = (Tree.ite (ltI x3 (Nat.cast x0n : Int)) (Tree.need (all_ [(((0 : Int) ≤ x3) ∧ (x3 < (Nat.cast x0n : Int)))]) (Tree.need (all_ [((GetElem?.getElem? x0 ((Int.toNat x3) * (3 : Nat))) = (Option.some (sel x0 ((Int.toNat x3) * (3 : Nat)) Kd.str)))]) (Tree.call 35 [(D.str (selS x0 ((Int.toNat x3) * (3 : Nat))))] (fun y196 => (Tree.ite (Bool.not (selB y196 0)) (Tree.ret [(D.bool false)]) (Tree.need (all_ [(((0 : Int) ≤ x3) ∧ (x3 < (Nat.cast x0n : Int)))]) (Tree.need (all_ [((GetElem?.getElem? x0 (((Int.toNat x3) * (3 : Nat)) + ((0 : Nat) + (1 : Nat)))) = (Option.some (sel x0 (((Int.toNat x3) * (3 : Nat)) + ((0 : Nat) + (1 : Nat))) (Kd.int .i64))))]) (Tree.call 41 [(D.int .i64 (selI x0 (((Int.toNat x3) * (3 : Nat)) + ((0 : Nat) + (1 : Nat)))))] (fun y192 => (Tree.ite (Bool.not (selB y192 0)) (Tree.ret [(D.bool false)]) (Tree.ite (ltI (0 : Int) x3) (Tree.need (all_ [(((0 : Int) ≤ x3) ∧ (x3 < (Nat.cast x0n : Int)))]) (Tree.need (all_ [((GetElem?.getElem? x0 ((Int.toNat x3) * (3 : Nat))) = (Option.some (sel x0 ((Int.toNat x3) * (3 : Nat)) Kd.str)))]) (Tree.need (all_ [(inK .i64 (x3 - (1 : Int)))]) (Tree.need (all_ [(((0 : Int) ≤ (x3 - (1 : Int))) ∧ ((x3 - (1 : Int)) < (Nat.cast x0n : Int)))]) (Tree.need (all_ [((GetElem?.getElem? x0 ((Int.toNat (x3 - (1 : Int))) * (3 : Nat))) = (Option.some (sel x0 ((Int.toNat (x3 - (1 : Int))) * (3 : Nat)) Kd.str)))]) (Tree.ite ((Go.Op.bytesLess (ByteArray.toList (selS x0 ((Int.toNat x3) * (3 : Nat)))) (ByteArray.toList (selS x0 ((Int.toNat (x3 - (1 : Int))) * (3 : Nat))))) || ((ByteArray.toList (selS x0 ((Int.toNat x3) * (3 : Nat)))) == (ByteArray.toList (selS x0 ((Int.toNat (x3 - (1 : Int))) * (3 : Nat)))))) (Tree.ret [(D.bool false)]) (Tree.need (all_ [(inK .i64 (x3 + (1 : Int)))]) (Tree.goto 0 [(D.list 30 x0n x0), (D.int .i64 (x3 + (1 : Int)))])))))))) (Tree.need (all_ [(inK .i64 (x3 + (1 : Int)))]) (Tree.goto 0 [(D.list 30 x0n x0), (D.int .i64 (x3 + (1 : Int)))]))))))))))))) (Tree.ret [(D.bool true)])) := by kernel_rfl
noncomputable def F_iperat : Tb := tab [(21, s_irosv)]
theorem F_iperat_irosv : F_iperat 21 = some s_irosv := rfl
noncomputable def hs_iperat : Hds := [([false, true, false, true, true], shapeW Try.f12 0 [(0, .one (.kd (.list 30))), (1, .one (.kd .str)), (5, .one (.kd (.int .i64)))] [])]
set_option maxHeartbeats 4000000 in
theorem t_iperat (a0n : Nat) (a0 : List D) (a1 : ByteArray) : fnT' Try.prog F_iperat hs_iperat .own Try.f12 [.list 30 a0n a0, .str a1] = (Tree.call 21 [(D.list 30 a0n a0)] (fun y199 => (Tree.ite (Bool.not (selB y199 0)) (Tree.ret [(D.int .i64 (-(1 : Int)))]) (Tree.goto 0 [(D.list 30 a0n a0), (D.str a1), (D.int .i64 (0 : Int))])))) := by kernel_rfl
set_option maxHeartbeats 4000000 in
theorem t_iperat0 (x0n : Nat) (x0 : List D) (x1 : ByteArray) (x5 : Int) : plT' Try.prog F_iperat hs_iperat .own Try.f12 0 [.list 30 x0n x0, .str x1, .int .i64 x5] = (Tree.ite (ltI x5 (Nat.cast x0n : Int)) (Tree.need (all_ [(((0 : Int) ≤ x5) ∧ (x5 < (Nat.cast x0n : Int)))]) (Tree.need (all_ [((GetElem?.getElem? x0 ((Int.toNat x5) * (3 : Nat))) = (Option.some (sel x0 ((Int.toNat x5) * (3 : Nat)) Kd.str)))]) (Tree.ite ((ByteArray.toList (selS x0 ((Int.toNat x5) * (3 : Nat)))) == (ByteArray.toList x1)) (Tree.ret [(D.int .i64 x5)]) (Tree.need (all_ [(inK .i64 (x5 + (1 : Int)))]) (Tree.goto 0 [(D.list 30 x0n x0), (D.str x1), (D.int .i64 (x5 + (1 : Int)))]))))) (Tree.ret [(D.int .i64 (-(1 : Int)))])) := by kernel_rfl
noncomputable def F_icpp : Tb := tab []
noncomputable def hs_icpp : Hds := []
set_option maxHeartbeats 4000000 in
theorem t_icpp (a0n : Nat) (a0 : List D) : fnT' Try.prog F_icpp hs_icpp .own Try.f39 [.list 30 a0n a0] = (Tree.need (all_ [(((Nat.cast a0n : Int) = (Nat.cast a0n : Int)) ∧ (((0 : Int) ≤ (Nat.cast a0n : Int)) ∧ ((((Nat.cast a0n : Int) * (Nat.cast (3 : Nat) : Int)) ≤ (16777216 : Int)) ∧ (((Nat.cast (32 : Nat) : Int) * (Nat.cast a0n : Int)) ≤ (281474976710656 : Int)))))]) (Tree.need (all_ [((((0 : Nat) * (3 : Nat)) + (List.length a0)) ≤ (List.length (rep a0n [(D.str (ByteArray.mk (List.toArray []))), (D.int .i64 (0 : Int)), (D.bool false)]))), (a0n ≤ a0n)]) (Tree.need (all_ [((((0 : Nat) + a0n) * (3 : Nat)) ≤ (List.length (setL (rep a0n [(D.str (ByteArray.mk (List.toArray []))), (D.int .i64 (0 : Int)), (D.bool false)]) ((0 : Nat) * (3 : Nat)) a0))), (scal (List.take (a0n * (3 : Nat)) (List.drop ((0 : Nat) * (3 : Nat)) (setL (rep a0n [(D.str (ByteArray.mk (List.toArray []))), (D.int .i64 (0 : Int)), (D.bool false)]) ((0 : Nat) * (3 : Nat)) a0))))]) (Tree.ret [(D.list 30 a0n (List.take (a0n * (3 : Nat)) (List.drop ((0 : Nat) * (3 : Nat)) (setL (rep a0n [(D.str (ByteArray.mk (List.toArray []))), (D.int .i64 (0 : Int)), (D.bool false)]) ((0 : Nat) * (3 : Nat)) a0))))])))) := by kernel_rfl
noncomputable def F_ifwr : Tb := tab []
noncomputable def hs_ifwr : Hds := [([false, true, false, true], shapeW Try.f43 0 [(0, .one (.kd (.list 30))), (1, .one (.kd (.int .i64))), (5, .one (.kd (.int .i64)))] [])]
set_option maxHeartbeats 4000000 in
theorem t_ifwr (a0n : Nat) (a0 : List D) (a1 : Int) : fnT' Try.prog F_ifwr hs_ifwr .own Try.f43 [.list 30 a0n a0, .int IntKind.i64 a1] = (Tree.goto 0 [(D.list 30 a0n a0), (D.int .i64 a1), (D.int .i64 (0 : Int))]) := by kernel_rfl
set_option maxHeartbeats 4000000 in
theorem t_ifwr0 (x0n : Nat) (x0 : List D) (x1 : Int) (x5 : Int) : plT' Try.prog F_ifwr hs_ifwr .own Try.f43 0 [.list 30 x0n x0, .int .i64 x1, .int .i64 x5] = (Tree.ite (ltI x5 (Nat.cast x0n : Int)) (Tree.need (all_ [(((0 : Int) ≤ x5) ∧ (x5 < (Nat.cast x0n : Int)))]) (Tree.need (all_ [((GetElem?.getElem? x0 (((Int.toNat x5) * (3 : Nat)) + ((0 : Nat) + (1 : Nat)))) = (Option.some (sel x0 (((Int.toNat x5) * (3 : Nat)) + ((0 : Nat) + (1 : Nat))) (Kd.int .i64))))]) (Tree.ite ((selI x0 (((Int.toNat x5) * (3 : Nat)) + ((0 : Nat) + (1 : Nat)))) == x1) (Tree.ret [(D.int .i64 x5)]) (Tree.need (all_ [(inK .i64 (x5 + (1 : Int)))]) (Tree.goto 0 [(D.list 30 x0n x0), (D.int .i64 x1), (D.int .i64 (x5 + (1 : Int)))]))))) (Tree.ret [(D.int .i64 (-(1 : Int)))])) := by kernel_rfl
end Go.Proofs.Ytdhjfbnlkecggaa.Mini
end
