/- Parts of the proof: Ros. -/
import Derived.Test.YtdhjfbnlkecggaaGeTord
import Derived.Test.YtdhjfbnlkecggaaGeBase
import Derived.Test.YtdhjfbnlkecggaaGeDraw
import Derived.Test.YtdhjfbnlkecggaaGeHelp
section
namespace Go.Proofs.Ytdhjfbnlkecggaa.Mini
open Go Go.RowKit
set_option linter.unusedVariables false
set_option linter.unusedSimpArgs false
set_option maxRecDepth 20000
structure Per where
  w : ByteArray
  r : Int
  m : Bool
def perD (p : Per) : List D := [.str p.w, .int .i64 p.r, .bool p.m]
def rosD (l : List Per) : List D := flatD perD l
def unP (xs : List D) : Per := ⟨selS xs 0, selI xs 1, selB xs 2⟩
def unR : List D → List Per
  | .str w :: .int _ r :: .bool m :: t => ⟨w, r, m⟩ :: unR t
  | _ => []
def perB (p : Per) : Bool := wordB p.w.data.toList && inB p.r 0 2
/-- The words ascend. -/
def ascB : List Per → Bool
  | [] => true
  | a :: l => (match l with | [] => true | b :: _ => ltS a.w b.w) && ascB l
def rosB (l : List Per) : Bool := (l.all perB && ascB l) && decide (l.length ≤ 8)
/-- The place of a word; the length, if it isn't there. -/
def placeP (w : ByteArray) (l : List Per) : Nat := l.findIdx fun p => eqS p.w w
def atP (l : List Per) (w : ByteArray) : Int := if rosB l = true ∧ placeP w l < l.length then (placeP w l : Int) else -1
def zeroP : Per := ⟨⟨#[]⟩, 0, false⟩
def rosR (x : List Per × Bool) : List D := [.list 30 x.1.length (rosD x.1), .bool x.2]
def smR (l : List Per) : Prop := l.length ≤ 1048576 ∧ ∀ p ∈ l, p.w.size ≤ 1048576
noncomputable def s_srosv : Sig := sig Try.f40 (fun xs => ∃ l : List Per, xs = [.list 30 l.length (rosD l)] ∧ smR l) (fun xs ys => ys = [.bool (rosB (unR (selL xs 0)))])
noncomputable def s_sperat : Sig := sig Try.f34 (fun xs => ∃ (l : List Per) (w : ByteArray), xs = [.list 30 l.length (rosD l), .str w] ∧ smR l) (fun xs ys => ys = [.int .i64 (atP (unR (selL xs 0)) (selS xs 1))])
noncomputable def F_srosv : Tb := tab [(49, s_sword), (44, s_sin)]
theorem F_srosv_sword : F_srosv 49 = some s_sword := rfl
theorem F_srosv_sin : F_srosv 44 = some s_sin := rfl
noncomputable def hs_srosv : Hds := [([false, true, false, true], shapeW Try.f40 0 [(0, .one (.kd (.list 30))), (3, .one (.kd (.int .i64)))] [])]
set_option maxHeartbeats 4000000 in
theorem t_srosv (a0n : Nat) (a0 : List D) : fnT' Try.prog F_srosv hs_srosv .own Try.f40 [.list 30 a0n a0] = (Tree.goto 0 [(D.list 30 a0n a0), (D.int .i64 (0 : Int))]) := by kernel_rfl
set_option maxHeartbeats 4000000 in
theorem t_srosv0 (x0n : Nat) (x0 : List D) (x3 : Int) : plT' Try.prog F_srosv hs_srosv .own Try.f40 0 [.list 30 x0n x0, .int .i64 x3] = (Tree.ite (ltI x3 (Nat.cast x0n : Int)) (Tree.need (all_ [(((0 : Int) ≤ x3) ∧ (x3 < (Nat.cast x0n : Int)))]) (Tree.need (all_ [((GetElem?.getElem? x0 ((Int.toNat x3) * (3 : Nat))) = (Option.some (sel x0 ((Int.toNat x3) * (3 : Nat)) Kd.str)))]) (Tree.call 49 [(D.str (selS x0 ((Int.toNat x3) * (3 : Nat))))] (fun y196 => (Tree.ite (Bool.not (selB y196 0)) (Tree.ret [(D.bool false)]) (Tree.need (all_ [(((0 : Int) ≤ x3) ∧ (x3 < (Nat.cast x0n : Int)))]) (Tree.need (all_ [((GetElem?.getElem? x0 (((Int.toNat x3) * (3 : Nat)) + ((0 : Nat) + (1 : Nat)))) = (Option.some (sel x0 (((Int.toNat x3) * (3 : Nat)) + ((0 : Nat) + (1 : Nat))) (Kd.int .i64))))]) (Tree.call 44 [(D.int .i64 (selI x0 (((Int.toNat x3) * (3 : Nat)) + ((0 : Nat) + (1 : Nat))))), (D.int .i64 (0 : Int)), (D.int .i64 (2 : Int))] (fun y192 => (Tree.ite (Bool.not (selB y192 0)) (Tree.ret [(D.bool false)]) (Tree.ite (ltI (0 : Int) x3) (Tree.need (all_ [(((0 : Int) ≤ x3) ∧ (x3 < (Nat.cast x0n : Int)))]) (Tree.need (all_ [((GetElem?.getElem? x0 ((Int.toNat x3) * (3 : Nat))) = (Option.some (sel x0 ((Int.toNat x3) * (3 : Nat)) Kd.str)))]) (Tree.need (all_ [(inK .i64 (x3 - (1 : Int)))]) (Tree.need (all_ [(((0 : Int) ≤ (x3 - (1 : Int))) ∧ ((x3 - (1 : Int)) < (Nat.cast x0n : Int)))]) (Tree.need (all_ [((GetElem?.getElem? x0 ((Int.toNat (x3 - (1 : Int))) * (3 : Nat))) = (Option.some (sel x0 ((Int.toNat (x3 - (1 : Int))) * (3 : Nat)) Kd.str)))]) (Tree.ite ((Go.Op.bytesLess (ByteArray.toList (selS x0 ((Int.toNat x3) * (3 : Nat)))) (ByteArray.toList (selS x0 ((Int.toNat (x3 - (1 : Int))) * (3 : Nat))))) || ((ByteArray.toList (selS x0 ((Int.toNat x3) * (3 : Nat)))) == (ByteArray.toList (selS x0 ((Int.toNat (x3 - (1 : Int))) * (3 : Nat)))))) (Tree.ret [(D.bool false)]) (Tree.need (all_ [(inK .i64 (x3 + (1 : Int)))]) (Tree.goto 0 [(D.list 30 x0n x0), (D.int .i64 (x3 + (1 : Int)))])))))))) (Tree.need (all_ [(inK .i64 (x3 + (1 : Int)))]) (Tree.goto 0 [(D.list 30 x0n x0), (D.int .i64 (x3 + (1 : Int)))]))))))))))))) (Tree.ret [(D.bool (leI (Nat.cast x0n : Int) (8 : Int)))])) := by kernel_rfl
noncomputable def F_sperat : Tb := tab [(40, s_srosv)]
theorem F_sperat_srosv : F_sperat 40 = some s_srosv := rfl
noncomputable def hs_sperat : Hds := [([false, true, false, true], shapeW Try.f34 0 [(0, .one (.kd (.list 30))), (1, .one (.kd .str)), (5, .one (.kd (.int .i64)))] [])]
set_option maxHeartbeats 4000000 in
theorem t_sperat (a0n : Nat) (a0 : List D) (a1 : ByteArray) : fnT' Try.prog F_sperat hs_sperat .own Try.f34 [.list 30 a0n a0, .str a1] = (Tree.goto 0 [(D.list 30 a0n a0), (D.str a1), (D.int .i64 (0 : Int))]) := by kernel_rfl
set_option maxHeartbeats 4000000 in
theorem t_sperat0 (x0n : Nat) (x0 : List D) (x1 : ByteArray) (x5 : Int) : plT' Try.prog F_sperat hs_sperat .own Try.f34 0 [.list 30 x0n x0, .str x1, .int .i64 x5] = (Tree.ite (ltI x5 (Nat.cast x0n : Int)) (Tree.call 40 [(D.list 30 x0n x0)] (fun y198 => (Tree.ite (selB y198 0) (Tree.need (all_ [(((0 : Int) ≤ x5) ∧ (x5 < (Nat.cast x0n : Int)))]) (Tree.need (all_ [((GetElem?.getElem? x0 ((Int.toNat x5) * (3 : Nat))) = (Option.some (sel x0 ((Int.toNat x5) * (3 : Nat)) Kd.str)))]) (Tree.ite ((ByteArray.toList (selS x0 ((Int.toNat x5) * (3 : Nat)))) == (ByteArray.toList x1)) (Tree.ret [(D.int .i64 x5)]) (Tree.need (all_ [(inK .i64 (x5 + (1 : Int)))]) (Tree.goto 0 [(D.list 30 x0n x0), (D.str x1), (D.int .i64 (x5 + (1 : Int)))]))))) (Tree.ret [(D.int .i64 (-(1 : Int)))])))) (Tree.ret [(D.int .i64 (-(1 : Int)))])) := by kernel_rfl
end Go.Proofs.Ytdhjfbnlkecggaa.Mini
end
