/- Parts of the proof in one text: Offer, SOffer, SRead, SMath. -/
import Derived.Test.YtgoheolehnahkaaHx
import Derived.Test.YtgoheolehnahkaaPlain3
import Derived.Test.YtgoheolehnahkaaRwP
section
namespace Go.Proofs.Ytgoheolehnahkaa.Mini
open Go Go.RowKit
set_option linter.unusedVariables false
set_option linter.unusedSimpArgs false
set_option maxRecDepth 20000
def textsD (ls : List ByteArray) : List D := ls.map .str
def unS (l : List D) : List ByteArray := l.map fun d => match d with | .str s => s | _ => ⟨#[]⟩
structure Med where
  k : ByteArray
  p : Int
  s : Bool
  h : Bool
  c : List ByteArray
def medD (m : Med) : List D := [.str m.k, .int .i64 m.p, .bool m.s, .bool m.h, .list 9 m.c.length (textsD m.c)]
def offD (l : List Med) : List D := flatD medD l
def unM (xs : List D) : Med := ⟨selS xs 0, selI xs 1, selB xs 2, selB xs 3, unS (selL xs 4)⟩
def unO : List D → List Med
  | .str k :: .int _ p :: .bool s :: .bool h :: .list _ _ c :: r => ⟨k, p, s, h, unS c⟩ :: unO r
  | _ => []
def smM (m : Med) : Prop := m.k.size ≤ 1048576 ∧ m.c.length ≤ 1048576 ∧ ∀ x ∈ m.c, x.size ≤ 1048576
/-- How far a loop within a loop still is from its end. -/
def mu2 (n h i j : Nat) : Nat := if h = 0 then (n - i) * 10000000 else (n - i) * 10000000 - 1 - j
def wordS (s : ByteArray) : Bool := wordB s.data.toList
def distB (l : List ByteArray) : Bool := decide (l.map fun x => x.data.toList).Nodup
def medB (m : Med) : Bool := (m.c.all wordS && distB m.c) && (wordS m.k && (inB m.p 0 65535 && inB m.c.length 1 4))
def offB (l : List Med) : Bool := l.all medB && decide (l.length ≤ 4)
def wayS (s h : Bool) : ByteArray := if s then (if h then "both".toUTF8 else "send".toUTF8) else if h then "hear".toUTF8 else "none".toUTF8
def joinS : List ByteArray → ByteArray → ByteArray
  | [], a => a
  | c :: r, a => joinS r (a ++ " ".toUTF8 ++ c)
def lineM (m : Med) : ByteArray := joinS m.c (m.k ++ " ".toUTF8 ++ textS m.p ++ " ".toUTF8 ++ wayS m.s m.h)
def linesO (l : List Med) : List ByteArray := if offB l then l.map lineM else []
/-- The media whose line has these words. -/
def rdW : List ByteArray → Option Med
  | k :: p :: w :: c :: cs =>
    let m : Med := ⟨k, readN p.data.toList, w.data.toList == [98, 111, 116, 104] || w.data.toList == [115, 101, 110, 100], w.data.toList == [98, 111, 116, 104] || w.data.toList == [104, 101, 97, 114], c :: cs⟩
    if (wayS m.s m.h).data.toList = w.data.toList ∧ medB m = true then some m else none
  | _ => none
def rdLs : List ByteArray → Option (List Med)
  | [] => some []
  | s :: r => match rdW (wordsS s), rdLs r with
    | some m, some l => some (m :: l)
    | _, _ => none
def rdOf (ls : List ByteArray) : Option (List Med) := if ls.length ≤ 4 then rdLs ls else none
def rdRes : Option (List Med) → List D
  | some l => [.list 25 l.length (offD l), .bool true]
  | none => [.list 25 0 [], .bool false]
noncomputable def s_swords : Sig := sig Try.f54 (fun xs => (selS xs 0).size ≤ 1048575) (fun xs ys => ys = [.list 9 (wordsS (selS xs 0)).length (textsD (wordsS (selS xs 0)))])
noncomputable def s_sway : Sig := sig Try.f48 (fun xs => True) (fun xs ys => ys = [.str (wayS (selB xs 2) (selB xs 3))])
noncomputable def s_smed : Sig := sig Try.f13 (fun xs => ∃ m : Med, xs = medD m ∧ smM m) (fun xs ys => ys = [.bool (medB (unM xs))])
noncomputable def s_soff : Sig := sig Try.f20 (fun xs => ∃ l : List Med, xs = [.list 25 l.length (offD l)] ∧ l.length ≤ 1048576 ∧ ∀ m ∈ l, smM m) (fun xs ys => ys = [.bool (offB (unO (selL xs 0)))])
noncomputable def s_soli : Sig := sig Try.f27 (fun xs => ∃ l : List Med, xs = [.list 25 l.length (offD l)] ∧ l.length ≤ 1048576 ∧ ∀ m ∈ l, smM m) (fun xs ys => ys = [.list 9 (linesO (unO (selL xs 0))).length (textsD (linesO (unO (selL xs 0))))])
noncomputable def s_srof : Sig := sigF Try.f35 (fun xs => ∃ ls : List ByteArray, xs = [.list 9 ls.length (textsD ls)] ∧ ls.length ≤ 1048576 ∧ ∀ s ∈ ls, s.size ≤ 1048575) (fun xs ys => ys = rdRes (rdOf (unS (selL xs 0))))
noncomputable def F_swords : Tb := tab []
noncomputable def hs_swords : Hds := [([false, true, false, true, true], shapeW Try.f54 0 [(0, .one (.kd .str)), (3, .one (.sl 9 0)), (4, .one (.kd (.int .i64)))] [.sym 9])]
set_option maxHeartbeats 4000000 in
theorem t_swords (a0 : ByteArray) : fnT' Try.prog F_swords hs_swords .own Try.f54 [.str a0] = (Tree.goto 0 [(D.str a0), (D.int .i64 (Nat.cast (0 : Nat) : Int)), (D.int .i64 (Nat.cast (1 : Nat) : Int)), (D.int .i64 (0 : Int)), (D.list 9 (0 : Nat) [(D.str (ByteArray.mk (List.toArray [])))])]) := by kernel_rfl
set_option maxHeartbeats 4000000 in
theorem t_swords0 (x0 : ByteArray) (x3o x3n : Nat) (x4 : Int) (r0 : List D) : plT' Try.prog F_swords hs_swords .own Try.f54 0 [.str x0, .int .i64 (x3o : Nat), .int .i64 (x3n : Nat), .int .i64 x4, .list 9 0 r0] = (Tree.ite (ltI x4 (Nat.cast (ByteArray.size x0) : Int)) (Tree.need (all_ [(((0 : Int) ≤ x4) ∧ (x4 < (Nat.cast (ByteArray.size x0) : Int)))]) (Tree.ite ((byteI x0 (Int.toNat x4)) == (32 : Int)) (Tree.need (all_ [((((0 : Nat) + (1 : Nat)) * (1 : Nat)) ≤ (1 : Nat)), (((x3o + x3n) * (1 : Nat)) ≤ (List.length r0)), ((x3n + (1 : Nat)) ≤ (1048576 : Nat))]) (Tree.need (all_ [(inK .i64 (x4 + (1 : Int)))]) (Tree.goto 0 [(D.str x0), (D.int .i64 (Nat.cast (0 : Nat) : Int)), (D.int .i64 (Nat.cast (x3n + (1 : Nat)) : Int)), (D.int .i64 (x4 + (1 : Int))), (D.list 9 (0 : Nat) ((List.take (x3n * (1 : Nat)) (List.drop (x3o * (1 : Nat)) r0)) ++ [(D.str (ByteArray.mk (List.toArray [])))]))]))) (Tree.need (all_ [(inK .i64 ((Nat.cast x3n : Int) - (1 : Int)))]) (Tree.need (all_ [(inK .i64 ((Nat.cast x3n : Int) - (1 : Int)))]) (Tree.need (all_ [(((0 : Int) ≤ ((Nat.cast x3n : Int) - (1 : Int))) ∧ (((Nat.cast x3n : Int) - (1 : Int)) < (Nat.cast x3n : Int)))]) (Tree.need (all_ [((GetElem?.getElem? r0 ((x3o + (Int.toNat ((Nat.cast x3n : Int) - (1 : Int)))) * (1 : Nat))) = (Option.some (sel r0 ((x3o + (Int.toNat ((Nat.cast x3n : Int) - (1 : Int)))) * (1 : Nat)) Kd.str)))]) (Tree.need (all_ [(inK .i64 (x4 + (1 : Int)))]) (Tree.need (all_ [(((0 : Int) ≤ (Option.getD (Option.some x4) (0 : Int))) ∧ (((Option.getD (Option.some x4) (0 : Int)) ≤ (Option.getD (Option.some (x4 + (1 : Int))) (Nat.cast (ByteArray.size x0) : Int))) ∧ ((Option.getD (Option.some (x4 + (1 : Int))) (Nat.cast (ByteArray.size x0) : Int)) ≤ (Nat.cast (ByteArray.size x0) : Int))))]) (Tree.need (all_ [(((ByteArray.size (selS r0 ((x3o + (Int.toNat ((Nat.cast x3n : Int) - (1 : Int)))) * (1 : Nat)))) + (ByteArray.size (ByteArray.extract x0 (Int.toNat (Option.getD (Option.some x4) (0 : Int))) (Int.toNat (Option.getD (Option.some (x4 + (1 : Int))) (Nat.cast (ByteArray.size x0) : Int)))))) ≤ (100000000 : Nat))]) (Tree.need (all_ [(((0 : Int) ≤ ((Nat.cast x3n : Int) - (1 : Int))) ∧ (((Nat.cast x3n : Int) - (1 : Int)) < (Nat.cast x3n : Int)))]) (Tree.need (all_ [((((x3o + (Int.toNat ((Nat.cast x3n : Int) - (1 : Int)))) * (1 : Nat)) + (1 : Nat)) ≤ (List.length r0))]) (Tree.need (all_ [(inK .i64 (x4 + (1 : Int)))]) (Tree.goto 0 [(D.str x0), (D.int .i64 (Nat.cast x3o : Int)), (D.int .i64 (Nat.cast x3n : Int)), (D.int .i64 (x4 + (1 : Int))), (D.list 9 (0 : Nat) (setL r0 ((x3o + (Int.toNat ((Nat.cast x3n : Int) - (1 : Int)))) * (1 : Nat)) [(D.str ((selS r0 ((x3o + (Int.toNat ((Nat.cast x3n : Int) - (1 : Int)))) * (1 : Nat))) ++ (ByteArray.extract x0 (Int.toNat (Option.getD (Option.some x4) (0 : Int))) (Int.toNat (Option.getD (Option.some (x4 + (1 : Int))) (Nat.cast (ByteArray.size x0) : Int))))))]))]))))))))))))) (Tree.need (all_ [(((x3o + x3n) * (1 : Nat)) ≤ (List.length r0)), (scal (List.take (x3n * (1 : Nat)) (List.drop (x3o * (1 : Nat)) r0)))]) (Tree.ret [(D.list 9 x3n (List.take (x3n * (1 : Nat)) (List.drop (x3o * (1 : Nat)) r0)))]))) := by kernel_rfl
noncomputable def F_sway : Tb := tab []
noncomputable def hs_sway : Hds := []
set_option maxHeartbeats 4000000 in
theorem t_sway (a0 : ByteArray) (a1 : Int) (a2 : Bool) (a3 : Bool) (a4n : Nat) (a4 : List D) : fnT' Try.prog F_sway hs_sway .own Try.f48 [.str a0, .int IntKind.i64 a1, .bool a2, .bool a3, .list 9 a4n a4] = (Tree.ite a2 (Tree.ite a3 (Tree.ret [(D.str (ByteArray.mk (List.toArray [(98 : UInt8), (111 : UInt8), (116 : UInt8), (104 : UInt8)])))]) (Tree.ite a2 (Tree.ret [(D.str (ByteArray.mk (List.toArray [(115 : UInt8), (101 : UInt8), (110 : UInt8), (100 : UInt8)])))]) (Tree.ite a3 (Tree.ret [(D.str (ByteArray.mk (List.toArray [(104 : UInt8), (101 : UInt8), (97 : UInt8), (114 : UInt8)])))]) (Tree.ret [(D.str (ByteArray.mk (List.toArray [(110 : UInt8), (111 : UInt8), (110 : UInt8), (101 : UInt8)])))])))) (Tree.ite a2 (Tree.ret [(D.str (ByteArray.mk (List.toArray [(115 : UInt8), (101 : UInt8), (110 : UInt8), (100 : UInt8)])))]) (Tree.ite a3 (Tree.ret [(D.str (ByteArray.mk (List.toArray [(104 : UInt8), (101 : UInt8), (97 : UInt8), (114 : UInt8)])))]) (Tree.ret [(D.str (ByteArray.mk (List.toArray [(110 : UInt8), (111 : UInt8), (110 : UInt8), (101 : UInt8)])))])))) := by kernel_rfl
noncomputable def F_smed : Tb := tab [(43, s_sword), (44, s_sin)]
theorem F_smed_sword : F_smed 43 = some s_sword := rfl
theorem F_smed_sin : F_smed 44 = some s_sin := rfl
noncomputable def hs_smed : Hds := [([false, true, false, true], shapeW Try.f13 0 [(1, .one (.ptr 0 0)), (3, .one (.kd (.int .i64)))] [.fix 25 [.kd .str, .kd (.int .i64), .kd .bool, .kd .bool, .kd (.list 9)]]), ([false, true, true, false, false, true, false, false, true, false, true], shapeW Try.f13 0 [(1, .one (.ptr 0 0)), (3, .one (.kd (.int .i64))), (4, .one (.kd (.int .i64)))] [.fix 25 [.kd .str, .kd (.int .i64), .kd .bool, .kd .bool, .kd (.list 9)]])]
set_option maxHeartbeats 4000000 in
theorem t_smed (a0 : ByteArray) (a1 : Int) (a2 : Bool) (a3 : Bool) (a4n : Nat) (a4 : List D) : fnT' Try.prog F_smed hs_smed .own Try.f13 [.str a0, .int IntKind.i64 a1, .bool a2, .bool a3, .list 9 a4n a4] = (Tree.goto 0 [(D.int .i64 (0 : Int)), (D.str a0), (D.int .i64 a1), (D.bool a2), (D.bool a3), (D.list 9 a4n a4)]) := by kernel_rfl
set_option maxHeartbeats 4000000 in
theorem t_smed0 (x3 : Int) (r0_0 : ByteArray) (r0_1 : Int) (r0_2 : Bool) (r0_3 : Bool) (r0_4n : Nat) (r0_4 : List D) : plT' Try.prog F_smed hs_smed .own Try.f13 0 [.int .i64 x3, .str r0_0, .int .i64 r0_1, .bool r0_2, .bool r0_3, .list 9 r0_4n r0_4] = (Tree.ite (ltI x3 (Nat.cast r0_4n : Int)) (Tree.need (all_ [(((0 : Int) ≤ x3) ∧ (x3 < (Nat.cast r0_4n : Int)))]) (Tree.need (all_ [((GetElem?.getElem? r0_4 ((Int.toNat x3) * (1 : Nat))) = (Option.some (sel r0_4 ((Int.toNat x3) * (1 : Nat)) Kd.str)))]) (Tree.call 43 [(D.str (selS r0_4 ((Int.toNat x3) * (1 : Nat))))] (fun y196 => (Tree.ite (Bool.not (selB y196 0)) (Tree.ret [(D.bool false)]) (Tree.goto 1 [(D.int .i64 x3), (D.int .i64 (0 : Int)), (D.str r0_0), (D.int .i64 r0_1), (D.bool r0_2), (D.bool r0_3), (D.list 9 r0_4n r0_4)])))))) (Tree.call 43 [(D.str r0_0)] (fun y198 => (Tree.ite (selB y198 0) (Tree.call 44 [(D.int .i64 r0_1), (D.int .i64 (0 : Int)), (D.int .i64 (65535 : Int))] (fun y196 => (Tree.ite (selB y196 0) (Tree.call 44 [(D.int .i64 (Nat.cast r0_4n : Int)), (D.int .i64 (1 : Int)), (D.int .i64 (4 : Int))] (fun y194 => (Tree.ret [(D.bool (selB y194 0))]))) (Tree.ret [(D.bool false)])))) (Tree.ret [(D.bool false)]))))) := by kernel_rfl
set_option maxHeartbeats 4000000 in
theorem t_smed1 (x3 : Int) (x4 : Int) (r0_0 : ByteArray) (r0_1 : Int) (r0_2 : Bool) (r0_3 : Bool) (r0_4n : Nat) (r0_4 : List D) : plT' Try.prog F_smed hs_smed .own Try.f13 1 [.int .i64 x3, .int .i64 x4, .str r0_0, .int .i64 r0_1, .bool r0_2, .bool r0_3, .list 9 r0_4n r0_4] = (Tree.ite (ltI x4 x3) (Tree.need (all_ [(((0 : Int) ≤ x4) ∧ (x4 < (Nat.cast r0_4n : Int)))]) (Tree.need (all_ [((GetElem?.getElem? r0_4 ((Int.toNat x4) * (1 : Nat))) = (Option.some (sel r0_4 ((Int.toNat x4) * (1 : Nat)) Kd.str)))]) (Tree.need (all_ [(((0 : Int) ≤ x3) ∧ (x3 < (Nat.cast r0_4n : Int)))]) (Tree.need (all_ [((GetElem?.getElem? r0_4 ((Int.toNat x3) * (1 : Nat))) = (Option.some (sel r0_4 ((Int.toNat x3) * (1 : Nat)) Kd.str)))]) (Tree.ite ((ByteArray.toList (selS r0_4 ((Int.toNat x4) * (1 : Nat)))) == (ByteArray.toList (selS r0_4 ((Int.toNat x3) * (1 : Nat))))) (Tree.ret [(D.bool false)]) (Tree.need (all_ [(inK .i64 (x4 + (1 : Int)))]) (Tree.goto 1 [(D.int .i64 x3), (D.int .i64 (x4 + (1 : Int))), (D.str r0_0), (D.int .i64 r0_1), (D.bool r0_2), (D.bool r0_3), (D.list 9 r0_4n r0_4)]))))))) (Tree.need (all_ [(inK .i64 (x3 + (1 : Int)))]) (Tree.goto 0 [(D.int .i64 (x3 + (1 : Int))), (D.str r0_0), (D.int .i64 r0_1), (D.bool r0_2), (D.bool r0_3), (D.list 9 r0_4n r0_4)]))) := by kernel_rfl
noncomputable def F_soff : Tb := tab [(13, s_smed)]
theorem F_soff_smed : F_soff 13 = some s_smed := rfl
noncomputable def hs_soff : Hds := [([false, true, false, true], shapeW Try.f20 0 [(0, .one (.kd (.list 25))), (3, .one (.kd (.int .i64)))] [])]
set_option maxHeartbeats 4000000 in
theorem t_soff (a0n : Nat) (a0 : List D) : fnT' Try.prog F_soff hs_soff .own Try.f20 [.list 25 a0n a0] = (Tree.goto 0 [(D.list 25 a0n a0), (D.int .i64 (0 : Int))]) := by kernel_rfl
set_option maxHeartbeats 4000000 in
theorem t_soff0 (x0n : Nat) (x0 : List D) (x3 : Int) : plT' Try.prog F_soff hs_soff .own Try.f20 0 [.list 25 x0n x0, .int .i64 x3] = (Tree.ite (ltI x3 (Nat.cast x0n : Int)) (Tree.need (all_ [(((0 : Int) ≤ x3) ∧ (x3 < (Nat.cast x0n : Int)))]) (Tree.need (all_ [((GetElem?.getElem? x0 ((Int.toNat x3) * (5 : Nat))) = (Option.some (sel x0 ((Int.toNat x3) * (5 : Nat)) Kd.str))), ((GetElem?.getElem? x0 (((Int.toNat x3) * (5 : Nat)) + (1 : Nat))) = (Option.some (sel x0 (((Int.toNat x3) * (5 : Nat)) + (1 : Nat)) (Kd.int .i64)))), ((GetElem?.getElem? x0 ((((Int.toNat x3) * (5 : Nat)) + (1 : Nat)) + (1 : Nat))) = (Option.some (sel x0 ((((Int.toNat x3) * (5 : Nat)) + (1 : Nat)) + (1 : Nat)) Kd.bool))), ((GetElem?.getElem? x0 (((((Int.toNat x3) * (5 : Nat)) + (1 : Nat)) + (1 : Nat)) + (1 : Nat))) = (Option.some (sel x0 (((((Int.toNat x3) * (5 : Nat)) + (1 : Nat)) + (1 : Nat)) + (1 : Nat)) Kd.bool))), (((GetElem?.getElem? x0 ((((((Int.toNat x3) * (5 : Nat)) + (1 : Nat)) + (1 : Nat)) + (1 : Nat)) + (1 : Nat))) = (Option.some (D.list 9 (selN x0 ((((((Int.toNat x3) * (5 : Nat)) + (1 : Nat)) + (1 : Nat)) + (1 : Nat)) + (1 : Nat))) (selL x0 ((((((Int.toNat x3) * (5 : Nat)) + (1 : Nat)) + (1 : Nat)) + (1 : Nat)) + (1 : Nat)))))) ∨ ((GetElem?.getElem? x0 ((((((Int.toNat x3) * (5 : Nat)) + (1 : Nat)) + (1 : Nat)) + (1 : Nat)) + (1 : Nat))) = (Option.some (D.list 0 (0 : Nat) []))))]) (Tree.call 13 [(D.str (selS x0 ((Int.toNat x3) * (5 : Nat)))), (D.int .i64 (selI x0 (((Int.toNat x3) * (5 : Nat)) + (1 : Nat)))), (D.bool (selB x0 ((((Int.toNat x3) * (5 : Nat)) + (1 : Nat)) + (1 : Nat)))), (D.bool (selB x0 (((((Int.toNat x3) * (5 : Nat)) + (1 : Nat)) + (1 : Nat)) + (1 : Nat)))), (D.list 9 (selN x0 ((((((Int.toNat x3) * (5 : Nat)) + (1 : Nat)) + (1 : Nat)) + (1 : Nat)) + (1 : Nat))) (selL x0 ((((((Int.toNat x3) * (5 : Nat)) + (1 : Nat)) + (1 : Nat)) + (1 : Nat)) + (1 : Nat))))] (fun y196 => (Tree.ite (Bool.not (selB y196 0)) (Tree.ret [(D.bool false)]) (Tree.need (all_ [(inK .i64 (x3 + (1 : Int)))]) (Tree.goto 0 [(D.list 25 x0n x0), (D.int .i64 (x3 + (1 : Int)))]))))))) (Tree.ret [(D.bool (leI (Nat.cast x0n : Int) (4 : Int)))])) := by kernel_rfl
noncomputable def F_soli : Tb := tab [(20, s_soff), (47, s_snum), (48, s_sway)]
theorem F_soli_soff : F_soli 20 = some s_soff := rfl
theorem F_soli_snum : F_soli 47 = some s_snum := rfl
theorem F_soli_sway : F_soli 48 = some s_sway := rfl
noncomputable def hs_soli : Hds := [([false, true, false, true, true], shapeW Try.f27 0 [(0, .one (.kd (.list 25))), (3, .one (.sl 9 0)), (4, .one (.kd (.int .i64)))] [.sym 9]), ([false, true, false, true, false, false, true, false, false, true, false, true, true], shapeW Try.f27 0 [(0, .one (.kd (.list 25))), (3, .one (.sl 9 0)), (4, .one (.kd (.int .i64))), (5, .one (.kd .str)), (6, .one (.kd (.int .i64))), (13, .one (.kd (.list 25))), (14, .one (.kd .bool))] [.sym 9])]
set_option maxHeartbeats 4000000 in
theorem t_soli (a0n : Nat) (a0 : List D) : fnT' Try.prog F_soli hs_soli .own Try.f27 [.list 25 a0n a0] = (Tree.goto 0 [(D.list 25 a0n a0), (D.int .i64 (Nat.cast (0 : Nat) : Int)), (D.int .i64 (Nat.cast (0 : Nat) : Int)), (D.int .i64 (0 : Int)), (D.list 9 (0 : Nat) [])]) := by kernel_rfl
set_option maxHeartbeats 4000000 in
theorem t_soli0 (x0n : Nat) (x0 : List D) (x3o x3n : Nat) (x4 : Int) (r0 : List D) : plT' Try.prog F_soli hs_soli .own Try.f27 0 [.list 25 x0n x0, .int .i64 (x3o : Nat), .int .i64 (x3n : Nat), .int .i64 x4, .list 9 0 r0] = (Tree.ite (ltI x4 (Nat.cast x0n : Int)) (Tree.call 20 [(D.list 25 x0n x0)] (fun y198 => (Tree.ite (selB y198 0) (Tree.need (all_ [(((0 : Int) ≤ x4) ∧ (x4 < (Nat.cast x0n : Int)))]) (Tree.need (all_ [((GetElem?.getElem? x0 ((Int.toNat x4) * (5 : Nat))) = (Option.some (sel x0 ((Int.toNat x4) * (5 : Nat)) Kd.str)))]) (Tree.need (all_ [(((ByteArray.size (selS x0 ((Int.toNat x4) * (5 : Nat)))) + (1 : Nat)) ≤ (100000000 : Nat))]) (Tree.need (all_ [(((0 : Int) ≤ x4) ∧ (x4 < (Nat.cast x0n : Int)))]) (Tree.need (all_ [((GetElem?.getElem? x0 (((Int.toNat x4) * (5 : Nat)) + ((0 : Nat) + (1 : Nat)))) = (Option.some (sel x0 (((Int.toNat x4) * (5 : Nat)) + ((0 : Nat) + (1 : Nat))) (Kd.int .i64))))]) (Tree.need (all_ [(((0 : Int) ≤ x4) ∧ (x4 < (Nat.cast x0n : Int)))]) (Tree.need (all_ [((GetElem?.getElem? x0 ((Int.toNat x4) * (5 : Nat))) = (Option.some (sel x0 ((Int.toNat x4) * (5 : Nat)) Kd.str))), ((GetElem?.getElem? x0 (((Int.toNat x4) * (5 : Nat)) + (1 : Nat))) = (Option.some (sel x0 (((Int.toNat x4) * (5 : Nat)) + (1 : Nat)) (Kd.int .i64)))), ((GetElem?.getElem? x0 ((((Int.toNat x4) * (5 : Nat)) + (1 : Nat)) + (1 : Nat))) = (Option.some (sel x0 ((((Int.toNat x4) * (5 : Nat)) + (1 : Nat)) + (1 : Nat)) Kd.bool))), ((GetElem?.getElem? x0 (((((Int.toNat x4) * (5 : Nat)) + (1 : Nat)) + (1 : Nat)) + (1 : Nat))) = (Option.some (sel x0 (((((Int.toNat x4) * (5 : Nat)) + (1 : Nat)) + (1 : Nat)) + (1 : Nat)) Kd.bool))), (((GetElem?.getElem? x0 ((((((Int.toNat x4) * (5 : Nat)) + (1 : Nat)) + (1 : Nat)) + (1 : Nat)) + (1 : Nat))) = (Option.some (D.list 9 (selN x0 ((((((Int.toNat x4) * (5 : Nat)) + (1 : Nat)) + (1 : Nat)) + (1 : Nat)) + (1 : Nat))) (selL x0 ((((((Int.toNat x4) * (5 : Nat)) + (1 : Nat)) + (1 : Nat)) + (1 : Nat)) + (1 : Nat)))))) ∨ ((GetElem?.getElem? x0 ((((((Int.toNat x4) * (5 : Nat)) + (1 : Nat)) + (1 : Nat)) + (1 : Nat)) + (1 : Nat))) = (Option.some (D.list 0 (0 : Nat) []))))]) (Tree.call 47 [(D.int .i64 (selI x0 (((Int.toNat x4) * (5 : Nat)) + ((0 : Nat) + (1 : Nat)))))] (fun y189 => (Tree.need (all_ [(((ByteArray.size ((selS x0 ((Int.toNat x4) * (5 : Nat))) ++ (ByteArray.mk (List.toArray [(32 : UInt8)])))) + (ByteArray.size (selS y189 0))) ≤ (100000000 : Nat))]) (Tree.need (all_ [(((ByteArray.size (((selS x0 ((Int.toNat x4) * (5 : Nat))) ++ (ByteArray.mk (List.toArray [(32 : UInt8)]))) ++ (selS y189 0))) + (1 : Nat)) ≤ (100000000 : Nat))]) (Tree.call 48 [(D.str (selS x0 ((Int.toNat x4) * (5 : Nat)))), (D.int .i64 (selI x0 (((Int.toNat x4) * (5 : Nat)) + (1 : Nat)))), (D.bool (selB x0 ((((Int.toNat x4) * (5 : Nat)) + (1 : Nat)) + (1 : Nat)))), (D.bool (selB x0 (((((Int.toNat x4) * (5 : Nat)) + (1 : Nat)) + (1 : Nat)) + (1 : Nat)))), (D.list 9 (selN x0 ((((((Int.toNat x4) * (5 : Nat)) + (1 : Nat)) + (1 : Nat)) + (1 : Nat)) + (1 : Nat))) (selL x0 ((((((Int.toNat x4) * (5 : Nat)) + (1 : Nat)) + (1 : Nat)) + (1 : Nat)) + (1 : Nat))))] (fun y186 => (Tree.need (all_ [(((ByteArray.size ((((selS x0 ((Int.toNat x4) * (5 : Nat))) ++ (ByteArray.mk (List.toArray [(32 : UInt8)]))) ++ (selS y189 0)) ++ (ByteArray.mk (List.toArray [(32 : UInt8)])))) + (ByteArray.size (selS y186 0))) ≤ (100000000 : Nat))]) (Tree.goto 1 [(D.list 25 x0n x0), (D.int .i64 (Nat.cast x3o : Int)), (D.int .i64 (Nat.cast x3n : Int)), (D.int .i64 x4), (D.str (((((selS x0 ((Int.toNat x4) * (5 : Nat))) ++ (ByteArray.mk (List.toArray [(32 : UInt8)]))) ++ (selS y189 0)) ++ (ByteArray.mk (List.toArray [(32 : UInt8)]))) ++ (selS y186 0))), (D.int .i64 (0 : Int)), (D.list 25 x0n x0), (D.bool (selB y198 0)), (D.list 9 (0 : Nat) r0)]))))))))))))))) (Tree.need (all_ [(((x3o + x3n) * (1 : Nat)) ≤ (List.length r0)), (scal (List.take (x3n * (1 : Nat)) (List.drop (x3o * (1 : Nat)) r0)))]) (Tree.ret [(D.list 9 x3n (List.take (x3n * (1 : Nat)) (List.drop (x3o * (1 : Nat)) r0)))]))))) (Tree.need (all_ [(((x3o + x3n) * (1 : Nat)) ≤ (List.length r0)), (scal (List.take (x3n * (1 : Nat)) (List.drop (x3o * (1 : Nat)) r0)))]) (Tree.ret [(D.list 9 x3n (List.take (x3n * (1 : Nat)) (List.drop (x3o * (1 : Nat)) r0)))]))) := by kernel_rfl
set_option maxHeartbeats 4000000 in
theorem t_soli1 (x0n : Nat) (x0 : List D) (x3o x3n : Nat) (x4 : Int) (x5 : ByteArray) (x6 : Int) (x13n : Nat) (x13 : List D) (x14 : Bool) (r0 : List D) : plT' Try.prog F_soli hs_soli .own Try.f27 1 [.list 25 x0n x0, .int .i64 (x3o : Nat), .int .i64 (x3n : Nat), .int .i64 x4, .str x5, .int .i64 x6, .list 25 x13n x13, .bool x14, .list 9 0 r0] = (Tree.need (all_ [(((0 : Int) ≤ x4) ∧ (x4 < (Nat.cast x0n : Int)))]) (Tree.need (all_ [(((GetElem?.getElem? x0 (((Int.toNat x4) * (5 : Nat)) + ((0 : Nat) + (4 : Nat)))) = (Option.some (D.list 9 (selN x0 (((Int.toNat x4) * (5 : Nat)) + ((0 : Nat) + (4 : Nat)))) (selL x0 (((Int.toNat x4) * (5 : Nat)) + ((0 : Nat) + (4 : Nat))))))) ∨ ((GetElem?.getElem? x0 (((Int.toNat x4) * (5 : Nat)) + ((0 : Nat) + (4 : Nat)))) = (Option.some (D.list 0 (0 : Nat) []))))]) (Tree.ite (ltI x6 (Nat.cast (selN x0 (((Int.toNat x4) * (5 : Nat)) + ((0 : Nat) + (4 : Nat)))) : Int)) (Tree.need (all_ [(((ByteArray.size x5) + (1 : Nat)) ≤ (100000000 : Nat))]) (Tree.need (all_ [(((0 : Int) ≤ x4) ∧ (x4 < (Nat.cast x0n : Int)))]) (Tree.need (all_ [(((GetElem?.getElem? x0 (((Int.toNat x4) * (5 : Nat)) + ((0 : Nat) + (4 : Nat)))) = (Option.some (D.list 9 (selN x0 (((Int.toNat x4) * (5 : Nat)) + ((0 : Nat) + (4 : Nat)))) (selL x0 (((Int.toNat x4) * (5 : Nat)) + ((0 : Nat) + (4 : Nat))))))) ∨ ((GetElem?.getElem? x0 (((Int.toNat x4) * (5 : Nat)) + ((0 : Nat) + (4 : Nat)))) = (Option.some (D.list 0 (0 : Nat) []))))]) (Tree.need (all_ [(((0 : Int) ≤ x6) ∧ (x6 < (Nat.cast (selN x0 (((Int.toNat x4) * (5 : Nat)) + ((0 : Nat) + (4 : Nat)))) : Int)))]) (Tree.need (all_ [((GetElem?.getElem? (selL x0 (((Int.toNat x4) * (5 : Nat)) + ((0 : Nat) + (4 : Nat)))) ((Int.toNat x6) * (1 : Nat))) = (Option.some (sel (selL x0 (((Int.toNat x4) * (5 : Nat)) + ((0 : Nat) + (4 : Nat)))) ((Int.toNat x6) * (1 : Nat)) Kd.str)))]) (Tree.need (all_ [(((ByteArray.size (x5 ++ (ByteArray.mk (List.toArray [(32 : UInt8)])))) + (ByteArray.size (selS (selL x0 (((Int.toNat x4) * (5 : Nat)) + ((0 : Nat) + (4 : Nat)))) ((Int.toNat x6) * (1 : Nat))))) ≤ (100000000 : Nat))]) (Tree.need (all_ [(inK .i64 (x6 + (1 : Int)))]) (Tree.goto 1 [(D.list 25 x0n x0), (D.int .i64 (Nat.cast x3o : Int)), (D.int .i64 (Nat.cast x3n : Int)), (D.int .i64 x4), (D.str ((x5 ++ (ByteArray.mk (List.toArray [(32 : UInt8)]))) ++ (selS (selL x0 (((Int.toNat x4) * (5 : Nat)) + ((0 : Nat) + (4 : Nat)))) ((Int.toNat x6) * (1 : Nat))))), (D.int .i64 (x6 + (1 : Int))), (D.list 25 x13n x13), (D.bool x14), (D.list 9 (0 : Nat) r0)])))))))) (Tree.need (all_ [((((0 : Nat) + (1 : Nat)) * (1 : Nat)) ≤ (1 : Nat)), (((x3o + x3n) * (1 : Nat)) ≤ (List.length r0)), ((x3n + (1 : Nat)) ≤ (1048576 : Nat))]) (Tree.need (all_ [(inK .i64 (x4 + (1 : Int)))]) (Tree.goto 0 [(D.list 25 x0n x0), (D.int .i64 (Nat.cast (0 : Nat) : Int)), (D.int .i64 (Nat.cast (x3n + (1 : Nat)) : Int)), (D.int .i64 (x4 + (1 : Int))), (D.list 9 (0 : Nat) ((List.take (x3n * (1 : Nat)) (List.drop (x3o * (1 : Nat)) r0)) ++ [(D.str x5)]))])))))) := by kernel_rfl
noncomputable def F_srof : Tb := tab [(54, s_swords), (55, s_sread), (48, s_sway), (13, s_smed)]
theorem F_srof_swords : F_srof 54 = some s_swords := rfl
theorem F_srof_sread : F_srof 55 = some s_sread := rfl
theorem F_srof_sway : F_srof 48 = some s_sway := rfl
theorem F_srof_smed : F_srof 13 = some s_smed := rfl
noncomputable def hs_srof : Hds := [([false, true, false, true, true], shapeW Try.f35 0 [(0, .one (.kd (.list 9))), (4, .one (.sl 25 0)), (5, .one (.kd (.int .i64)))] [.sym 25])]
set_option maxHeartbeats 4000000 in
theorem t_srof (a0n : Nat) (a0 : List D) : fnT' Try.prog F_srof hs_srof .fz Try.f35 [.list 9 a0n a0] = (Tree.goto 0 [(D.list 9 a0n a0), (D.int .i64 (Nat.cast (0 : Nat) : Int)), (D.int .i64 (Nat.cast (0 : Nat) : Int)), (D.int .i64 (0 : Int)), (D.list 25 (0 : Nat) [])]) := by kernel_rfl
set_option maxHeartbeats 4000000 in
theorem t_srof0 (x0n : Nat) (x0 : List D) (x4o x4n : Nat) (x5 : Int) (r0 : List D) : plT' Try.prog F_srof hs_srof .fz Try.f35 0 [.list 9 x0n x0, .int .i64 (x4o : Nat), .int .i64 (x4n : Nat), .int .i64 x5, .list 25 0 r0] = (Tree.ite (ltI x5 (Nat.cast x0n : Int)) (Tree.need (all_ [(((0 : Int) ≤ x5) ∧ (x5 < (Nat.cast x0n : Int)))]) (Tree.need (all_ [((GetElem?.getElem? x0 ((Int.toNat x5) * (1 : Nat))) = (Option.some (sel x0 ((Int.toNat x5) * (1 : Nat)) Kd.str)))]) (Tree.call 54 [(D.str (selS x0 ((Int.toNat x5) * (1 : Nat))))] (fun y196 => (Tree.ite (ltI (Nat.cast (selN y196 0) : Int) (4 : Int)) (Tree.need (all_ [(((0 : Nat) * (5 : Nat)) ≤ (0 : Nat))]) (Tree.ret [(D.list 25 (0 : Nat) []), (D.bool false)])) (Tree.ite ((Nat.cast x4n : Int) == (4 : Int)) (Tree.need (all_ [(((0 : Nat) * (5 : Nat)) ≤ (0 : Nat))]) (Tree.ret [(D.list 25 (0 : Nat) []), (D.bool false)])) (Tree.need (all_ [(((0 : Int) ≤ (0 : Int)) ∧ ((0 : Int) < (Nat.cast (selN y196 0) : Int)))]) (Tree.need (all_ [((GetElem?.getElem? (selL y196 0) ((0 : Nat) * (1 : Nat))) = (Option.some (sel (selL y196 0) ((0 : Nat) * (1 : Nat)) Kd.str)))]) (Tree.need (all_ [(((0 : Int) ≤ (1 : Int)) ∧ ((1 : Int) < (Nat.cast (selN y196 0) : Int)))]) (Tree.need (all_ [((GetElem?.getElem? (selL y196 0) (((0 : Nat) + (1 : Nat)) * (1 : Nat))) = (Option.some (sel (selL y196 0) (((0 : Nat) + (1 : Nat)) * (1 : Nat)) Kd.str)))]) (Tree.need (all_ [(((0 : Int) ≤ (2 : Int)) ∧ ((2 : Int) < (Nat.cast (selN y196 0) : Int)))]) (Tree.need (all_ [((GetElem?.getElem? (selL y196 0) (((0 : Nat) + (2 : Nat)) * (1 : Nat))) = (Option.some (sel (selL y196 0) (((0 : Nat) + (2 : Nat)) * (1 : Nat)) Kd.str)))]) (Tree.need (all_ [(((0 : Int) ≤ (2 : Int)) ∧ ((2 : Int) < (Nat.cast (selN y196 0) : Int)))]) (Tree.need (all_ [((GetElem?.getElem? (selL y196 0) (((0 : Nat) + (2 : Nat)) * (1 : Nat))) = (Option.some (sel (selL y196 0) (((0 : Nat) + (2 : Nat)) * (1 : Nat)) Kd.str)))]) (Tree.need (all_ [(((0 : Int) ≤ (Option.getD (Option.some (3 : Int)) (0 : Int))) ∧ (((Option.getD (Option.some (3 : Int)) (0 : Int)) ≤ (Option.getD (Option.none) (Nat.cast (selN y196 0) : Int))) ∧ ((Option.getD (Option.none) (Nat.cast (selN y196 0) : Int)) ≤ (Nat.cast (selN y196 0) : Int))))]) (Tree.call 55 [(D.str (selS (selL y196 0) 1))] (fun y184 => (Tree.ite ((ByteArray.toList (selS (selL y196 0) 2)) == (ByteArray.toList (ByteArray.mk (List.toArray [(98 : UInt8), (111 : UInt8), (116 : UInt8), (104 : UInt8)])))) (Tree.ite ((ByteArray.toList (selS (selL y196 0) 2)) == (ByteArray.toList (ByteArray.mk (List.toArray [(98 : UInt8), (111 : UInt8), (116 : UInt8), (104 : UInt8)])))) (Tree.need (all_ [(((((0 : Nat) + (Int.toNat (Option.getD (Option.some (3 : Int)) (0 : Int)))) + (Int.toNat ((Option.getD (Option.none) (Nat.cast (selN y196 0) : Int)) - (Option.getD (Option.some (3 : Int)) (0 : Int))))) * (1 : Nat)) ≤ (List.length (selL y196 0))), (((0 : Nat) * (1 : Nat)) ≤ (0 : Nat)), (((0 : Nat) + (Int.toNat ((Option.getD (Option.none) (Nat.cast (selN y196 0) : Int)) - (Option.getD (Option.some (3 : Int)) (0 : Int))))) ≤ (1048576 : Nat))]) (Tree.need (all_ [(((0 : Int) ≤ (2 : Int)) ∧ ((2 : Int) < (Nat.cast (selN y196 0) : Int)))]) (Tree.need (all_ [((GetElem?.getElem? (selL y196 0) (((0 : Nat) + (2 : Nat)) * (1 : Nat))) = (Option.some (sel (selL y196 0) (((0 : Nat) + (2 : Nat)) * (1 : Nat)) Kd.str)))]) (Tree.need (all_ [((((0 : Nat) + ((0 : Nat) + (Int.toNat ((Option.getD (Option.none) (Nat.cast (selN y196 0) : Int)) - (Option.getD (Option.some (3 : Int)) (0 : Int)))))) * (1 : Nat)) ≤ (List.length ((List.take ((0 : Nat) * (1 : Nat)) (List.drop ((0 : Nat) * (1 : Nat)) [])) ++ (List.take ((Int.toNat ((Option.getD (Option.none) (Nat.cast (selN y196 0) : Int)) - (Option.getD (Option.some (3 : Int)) (0 : Int)))) * (1 : Nat)) (List.drop (((0 : Nat) + (Int.toNat (Option.getD (Option.some (3 : Int)) (0 : Int)))) * (1 : Nat)) (selL y196 0))))))]) (Tree.call 48 [(D.str (selS (selL y196 0) 0)), (D.int .i64 (selI y184 0)), (D.bool true), (D.bool true), (D.list 9 ((0 : Nat) + (Int.toNat ((Option.getD (Option.none) (Nat.cast (selN y196 0) : Int)) - (Option.getD (Option.some (3 : Int)) (0 : Int))))) (List.take (((0 : Nat) + (Int.toNat ((Option.getD (Option.none) (Nat.cast (selN y196 0) : Int)) - (Option.getD (Option.some (3 : Int)) (0 : Int))))) * (1 : Nat)) (List.drop ((0 : Nat) * (1 : Nat)) ((List.take ((0 : Nat) * (1 : Nat)) (List.drop ((0 : Nat) * (1 : Nat)) [])) ++ (List.take ((Int.toNat ((Option.getD (Option.none) (Nat.cast (selN y196 0) : Int)) - (Option.getD (Option.some (3 : Int)) (0 : Int)))) * (1 : Nat)) (List.drop (((0 : Nat) + (Int.toNat (Option.getD (Option.some (3 : Int)) (0 : Int)))) * (1 : Nat)) (selL y196 0)))))))] (fun y177 => (Tree.ite (Bool.not ((ByteArray.toList (selS y177 0)) == (ByteArray.toList (selS (selL y196 0) 2)))) (Tree.need (all_ [(((0 : Nat) * (5 : Nat)) ≤ (0 : Nat))]) (Tree.ret [(D.list 25 (0 : Nat) []), (D.bool false)])) (Tree.need (all_ [((((0 : Nat) + ((0 : Nat) + (Int.toNat ((Option.getD (Option.none) (Nat.cast (selN y196 0) : Int)) - (Option.getD (Option.some (3 : Int)) (0 : Int)))))) * (1 : Nat)) ≤ (List.length ((List.take ((0 : Nat) * (1 : Nat)) (List.drop ((0 : Nat) * (1 : Nat)) [])) ++ (List.take ((Int.toNat ((Option.getD (Option.none) (Nat.cast (selN y196 0) : Int)) - (Option.getD (Option.some (3 : Int)) (0 : Int)))) * (1 : Nat)) (List.drop (((0 : Nat) + (Int.toNat (Option.getD (Option.some (3 : Int)) (0 : Int)))) * (1 : Nat)) (selL y196 0))))))]) (Tree.call 13 [(D.str (selS (selL y196 0) 0)), (D.int .i64 (selI y184 0)), (D.bool true), (D.bool true), (D.list 9 ((0 : Nat) + (Int.toNat ((Option.getD (Option.none) (Nat.cast (selN y196 0) : Int)) - (Option.getD (Option.some (3 : Int)) (0 : Int))))) (List.take (((0 : Nat) + (Int.toNat ((Option.getD (Option.none) (Nat.cast (selN y196 0) : Int)) - (Option.getD (Option.some (3 : Int)) (0 : Int))))) * (1 : Nat)) (List.drop ((0 : Nat) * (1 : Nat)) ((List.take ((0 : Nat) * (1 : Nat)) (List.drop ((0 : Nat) * (1 : Nat)) [])) ++ (List.take ((Int.toNat ((Option.getD (Option.none) (Nat.cast (selN y196 0) : Int)) - (Option.getD (Option.some (3 : Int)) (0 : Int)))) * (1 : Nat)) (List.drop (((0 : Nat) + (Int.toNat (Option.getD (Option.some (3 : Int)) (0 : Int)))) * (1 : Nat)) (selL y196 0)))))))] (fun y174 => (Tree.ite (Bool.not (selB y174 0)) (Tree.need (all_ [(((0 : Nat) * (5 : Nat)) ≤ (0 : Nat))]) (Tree.ret [(D.list 25 (0 : Nat) []), (D.bool false)])) (Tree.need (all_ [((((0 : Nat) + (1 : Nat)) * (5 : Nat)) ≤ (5 : Nat)), ((((0 : Nat) + ((0 : Nat) + (Int.toNat ((Option.getD (Option.none) (Nat.cast (selN y196 0) : Int)) - (Option.getD (Option.some (3 : Int)) (0 : Int)))))) * (1 : Nat)) ≤ (List.length ((List.take ((0 : Nat) * (1 : Nat)) (List.drop ((0 : Nat) * (1 : Nat)) [])) ++ (List.take ((Int.toNat ((Option.getD (Option.none) (Nat.cast (selN y196 0) : Int)) - (Option.getD (Option.some (3 : Int)) (0 : Int)))) * (1 : Nat)) (List.drop (((0 : Nat) + (Int.toNat (Option.getD (Option.some (3 : Int)) (0 : Int)))) * (1 : Nat)) (selL y196 0)))))), (((x4o + x4n) * (5 : Nat)) ≤ (List.length r0)), ((x4n + (1 : Nat)) ≤ (1048576 : Nat))]) (Tree.need (all_ [(inK .i64 (x5 + (1 : Int)))]) (Tree.goto 0 [(D.list 9 x0n x0), (D.int .i64 (Nat.cast (0 : Nat) : Int)), (D.int .i64 (Nat.cast (x4n + (1 : Nat)) : Int)), (D.int .i64 (x5 + (1 : Int))), (D.list 25 (0 : Nat) ((List.take (x4n * (5 : Nat)) (List.drop (x4o * (5 : Nat)) r0)) ++ [(sel (selL y196 0) ((0 : Nat) * (1 : Nat)) Kd.str), (sel y184 (0 : Nat) (Kd.int .i64)), (D.bool true), (D.bool true), (D.list 9 ((0 : Nat) + (Int.toNat ((Option.getD (Option.none) (Nat.cast (selN y196 0) : Int)) - (Option.getD (Option.some (3 : Int)) (0 : Int))))) (List.take (((0 : Nat) + (Int.toNat ((Option.getD (Option.none) (Nat.cast (selN y196 0) : Int)) - (Option.getD (Option.some (3 : Int)) (0 : Int))))) * (1 : Nat)) (List.drop ((0 : Nat) * (1 : Nat)) ((List.take ((0 : Nat) * (1 : Nat)) (List.drop ((0 : Nat) * (1 : Nat)) [])) ++ (List.take ((Int.toNat ((Option.getD (Option.none) (Nat.cast (selN y196 0) : Int)) - (Option.getD (Option.some (3 : Int)) (0 : Int)))) * (1 : Nat)) (List.drop (((0 : Nat) + (Int.toNat (Option.getD (Option.some (3 : Int)) (0 : Int)))) * (1 : Nat)) (selL y196 0)))))))]))])))))))))))))) (Tree.need (all_ [(((0 : Int) ≤ (2 : Int)) ∧ ((2 : Int) < (Nat.cast (selN y196 0) : Int)))]) (Tree.need (all_ [((GetElem?.getElem? (selL y196 0) (((0 : Nat) + (2 : Nat)) * (1 : Nat))) = (Option.some (sel (selL y196 0) (((0 : Nat) + (2 : Nat)) * (1 : Nat)) Kd.str)))]) (Tree.need (all_ [(((((0 : Nat) + (Int.toNat (Option.getD (Option.some (3 : Int)) (0 : Int)))) + (Int.toNat ((Option.getD (Option.none) (Nat.cast (selN y196 0) : Int)) - (Option.getD (Option.some (3 : Int)) (0 : Int))))) * (1 : Nat)) ≤ (List.length (selL y196 0))), (((0 : Nat) * (1 : Nat)) ≤ (0 : Nat)), (((0 : Nat) + (Int.toNat ((Option.getD (Option.none) (Nat.cast (selN y196 0) : Int)) - (Option.getD (Option.some (3 : Int)) (0 : Int))))) ≤ (1048576 : Nat))]) (Tree.need (all_ [(((0 : Int) ≤ (2 : Int)) ∧ ((2 : Int) < (Nat.cast (selN y196 0) : Int)))]) (Tree.need (all_ [((GetElem?.getElem? (selL y196 0) (((0 : Nat) + (2 : Nat)) * (1 : Nat))) = (Option.some (sel (selL y196 0) (((0 : Nat) + (2 : Nat)) * (1 : Nat)) Kd.str)))]) (Tree.need (all_ [((((0 : Nat) + ((0 : Nat) + (Int.toNat ((Option.getD (Option.none) (Nat.cast (selN y196 0) : Int)) - (Option.getD (Option.some (3 : Int)) (0 : Int)))))) * (1 : Nat)) ≤ (List.length ((List.take ((0 : Nat) * (1 : Nat)) (List.drop ((0 : Nat) * (1 : Nat)) [])) ++ (List.take ((Int.toNat ((Option.getD (Option.none) (Nat.cast (selN y196 0) : Int)) - (Option.getD (Option.some (3 : Int)) (0 : Int)))) * (1 : Nat)) (List.drop (((0 : Nat) + (Int.toNat (Option.getD (Option.some (3 : Int)) (0 : Int)))) * (1 : Nat)) (selL y196 0))))))]) (Tree.call 48 [(D.str (selS (selL y196 0) 0)), (D.int .i64 (selI y184 0)), (D.bool true), (D.bool ((ByteArray.toList (selS (selL y196 0) 2)) == (ByteArray.toList (ByteArray.mk (List.toArray [(104 : UInt8), (101 : UInt8), (97 : UInt8), (114 : UInt8)]))))), (D.list 9 ((0 : Nat) + (Int.toNat ((Option.getD (Option.none) (Nat.cast (selN y196 0) : Int)) - (Option.getD (Option.some (3 : Int)) (0 : Int))))) (List.take (((0 : Nat) + (Int.toNat ((Option.getD (Option.none) (Nat.cast (selN y196 0) : Int)) - (Option.getD (Option.some (3 : Int)) (0 : Int))))) * (1 : Nat)) (List.drop ((0 : Nat) * (1 : Nat)) ((List.take ((0 : Nat) * (1 : Nat)) (List.drop ((0 : Nat) * (1 : Nat)) [])) ++ (List.take ((Int.toNat ((Option.getD (Option.none) (Nat.cast (selN y196 0) : Int)) - (Option.getD (Option.some (3 : Int)) (0 : Int)))) * (1 : Nat)) (List.drop (((0 : Nat) + (Int.toNat (Option.getD (Option.some (3 : Int)) (0 : Int)))) * (1 : Nat)) (selL y196 0)))))))] (fun y175 => (Tree.ite (Bool.not ((ByteArray.toList (selS y175 0)) == (ByteArray.toList (selS (selL y196 0) 2)))) (Tree.need (all_ [(((0 : Nat) * (5 : Nat)) ≤ (0 : Nat))]) (Tree.ret [(D.list 25 (0 : Nat) []), (D.bool false)])) (Tree.need (all_ [((((0 : Nat) + ((0 : Nat) + (Int.toNat ((Option.getD (Option.none) (Nat.cast (selN y196 0) : Int)) - (Option.getD (Option.some (3 : Int)) (0 : Int)))))) * (1 : Nat)) ≤ (List.length ((List.take ((0 : Nat) * (1 : Nat)) (List.drop ((0 : Nat) * (1 : Nat)) [])) ++ (List.take ((Int.toNat ((Option.getD (Option.none) (Nat.cast (selN y196 0) : Int)) - (Option.getD (Option.some (3 : Int)) (0 : Int)))) * (1 : Nat)) (List.drop (((0 : Nat) + (Int.toNat (Option.getD (Option.some (3 : Int)) (0 : Int)))) * (1 : Nat)) (selL y196 0))))))]) (Tree.call 13 [(D.str (selS (selL y196 0) 0)), (D.int .i64 (selI y184 0)), (D.bool true), (D.bool ((ByteArray.toList (selS (selL y196 0) 2)) == (ByteArray.toList (ByteArray.mk (List.toArray [(104 : UInt8), (101 : UInt8), (97 : UInt8), (114 : UInt8)]))))), (D.list 9 ((0 : Nat) + (Int.toNat ((Option.getD (Option.none) (Nat.cast (selN y196 0) : Int)) - (Option.getD (Option.some (3 : Int)) (0 : Int))))) (List.take (((0 : Nat) + (Int.toNat ((Option.getD (Option.none) (Nat.cast (selN y196 0) : Int)) - (Option.getD (Option.some (3 : Int)) (0 : Int))))) * (1 : Nat)) (List.drop ((0 : Nat) * (1 : Nat)) ((List.take ((0 : Nat) * (1 : Nat)) (List.drop ((0 : Nat) * (1 : Nat)) [])) ++ (List.take ((Int.toNat ((Option.getD (Option.none) (Nat.cast (selN y196 0) : Int)) - (Option.getD (Option.some (3 : Int)) (0 : Int)))) * (1 : Nat)) (List.drop (((0 : Nat) + (Int.toNat (Option.getD (Option.some (3 : Int)) (0 : Int)))) * (1 : Nat)) (selL y196 0)))))))] (fun y172 => (Tree.ite (Bool.not (selB y172 0)) (Tree.need (all_ [(((0 : Nat) * (5 : Nat)) ≤ (0 : Nat))]) (Tree.ret [(D.list 25 (0 : Nat) []), (D.bool false)])) (Tree.need (all_ [((((0 : Nat) + (1 : Nat)) * (5 : Nat)) ≤ (5 : Nat)), ((((0 : Nat) + ((0 : Nat) + (Int.toNat ((Option.getD (Option.none) (Nat.cast (selN y196 0) : Int)) - (Option.getD (Option.some (3 : Int)) (0 : Int)))))) * (1 : Nat)) ≤ (List.length ((List.take ((0 : Nat) * (1 : Nat)) (List.drop ((0 : Nat) * (1 : Nat)) [])) ++ (List.take ((Int.toNat ((Option.getD (Option.none) (Nat.cast (selN y196 0) : Int)) - (Option.getD (Option.some (3 : Int)) (0 : Int)))) * (1 : Nat)) (List.drop (((0 : Nat) + (Int.toNat (Option.getD (Option.some (3 : Int)) (0 : Int)))) * (1 : Nat)) (selL y196 0)))))), (((x4o + x4n) * (5 : Nat)) ≤ (List.length r0)), ((x4n + (1 : Nat)) ≤ (1048576 : Nat))]) (Tree.need (all_ [(inK .i64 (x5 + (1 : Int)))]) (Tree.goto 0 [(D.list 9 x0n x0), (D.int .i64 (Nat.cast (0 : Nat) : Int)), (D.int .i64 (Nat.cast (x4n + (1 : Nat)) : Int)), (D.int .i64 (x5 + (1 : Int))), (D.list 25 (0 : Nat) ((List.take (x4n * (5 : Nat)) (List.drop (x4o * (5 : Nat)) r0)) ++ [(sel (selL y196 0) ((0 : Nat) * (1 : Nat)) Kd.str), (sel y184 (0 : Nat) (Kd.int .i64)), (D.bool true), (D.bool ((ByteArray.toList (selS (selL y196 0) 2)) == (ByteArray.toList (ByteArray.mk (List.toArray [(104 : UInt8), (101 : UInt8), (97 : UInt8), (114 : UInt8)]))))), (D.list 9 ((0 : Nat) + (Int.toNat ((Option.getD (Option.none) (Nat.cast (selN y196 0) : Int)) - (Option.getD (Option.some (3 : Int)) (0 : Int))))) (List.take (((0 : Nat) + (Int.toNat ((Option.getD (Option.none) (Nat.cast (selN y196 0) : Int)) - (Option.getD (Option.some (3 : Int)) (0 : Int))))) * (1 : Nat)) (List.drop ((0 : Nat) * (1 : Nat)) ((List.take ((0 : Nat) * (1 : Nat)) (List.drop ((0 : Nat) * (1 : Nat)) [])) ++ (List.take ((Int.toNat ((Option.getD (Option.none) (Nat.cast (selN y196 0) : Int)) - (Option.getD (Option.some (3 : Int)) (0 : Int)))) * (1 : Nat)) (List.drop (((0 : Nat) + (Int.toNat (Option.getD (Option.some (3 : Int)) (0 : Int)))) * (1 : Nat)) (selL y196 0)))))))]))]))))))))))))))))) (Tree.need (all_ [(((0 : Int) ≤ (2 : Int)) ∧ ((2 : Int) < (Nat.cast (selN y196 0) : Int)))]) (Tree.need (all_ [((GetElem?.getElem? (selL y196 0) (((0 : Nat) + (2 : Nat)) * (1 : Nat))) = (Option.some (sel (selL y196 0) (((0 : Nat) + (2 : Nat)) * (1 : Nat)) Kd.str)))]) (Tree.ite ((ByteArray.toList (selS (selL y196 0) 2)) == (ByteArray.toList (ByteArray.mk (List.toArray [(98 : UInt8), (111 : UInt8), (116 : UInt8), (104 : UInt8)])))) (Tree.need (all_ [(((((0 : Nat) + (Int.toNat (Option.getD (Option.some (3 : Int)) (0 : Int)))) + (Int.toNat ((Option.getD (Option.none) (Nat.cast (selN y196 0) : Int)) - (Option.getD (Option.some (3 : Int)) (0 : Int))))) * (1 : Nat)) ≤ (List.length (selL y196 0))), (((0 : Nat) * (1 : Nat)) ≤ (0 : Nat)), (((0 : Nat) + (Int.toNat ((Option.getD (Option.none) (Nat.cast (selN y196 0) : Int)) - (Option.getD (Option.some (3 : Int)) (0 : Int))))) ≤ (1048576 : Nat))]) (Tree.need (all_ [(((0 : Int) ≤ (2 : Int)) ∧ ((2 : Int) < (Nat.cast (selN y196 0) : Int)))]) (Tree.need (all_ [((GetElem?.getElem? (selL y196 0) (((0 : Nat) + (2 : Nat)) * (1 : Nat))) = (Option.some (sel (selL y196 0) (((0 : Nat) + (2 : Nat)) * (1 : Nat)) Kd.str)))]) (Tree.need (all_ [((((0 : Nat) + ((0 : Nat) + (Int.toNat ((Option.getD (Option.none) (Nat.cast (selN y196 0) : Int)) - (Option.getD (Option.some (3 : Int)) (0 : Int)))))) * (1 : Nat)) ≤ (List.length ((List.take ((0 : Nat) * (1 : Nat)) (List.drop ((0 : Nat) * (1 : Nat)) [])) ++ (List.take ((Int.toNat ((Option.getD (Option.none) (Nat.cast (selN y196 0) : Int)) - (Option.getD (Option.some (3 : Int)) (0 : Int)))) * (1 : Nat)) (List.drop (((0 : Nat) + (Int.toNat (Option.getD (Option.some (3 : Int)) (0 : Int)))) * (1 : Nat)) (selL y196 0))))))]) (Tree.call 48 [(D.str (selS (selL y196 0) 0)), (D.int .i64 (selI y184 0)), (D.bool ((ByteArray.toList (selS (selL y196 0) 2)) == (ByteArray.toList (ByteArray.mk (List.toArray [(115 : UInt8), (101 : UInt8), (110 : UInt8), (100 : UInt8)]))))), (D.bool true), (D.list 9 ((0 : Nat) + (Int.toNat ((Option.getD (Option.none) (Nat.cast (selN y196 0) : Int)) - (Option.getD (Option.some (3 : Int)) (0 : Int))))) (List.take (((0 : Nat) + (Int.toNat ((Option.getD (Option.none) (Nat.cast (selN y196 0) : Int)) - (Option.getD (Option.some (3 : Int)) (0 : Int))))) * (1 : Nat)) (List.drop ((0 : Nat) * (1 : Nat)) ((List.take ((0 : Nat) * (1 : Nat)) (List.drop ((0 : Nat) * (1 : Nat)) [])) ++ (List.take ((Int.toNat ((Option.getD (Option.none) (Nat.cast (selN y196 0) : Int)) - (Option.getD (Option.some (3 : Int)) (0 : Int)))) * (1 : Nat)) (List.drop (((0 : Nat) + (Int.toNat (Option.getD (Option.some (3 : Int)) (0 : Int)))) * (1 : Nat)) (selL y196 0)))))))] (fun y175 => (Tree.ite (Bool.not ((ByteArray.toList (selS y175 0)) == (ByteArray.toList (selS (selL y196 0) 2)))) (Tree.need (all_ [(((0 : Nat) * (5 : Nat)) ≤ (0 : Nat))]) (Tree.ret [(D.list 25 (0 : Nat) []), (D.bool false)])) (Tree.need (all_ [((((0 : Nat) + ((0 : Nat) + (Int.toNat ((Option.getD (Option.none) (Nat.cast (selN y196 0) : Int)) - (Option.getD (Option.some (3 : Int)) (0 : Int)))))) * (1 : Nat)) ≤ (List.length ((List.take ((0 : Nat) * (1 : Nat)) (List.drop ((0 : Nat) * (1 : Nat)) [])) ++ (List.take ((Int.toNat ((Option.getD (Option.none) (Nat.cast (selN y196 0) : Int)) - (Option.getD (Option.some (3 : Int)) (0 : Int)))) * (1 : Nat)) (List.drop (((0 : Nat) + (Int.toNat (Option.getD (Option.some (3 : Int)) (0 : Int)))) * (1 : Nat)) (selL y196 0))))))]) (Tree.call 13 [(D.str (selS (selL y196 0) 0)), (D.int .i64 (selI y184 0)), (D.bool ((ByteArray.toList (selS (selL y196 0) 2)) == (ByteArray.toList (ByteArray.mk (List.toArray [(115 : UInt8), (101 : UInt8), (110 : UInt8), (100 : UInt8)]))))), (D.bool true), (D.list 9 ((0 : Nat) + (Int.toNat ((Option.getD (Option.none) (Nat.cast (selN y196 0) : Int)) - (Option.getD (Option.some (3 : Int)) (0 : Int))))) (List.take (((0 : Nat) + (Int.toNat ((Option.getD (Option.none) (Nat.cast (selN y196 0) : Int)) - (Option.getD (Option.some (3 : Int)) (0 : Int))))) * (1 : Nat)) (List.drop ((0 : Nat) * (1 : Nat)) ((List.take ((0 : Nat) * (1 : Nat)) (List.drop ((0 : Nat) * (1 : Nat)) [])) ++ (List.take ((Int.toNat ((Option.getD (Option.none) (Nat.cast (selN y196 0) : Int)) - (Option.getD (Option.some (3 : Int)) (0 : Int)))) * (1 : Nat)) (List.drop (((0 : Nat) + (Int.toNat (Option.getD (Option.some (3 : Int)) (0 : Int)))) * (1 : Nat)) (selL y196 0)))))))] (fun y172 => (Tree.ite (Bool.not (selB y172 0)) (Tree.need (all_ [(((0 : Nat) * (5 : Nat)) ≤ (0 : Nat))]) (Tree.ret [(D.list 25 (0 : Nat) []), (D.bool false)])) (Tree.need (all_ [((((0 : Nat) + (1 : Nat)) * (5 : Nat)) ≤ (5 : Nat)), ((((0 : Nat) + ((0 : Nat) + (Int.toNat ((Option.getD (Option.none) (Nat.cast (selN y196 0) : Int)) - (Option.getD (Option.some (3 : Int)) (0 : Int)))))) * (1 : Nat)) ≤ (List.length ((List.take ((0 : Nat) * (1 : Nat)) (List.drop ((0 : Nat) * (1 : Nat)) [])) ++ (List.take ((Int.toNat ((Option.getD (Option.none) (Nat.cast (selN y196 0) : Int)) - (Option.getD (Option.some (3 : Int)) (0 : Int)))) * (1 : Nat)) (List.drop (((0 : Nat) + (Int.toNat (Option.getD (Option.some (3 : Int)) (0 : Int)))) * (1 : Nat)) (selL y196 0)))))), (((x4o + x4n) * (5 : Nat)) ≤ (List.length r0)), ((x4n + (1 : Nat)) ≤ (1048576 : Nat))]) (Tree.need (all_ [(inK .i64 (x5 + (1 : Int)))]) (Tree.goto 0 [(D.list 9 x0n x0), (D.int .i64 (Nat.cast (0 : Nat) : Int)), (D.int .i64 (Nat.cast (x4n + (1 : Nat)) : Int)), (D.int .i64 (x5 + (1 : Int))), (D.list 25 (0 : Nat) ((List.take (x4n * (5 : Nat)) (List.drop (x4o * (5 : Nat)) r0)) ++ [(sel (selL y196 0) ((0 : Nat) * (1 : Nat)) Kd.str), (sel y184 (0 : Nat) (Kd.int .i64)), (D.bool ((ByteArray.toList (selS (selL y196 0) 2)) == (ByteArray.toList (ByteArray.mk (List.toArray [(115 : UInt8), (101 : UInt8), (110 : UInt8), (100 : UInt8)]))))), (D.bool true), (D.list 9 ((0 : Nat) + (Int.toNat ((Option.getD (Option.none) (Nat.cast (selN y196 0) : Int)) - (Option.getD (Option.some (3 : Int)) (0 : Int))))) (List.take (((0 : Nat) + (Int.toNat ((Option.getD (Option.none) (Nat.cast (selN y196 0) : Int)) - (Option.getD (Option.some (3 : Int)) (0 : Int))))) * (1 : Nat)) (List.drop ((0 : Nat) * (1 : Nat)) ((List.take ((0 : Nat) * (1 : Nat)) (List.drop ((0 : Nat) * (1 : Nat)) [])) ++ (List.take ((Int.toNat ((Option.getD (Option.none) (Nat.cast (selN y196 0) : Int)) - (Option.getD (Option.some (3 : Int)) (0 : Int)))) * (1 : Nat)) (List.drop (((0 : Nat) + (Int.toNat (Option.getD (Option.some (3 : Int)) (0 : Int)))) * (1 : Nat)) (selL y196 0)))))))]))])))))))))))))) (Tree.need (all_ [(((0 : Int) ≤ (2 : Int)) ∧ ((2 : Int) < (Nat.cast (selN y196 0) : Int)))]) (Tree.need (all_ [((GetElem?.getElem? (selL y196 0) (((0 : Nat) + (2 : Nat)) * (1 : Nat))) = (Option.some (sel (selL y196 0) (((0 : Nat) + (2 : Nat)) * (1 : Nat)) Kd.str)))]) (Tree.need (all_ [(((((0 : Nat) + (Int.toNat (Option.getD (Option.some (3 : Int)) (0 : Int)))) + (Int.toNat ((Option.getD (Option.none) (Nat.cast (selN y196 0) : Int)) - (Option.getD (Option.some (3 : Int)) (0 : Int))))) * (1 : Nat)) ≤ (List.length (selL y196 0))), (((0 : Nat) * (1 : Nat)) ≤ (0 : Nat)), (((0 : Nat) + (Int.toNat ((Option.getD (Option.none) (Nat.cast (selN y196 0) : Int)) - (Option.getD (Option.some (3 : Int)) (0 : Int))))) ≤ (1048576 : Nat))]) (Tree.need (all_ [(((0 : Int) ≤ (2 : Int)) ∧ ((2 : Int) < (Nat.cast (selN y196 0) : Int)))]) (Tree.need (all_ [((GetElem?.getElem? (selL y196 0) (((0 : Nat) + (2 : Nat)) * (1 : Nat))) = (Option.some (sel (selL y196 0) (((0 : Nat) + (2 : Nat)) * (1 : Nat)) Kd.str)))]) (Tree.need (all_ [((((0 : Nat) + ((0 : Nat) + (Int.toNat ((Option.getD (Option.none) (Nat.cast (selN y196 0) : Int)) - (Option.getD (Option.some (3 : Int)) (0 : Int)))))) * (1 : Nat)) ≤ (List.length ((List.take ((0 : Nat) * (1 : Nat)) (List.drop ((0 : Nat) * (1 : Nat)) [])) ++ (List.take ((Int.toNat ((Option.getD (Option.none) (Nat.cast (selN y196 0) : Int)) - (Option.getD (Option.some (3 : Int)) (0 : Int)))) * (1 : Nat)) (List.drop (((0 : Nat) + (Int.toNat (Option.getD (Option.some (3 : Int)) (0 : Int)))) * (1 : Nat)) (selL y196 0))))))]) (Tree.call 48 [(D.str (selS (selL y196 0) 0)), (D.int .i64 (selI y184 0)), (D.bool ((ByteArray.toList (selS (selL y196 0) 2)) == (ByteArray.toList (ByteArray.mk (List.toArray [(115 : UInt8), (101 : UInt8), (110 : UInt8), (100 : UInt8)]))))), (D.bool ((ByteArray.toList (selS (selL y196 0) 2)) == (ByteArray.toList (ByteArray.mk (List.toArray [(104 : UInt8), (101 : UInt8), (97 : UInt8), (114 : UInt8)]))))), (D.list 9 ((0 : Nat) + (Int.toNat ((Option.getD (Option.none) (Nat.cast (selN y196 0) : Int)) - (Option.getD (Option.some (3 : Int)) (0 : Int))))) (List.take (((0 : Nat) + (Int.toNat ((Option.getD (Option.none) (Nat.cast (selN y196 0) : Int)) - (Option.getD (Option.some (3 : Int)) (0 : Int))))) * (1 : Nat)) (List.drop ((0 : Nat) * (1 : Nat)) ((List.take ((0 : Nat) * (1 : Nat)) (List.drop ((0 : Nat) * (1 : Nat)) [])) ++ (List.take ((Int.toNat ((Option.getD (Option.none) (Nat.cast (selN y196 0) : Int)) - (Option.getD (Option.some (3 : Int)) (0 : Int)))) * (1 : Nat)) (List.drop (((0 : Nat) + (Int.toNat (Option.getD (Option.some (3 : Int)) (0 : Int)))) * (1 : Nat)) (selL y196 0)))))))] (fun y173 => (Tree.ite (Bool.not ((ByteArray.toList (selS y173 0)) == (ByteArray.toList (selS (selL y196 0) 2)))) (Tree.need (all_ [(((0 : Nat) * (5 : Nat)) ≤ (0 : Nat))]) (Tree.ret [(D.list 25 (0 : Nat) []), (D.bool false)])) (Tree.need (all_ [((((0 : Nat) + ((0 : Nat) + (Int.toNat ((Option.getD (Option.none) (Nat.cast (selN y196 0) : Int)) - (Option.getD (Option.some (3 : Int)) (0 : Int)))))) * (1 : Nat)) ≤ (List.length ((List.take ((0 : Nat) * (1 : Nat)) (List.drop ((0 : Nat) * (1 : Nat)) [])) ++ (List.take ((Int.toNat ((Option.getD (Option.none) (Nat.cast (selN y196 0) : Int)) - (Option.getD (Option.some (3 : Int)) (0 : Int)))) * (1 : Nat)) (List.drop (((0 : Nat) + (Int.toNat (Option.getD (Option.some (3 : Int)) (0 : Int)))) * (1 : Nat)) (selL y196 0))))))]) (Tree.call 13 [(D.str (selS (selL y196 0) 0)), (D.int .i64 (selI y184 0)), (D.bool ((ByteArray.toList (selS (selL y196 0) 2)) == (ByteArray.toList (ByteArray.mk (List.toArray [(115 : UInt8), (101 : UInt8), (110 : UInt8), (100 : UInt8)]))))), (D.bool ((ByteArray.toList (selS (selL y196 0) 2)) == (ByteArray.toList (ByteArray.mk (List.toArray [(104 : UInt8), (101 : UInt8), (97 : UInt8), (114 : UInt8)]))))), (D.list 9 ((0 : Nat) + (Int.toNat ((Option.getD (Option.none) (Nat.cast (selN y196 0) : Int)) - (Option.getD (Option.some (3 : Int)) (0 : Int))))) (List.take (((0 : Nat) + (Int.toNat ((Option.getD (Option.none) (Nat.cast (selN y196 0) : Int)) - (Option.getD (Option.some (3 : Int)) (0 : Int))))) * (1 : Nat)) (List.drop ((0 : Nat) * (1 : Nat)) ((List.take ((0 : Nat) * (1 : Nat)) (List.drop ((0 : Nat) * (1 : Nat)) [])) ++ (List.take ((Int.toNat ((Option.getD (Option.none) (Nat.cast (selN y196 0) : Int)) - (Option.getD (Option.some (3 : Int)) (0 : Int)))) * (1 : Nat)) (List.drop (((0 : Nat) + (Int.toNat (Option.getD (Option.some (3 : Int)) (0 : Int)))) * (1 : Nat)) (selL y196 0)))))))] (fun y170 => (Tree.ite (Bool.not (selB y170 0)) (Tree.need (all_ [(((0 : Nat) * (5 : Nat)) ≤ (0 : Nat))]) (Tree.ret [(D.list 25 (0 : Nat) []), (D.bool false)])) (Tree.need (all_ [((((0 : Nat) + (1 : Nat)) * (5 : Nat)) ≤ (5 : Nat)), ((((0 : Nat) + ((0 : Nat) + (Int.toNat ((Option.getD (Option.none) (Nat.cast (selN y196 0) : Int)) - (Option.getD (Option.some (3 : Int)) (0 : Int)))))) * (1 : Nat)) ≤ (List.length ((List.take ((0 : Nat) * (1 : Nat)) (List.drop ((0 : Nat) * (1 : Nat)) [])) ++ (List.take ((Int.toNat ((Option.getD (Option.none) (Nat.cast (selN y196 0) : Int)) - (Option.getD (Option.some (3 : Int)) (0 : Int)))) * (1 : Nat)) (List.drop (((0 : Nat) + (Int.toNat (Option.getD (Option.some (3 : Int)) (0 : Int)))) * (1 : Nat)) (selL y196 0)))))), (((x4o + x4n) * (5 : Nat)) ≤ (List.length r0)), ((x4n + (1 : Nat)) ≤ (1048576 : Nat))]) (Tree.need (all_ [(inK .i64 (x5 + (1 : Int)))]) (Tree.goto 0 [(D.list 9 x0n x0), (D.int .i64 (Nat.cast (0 : Nat) : Int)), (D.int .i64 (Nat.cast (x4n + (1 : Nat)) : Int)), (D.int .i64 (x5 + (1 : Int))), (D.list 25 (0 : Nat) ((List.take (x4n * (5 : Nat)) (List.drop (x4o * (5 : Nat)) r0)) ++ [(sel (selL y196 0) ((0 : Nat) * (1 : Nat)) Kd.str), (sel y184 (0 : Nat) (Kd.int .i64)), (D.bool ((ByteArray.toList (selS (selL y196 0) 2)) == (ByteArray.toList (ByteArray.mk (List.toArray [(115 : UInt8), (101 : UInt8), (110 : UInt8), (100 : UInt8)]))))), (D.bool ((ByteArray.toList (selS (selL y196 0) 2)) == (ByteArray.toList (ByteArray.mk (List.toArray [(104 : UInt8), (101 : UInt8), (97 : UInt8), (114 : UInt8)]))))), (D.list 9 ((0 : Nat) + (Int.toNat ((Option.getD (Option.none) (Nat.cast (selN y196 0) : Int)) - (Option.getD (Option.some (3 : Int)) (0 : Int))))) (List.take (((0 : Nat) + (Int.toNat ((Option.getD (Option.none) (Nat.cast (selN y196 0) : Int)) - (Option.getD (Option.some (3 : Int)) (0 : Int))))) * (1 : Nat)) (List.drop ((0 : Nat) * (1 : Nat)) ((List.take ((0 : Nat) * (1 : Nat)) (List.drop ((0 : Nat) * (1 : Nat)) [])) ++ (List.take ((Int.toNat ((Option.getD (Option.none) (Nat.cast (selN y196 0) : Int)) - (Option.getD (Option.some (3 : Int)) (0 : Int)))) * (1 : Nat)) (List.drop (((0 : Nat) + (Int.toNat (Option.getD (Option.some (3 : Int)) (0 : Int)))) * (1 : Nat)) (selL y196 0)))))))]))]))))))))))))))))))))))))))))))))))))) (Tree.need (all_ [(((x4o + x4n) * (5 : Nat)) ≤ (List.length r0))]) (Tree.ret [(D.list 25 x4n (List.take (x4n * (5 : Nat)) (List.drop (x4o * (5 : Nat)) r0))), (D.bool true)]))) := by kernel_rfl
end Go.Proofs.Ytgoheolehnahkaa.Mini
end
section
/- Chapter 9: offers: the model's functions. -/
namespace Go.Proofs.Ytgoheolehnahkaa.Mini
open Go Go.RowKit
set_option linter.unusedVariables false
set_option linter.unusedSimpArgs false
set_option maxRecDepth 20000
theorem m20 {s : ByteArray} (h : s.size ≤ 1048576) : s.size ≤ maxLen := by unfold maxLen; omega
theorem textsD_len (ls : List ByteArray) : (textsD ls).length = ls.length := by simp [textsD]
theorem textsD_take (ls : List ByteArray) : List.take ls.length (textsD ls) = textsD ls := List.take_of_length_le (by rw [textsD_len]; omega)
theorem textsD_push (ls : List ByteArray) (s : ByteArray) : textsD (ls ++ [s]) = textsD ls ++ [.str s] := by simp [textsD]
theorem textsD_scal (ls : List ByteArray) : scal (textsD ls) := by
  intro d hd
  obtain ⟨x, _, rfl⟩ := List.mem_map.mp hd
  rfl
theorem textsD_at {ls : List ByteArray} {i : Nat} {s : ByteArray} (h : ls[i]? = some s) : (textsD ls)[i]? = some (.str s) := by simp [textsD, h]
theorem textsD_get {ls : List ByteArray} {i : Nat} (h : i < ls.length) : ∃ s, ls[i]? = some s ∧ (textsD ls)[i]? = some (.str s) ∧ s ∈ ls := ⟨ls[i], List.getElem?_eq_getElem h, textsD_at (List.getElem?_eq_getElem h), List.getElem_mem h⟩
theorem unS_texts (ls : List ByteArray) : unS (textsD ls) = ls := by
  unfold unS textsD
  rw [List.map_map]
  conv => rhs; rw [← List.map_id ls]
  rfl
theorem unM_med (m : Med) : unM (medD m) = m := by
  show Med.mk _ _ _ _ (unS (textsD m.c)) = m
  rw [unS_texts]
  rfl
theorem medD_len (m : Med) : (medD m).length = 5 := rfl
theorem unO_off : ∀ l : List Med, unO (offD l) = l
  | [] => rfl
  | m :: l => by
    show Med.mk m.k m.p m.s m.h (unS (textsD m.c)) :: unO (offD l) = m :: l
    rw [unS_texts, unO_off l]
theorem offD_len (l : List Med) : (offD l).length = l.length * 5 := flatD_len medD_len l
theorem dist_no {l : List ByteArray} {i j : Nat} {a b : ByteArray} (hi : l[i]? = some a) (hj : l[j]? = some b) (hij : i < j) (h : a.data.toList = b.data.toList) : distB l = false := by
  unfold distB
  apply decide_eq_false
  intro hn
  have hi' := (List.getElem?_eq_some_iff.mp hi)
  have hj' := (List.getElem?_eq_some_iff.mp hj)
  have h1 := List.pairwise_iff_getElem.mp hn i j (by simp; exact hi'.1) (by simp; exact hj'.1) hij
  apply h1
  simp [hi'.2, hj'.2, h]
theorem dist_yes {l : List ByteArray} (h : ∀ (i j : Nat) (a b : ByteArray), l[i]? = some a → l[j]? = some b → i < j → a.data.toList ≠ b.data.toList) : distB l = true := by
  unfold distB
  apply decide_eq_true
  refine List.pairwise_iff_getElem.mpr (fun i j hi hj hij => ?_)
  simp at hi hj
  simpa using h i j l[i] l[j] (List.getElem?_eq_getElem hi) (List.getElem?_eq_getElem hj) hij
theorem word_no {l : List ByteArray} {s : ByteArray} (hs : s ∈ l) (h : wordS s = false) : l.all wordS = false := by
  rw [List.all_eq_false]
  exact ⟨s, hs, by rw [h]; simp⟩
theorem ok_sway : FnOk Try.prog 48 s_sway := by
  refine fnOk (fn := Try.f48) (F := F_sway) (hs := hs_sway) tab_nil mixed rfl rfl rfl [.str, .int .i64, .bool, .bool, .list 9] (by kernel_rfl) (by simp) ?_
  intro k p s h n c _
  refine ⟨fun _ _ => False, fun _ _ => 0, ?_, fun _ _ h => h.elim⟩
  rw [t_sway]
  cases s <;> cases h <;> simp only [Tree.holds, ltI_t, ltI_f, leI_t, leI_f, all_cons, all_nil, and_true, true_and, forall_eq, decide_eq_true_eq, decide_eq_false_iff_not, beq_iff_eq, beq_eq_false_iff_ne, bne_iff_ne, bne_eq_false_iff_eq, ne_eq, Decidable.not_not, selI_z, selB_z, selS_z, selN_z, selL_z, selI_s, selB_s, selS_s, selN_s, selL_s, Int.toNat_natCast, Nat.mul_one, Nat.zero_add, Nat.div_one, List.drop_zero, Nat.zero_mul, Nat.le_refl, Bool.not_eq_true', Bool.not_eq_false', Bool.false_eq_true, Bool.true_eq_false, not_true_eq_false, not_false_eq_true, false_imp_iff, true_imp_iff, if_true, if_false, sig, sigF, sigW, sigR, sigO] <;> simp <;> rfl
theorem ok_smed : FnOk Try.prog 13 s_smed := by
  refine fnOk (fn := Try.f13) (F := F_smed) (hs := hs_smed) (tab_cons ok_sword (tab_cons ok_sin tab_nil)) mixed rfl rfl rfl [.str, .int .i64, .bool, .bool, .list 9] (by kernel_rfl) (by simp) ?_
  rintro k p s h n cs ⟨m, e, hm⟩
  obtain ⟨mk, mp, ms, mh, mc⟩ := m
  simp only [medD, List.cons.injEq, D.str.injEq, D.int.injEq, D.bool.injEq, D.list.injEq, true_and, and_true] at e
  obtain ⟨rfl, rfl, rfl, rfl, rfl, rfl⟩ := e
  obtain ⟨h1, h2, h3⟩ := hm
  have h1 : k.size ≤ 1048576 := h1
  have h2 : mc.length ≤ 1048576 := h2
  have h3 : ∀ x ∈ mc, x.size ≤ 1048576 := h3
  have hu : unM [.str k, .int .i64 p, .bool s, .bool h, .list 9 mc.length (textsD mc)] = ⟨k, p, s, h, mc⟩ := unM_med ⟨k, p, s, h, mc⟩
  refine ⟨fun h' ys => (h' = 0 ∧ ∃ i : Nat, ys = [.int .i64 i, .str k, .int .i64 p, .bool s, .bool h, .list 9 mc.length (textsD mc)] ∧ i ≤ mc.length ∧ (∀ (a : Nat) (x : ByteArray), a < i → mc[a]? = some x → wordS x = true) ∧ (∀ (a b : Nat) (x y : ByteArray), mc[a]? = some x → mc[b]? = some y → a < b → b < i → x.data.toList ≠ y.data.toList)) ∨
    (h' = 1 ∧ ∃ i j : Nat, ys = [.int .i64 i, .int .i64 j, .str k, .int .i64 p, .bool s, .bool h, .list 9 mc.length (textsD mc)] ∧ i < mc.length ∧ j ≤ i ∧ (∀ (a : Nat) (x : ByteArray), a < i + 1 → mc[a]? = some x → wordS x = true) ∧ (∀ (a b : Nat) (x y : ByteArray), mc[a]? = some x → mc[b]? = some y → a < b → b < i → x.data.toList ≠ y.data.toList) ∧ (∀ (a : Nat) (x y : ByteArray), mc[a]? = some x → mc[i]? = some y → a < j → x.data.toList ≠ y.data.toList)),
    fun h' ys => mu2 mc.length h' (selI ys 0).toNat (selI ys 1).toNat, ?_, ?_⟩
  · rw [t_smed]
    simp only [F_smed_sword, F_smed_sin, s_sword, s_sin, Tree.holds, ltI_t, ltI_f, leI_t, leI_f, all_cons, all_nil, and_true, true_and, forall_eq, decide_eq_true_eq, decide_eq_false_iff_not, beq_iff_eq, beq_eq_false_iff_ne, bne_iff_ne, bne_eq_false_iff_eq, ne_eq, Decidable.not_not, selI_z, selB_z, selS_z, selN_z, selL_z, selI_s, selB_s, selS_s, selN_s, selL_s, Int.toNat_natCast, Nat.mul_one, Nat.zero_add, Nat.div_one, List.drop_zero, Nat.zero_mul, Nat.le_refl, Bool.not_eq_true', Bool.not_eq_false', Bool.false_eq_true, Bool.true_eq_false, not_true_eq_false, not_false_eq_true, false_imp_iff, true_imp_iff, if_true, if_false, sig, sigF, sigW, sigR, sigO]
    exact .inl ⟨0, rfl, by omega, fun a x h => by omega, fun a b x y _ _ _ h => by omega⟩
  · rintro h' ys (⟨rfl, i, rfl, i1, i2, i3⟩ | ⟨rfl, i, j, rfl, i1, j1, i2, i3, i4⟩)
    · rw [t_smed0]
      simp only [F_smed_sword, F_smed_sin, s_sword, s_sin, Tree.holds, ltI_t, ltI_f, leI_t, leI_f, all_cons, all_nil, and_true, true_and, forall_eq, decide_eq_true_eq, decide_eq_false_iff_not, beq_iff_eq, beq_eq_false_iff_ne, bne_iff_ne, bne_eq_false_iff_eq, ne_eq, Decidable.not_not, selI_z, selB_z, selS_z, selN_z, selL_z, selI_s, selB_s, selS_s, selN_s, selL_s, Int.toNat_natCast, Nat.mul_one, Nat.zero_add, Nat.div_one, List.drop_zero, Nat.zero_mul, Nat.le_refl, Bool.not_eq_true', Bool.not_eq_false', Bool.false_eq_true, Bool.true_eq_false, not_true_eq_false, not_false_eq_true, false_imp_iff, true_imp_iff, if_true, if_false, sig, sigF, sigW, sigR, sigO, sel_kstr, hu]
      refine ⟨fun hi => ?_, fun hi => ⟨m20 h1, ?_⟩⟩
      · obtain ⟨x, x1, x2, x3⟩ := textsD_get (ls := mc) (i := i) (by omega)
        rw [selS_of x2]
        refine ⟨⟨by omega, by omega⟩, x2, m20 (h3 x x3), fun e => ret_bool' ?_, fun e => ⟨.inr ⟨i, 0, rfl, by omega, by omega, fun a y ha hy => ?_, i3, fun a x y _ _ h => by omega⟩, ?_⟩⟩
        · unfold medB; rw [word_no x3 e]; rfl
        · by_cases hai : a = i
          · rw [hai, x1] at hy; injection hy with hy; rw [← hy]; exact e
          · exact i2 a y (by omega) hy
        · unfold mu2; simp; omega
      · obtain rfl : i = mc.length := by omega
        have ha : mc.all wordS = true := List.all_eq_true.mpr (fun x hx => by
          obtain ⟨a, ha, rfl⟩ := List.getElem_of_mem hx
          exact i2 a _ ha (List.getElem?_eq_getElem ha))
        have hd : distB mc = true := dist_yes (fun a b x y hx hy hab => i3 a b x y hx hy hab (List.getElem?_eq_some_iff.mp hy).1)
        have hm : medB ⟨k, p, s, h, mc⟩ = (wordS k && (inB p 0 65535 && inB mc.length 1 4)) := by unfold medB; simp only [ha, hd, Bool.and_self, Bool.true_and]
        refine ⟨fun e0 => ⟨fun e1 => ret_bool' ?_, fun e1 => ret_bool' ?_⟩, fun e0 => ret_bool' ?_⟩
        · rw [hm, show wordS k = true from e0, e1]; rfl
        · rw [hm, e1]; simp
        · rw [hm, show wordS k = false from e0]; rfl
    · rw [t_smed1]
      simp only [F_smed_sword, F_smed_sin, s_sword, s_sin, Tree.holds, ltI_t, ltI_f, leI_t, leI_f, all_cons, all_nil, and_true, true_and, forall_eq, decide_eq_true_eq, decide_eq_false_iff_not, beq_iff_eq, beq_eq_false_iff_ne, bne_iff_ne, bne_eq_false_iff_eq, ne_eq, Decidable.not_not, selI_z, selB_z, selS_z, selN_z, selL_z, selI_s, selB_s, selS_s, selN_s, selL_s, Int.toNat_natCast, Nat.mul_one, Nat.zero_add, Nat.div_one, List.drop_zero, Nat.zero_mul, Nat.le_refl, Bool.not_eq_true', Bool.not_eq_false', Bool.false_eq_true, Bool.true_eq_false, not_true_eq_false, not_false_eq_true, false_imp_iff, true_imp_iff, if_true, if_false, sig, sigF, sigW, sigR, sigO, sel_kstr, hu, ByteArray.toList_eq]
      obtain ⟨y, y1, y2, y3⟩ := textsD_get (ls := mc) (i := i) (by omega)
      refine ⟨fun hj => ?_, fun hj => ⟨by unfold inK; omega, .inl ⟨i + 1, rfl, by omega, i2, fun a b x z hx hz hab hb => ?_⟩, ?_⟩⟩
      · obtain ⟨x, x1, x2, x3⟩ := textsD_get (ls := mc) (i := j) (by omega)
        rw [selS_of x2, selS_of y2]
        refine ⟨⟨by omega, by omega⟩, x2, ⟨by omega, by omega⟩, y2, fun e => ret_bool' ?_, fun e => ⟨by unfold inK; omega, .inr ⟨i, j + 1, rfl, by omega, by omega, i2, i3, fun a z w hz hw ha => ?_⟩, ?_⟩⟩
        · unfold medB; rw [dist_no x1 y1 (by omega) e]; simp
        · by_cases haj : a = j
          · rw [haj, x1] at hz; rw [y1] at hw
            injection hz with hz; injection hw with hw
            rw [← hz, ← hw]; exact e
          · exact i4 a z w hz hw (by omega)
        · unfold mu2; simp; omega
      · by_cases hbi : b = i
        · rw [hbi] at hz hab
          exact i4 a x z hx hz (by omega)
        · exact i3 a b x z hx hz hab (by omega)
      · unfold mu2; simp; omega
/-- The words of a text's beginning. -/
def wordsK (s : ByteArray) (k : Nat) : List ByteArray := (wordsL (s.data.toList.take k)).map bytesOf
theorem wordsK_zero (s : ByteArray) : wordsK s 0 = [⟨#[]⟩] := rfl
theorem wordsK_all (s : ByteArray) : wordsK s s.size = wordsS s := by
  unfold wordsK wordsS
  rw [List.take_of_length_le (by simp)]
theorem wordsK_step (s : ByteArray) (k : Nat) (h : k < s.size) : ∃ i a, wordsK s k = i ++ [a] ∧ wordsK s (k + 1) = if s[k] = 32 then i ++ [a] ++ [⟨#[]⟩] else i ++ [a ++ s.extract k (k + 1)] := by
  obtain ⟨i, a, h1, h2⟩ := wordsL_snoc (s.data.toList.take k) s[k]
  refine ⟨i.map bytesOf, bytesOf a, by unfold wordsK; rw [h1]; simp, ?_⟩
  unfold wordsK
  rw [take_snoc s k h, h2]
  split
  · simp; rfl
  · rw [List.map_append]
    congr 1
    show [bytesOf (a ++ [s[k]])] = _
    congr 1
    apply ByteArray.ext
    apply Array.ext'
    have e := ext_one s k h
    have e2 : (s.extract k (k + 1)).data.toList = [s[k]] := e
    show (a ++ [s[k]]) = (bytesOf a ++ s.extract k (k + 1)).data.toList
    rw [cat_list, e2]
    rfl
theorem wordsK_size (s : ByteArray) : ∀ k, k ≤ s.size → (wordsK s k).length ≤ k + 1 ∧ ∀ w ∈ wordsK s k, w.size ≤ k
  | 0, _ => by rw [wordsK_zero]; exact ⟨by simp, fun w hw => by simp at hw; subst hw; exact Nat.le_refl _⟩
  | k + 1, h => by
    obtain ⟨h1, h2⟩ := wordsK_size s k (by omega)
    obtain ⟨i, a, e1, e2⟩ := wordsK_step s k (by omega)
    rw [e1] at h1 h2
    rw [e2]
    have hx : (s.extract k (k + 1)).size = 1 := by rw [ByteArray.size_extract]; omega
    split
    · refine ⟨by simp at h1 ⊢; omega, fun w hw => ?_⟩
      rcases List.mem_append.mp hw with hw | hw
      · have := h2 w hw; omega
      · simp at hw; subst hw; exact Nat.zero_le _
    · refine ⟨by simp at h1 ⊢; omega, fun w hw => ?_⟩
      rcases List.mem_append.mp hw with hw | hw
      · have := h2 w (by simp [hw]); omega
      · simp at hw
        subst hw
        have := h2 a (by simp)
        rw [size_cat, hx]; omega
theorem ok_swords : FnOk Try.prog 54 s_swords := by
  refine fnOk (fn := Try.f54) (F := F_swords) (hs := hs_swords) tab_nil mixed rfl rfl rfl [.str] (by kernel_rfl) (by simp) ?_
  intro s hp
  have hp : s.size ≤ 1048575 := hp
  refine ⟨fun h ys => h = 0 ∧ ∃ k : Nat, ys = [.str s, .int .i64 (0 : Nat), .int .i64 ((wordsK s k).length : Nat), .int .i64 k, .list 9 0 (textsD (wordsK s k))] ∧ k ≤ s.size, fun h ys => s.size - (selI ys 3).toNat, ?_, ?_⟩
  · rw [t_swords]
    simp only [Tree.holds, ltI_t, ltI_f, leI_t, leI_f, all_cons, all_nil, and_true, true_and, forall_eq, decide_eq_true_eq, decide_eq_false_iff_not, beq_iff_eq, beq_eq_false_iff_ne, bne_iff_ne, bne_eq_false_iff_eq, ne_eq, Decidable.not_not, selI_z, selB_z, selS_z, selN_z, selL_z, selI_s, selB_s, selS_s, selN_s, selL_s, Int.toNat_natCast, Nat.mul_one, Nat.zero_add, Nat.div_one, List.drop_zero, Nat.zero_mul, Nat.le_refl, Bool.not_eq_true', Bool.not_eq_false', Bool.false_eq_true, Bool.true_eq_false, not_true_eq_false, not_false_eq_true, false_imp_iff, true_imp_iff, if_true, if_false, sig, sigF, sigW, sigR, sigO]
    exact ⟨0, rfl, by omega⟩
  · rintro h ys ⟨rfl, k, rfl, hk⟩
    rw [t_swords0]
    simp only [Tree.holds, ltI_t, ltI_f, leI_t, leI_f, all_cons, all_nil, and_true, true_and, forall_eq, decide_eq_true_eq, decide_eq_false_iff_not, beq_iff_eq, beq_eq_false_iff_ne, bne_iff_ne, bne_eq_false_iff_eq, ne_eq, Decidable.not_not, selI_z, selB_z, selS_z, selN_z, selL_z, selI_s, selB_s, selS_s, selN_s, selL_s, Int.toNat_natCast, Nat.mul_one, Nat.zero_add, Nat.div_one, List.drop_zero, Nat.zero_mul, Nat.le_refl, Bool.not_eq_true', Bool.not_eq_false', Bool.false_eq_true, Bool.true_eq_false, not_true_eq_false, not_false_eq_true, false_imp_iff, true_imp_iff, if_true, if_false, sig, sigF, sigW, sigR, sigO, sel_kstr]
    obtain ⟨hn, hw⟩ := wordsK_size s k hk
    refine ⟨fun hj => ⟨⟨by omega, by omega⟩, ?_⟩, fun hj => ?_⟩
    · have hk2 : k < s.size := by omega
      obtain ⟨i, a, e1, e2⟩ := wordsK_step s k hk2
      have hb : byteI s k = (s[k].toNat : Int) := by
        unfold byteI
        rw [List.getD_eq_getElem?_getD, List.getElem?_eq_getElem (by simp; omega)]
        rfl
      have hl : (wordsK s k).length = i.length + 1 := by rw [e1]; simp
      have hx : (textsD (wordsK s k))[i.length]? = some (.str a) := textsD_at (by rw [e1]; simp)
      have h32 : ((s[k].toNat : Int) = 32) ↔ s[k] = 32 := by
        constructor
        · intro h; exact UInt8.toNat_inj.mp (show s[k].toNat = 32 by omega)
        · intro h; rw [h]; rfl
      have e5 : (textsD (wordsK s k)).length = i.length + 1 := by rw [textsD_len, hl]
      rw [hb, hl]
      refine ⟨fun he => ?_, fun he => ?_⟩
      · have e3 : wordsK s (k + 1) = wordsK s k ++ [⟨#[]⟩] := by rw [e2, if_pos (h32.mp he), e1]
        refine ⟨⟨by omega, by omega⟩, by unfold inK; omega, ⟨k + 1, ?_, by omega⟩, by omega⟩
        rw [e3, textsD_push, List.length_append, hl, ← hl, textsD_take]
        simp
      · have e3 : wordsK s (k + 1) = i ++ [a ++ s.extract k (k + 1)] := by rw [e2, if_neg (fun h => he (h32.mpr h))]
        have hz : (((i.length + 1 : Nat) : Int) - 1).toNat = i.length := by omega
        have hax : a.size ≤ k := hw a (by rw [e1]; simp)
        have hex : (s.extract k (k + 1)).size = 1 := by rw [ByteArray.size_extract]; omega
        have hk1 : ((k : Int) + 1).toNat = k + 1 := by omega
        simp only [Option.getD_some, Int.toNat_natCast, hz, hk1]
        rw [selS_of hx]
        refine ⟨by unfold inK; omega, by unfold inK; omega, ⟨by omega, by omega⟩, hx, by unfold inK; omega, ⟨by omega, by omega, by omega⟩, by omega, ⟨by omega, by omega⟩, by omega, by unfold inK; omega, ⟨k + 1, ?_, by omega⟩, by omega⟩
        rw [e3]
        have e6 : setL (textsD (wordsK s k)) i.length [D.str (a ++ s.extract k (k + 1))] = textsD (i ++ [a ++ s.extract k (k + 1)]) := by
          rw [e1]
          unfold setL textsD
          simp
        rw [e6]
        simp
    · obtain rfl : k = s.size := by omega
      have e6 := wordsK_all s
      rw [textsD_take, e6]
      exact ⟨⟨by rw [textsD_len]; omega, textsD_scal _⟩, rfl⟩
/-- The cells of a media of an offer. -/
theorem off_at {l : List Med} {i : Nat} {m : Med} (h : l[i]? = some m) : (offD l)[i * 5]? = some (.str m.k) ∧ (offD l)[i * 5 + 1]? = some (.int .i64 m.p) ∧ (offD l)[i * 5 + 1 + 1]? = some (.bool m.s) ∧ (offD l)[i * 5 + 1 + 1 + 1]? = some (.bool m.h) ∧ (offD l)[i * 5 + 1 + 1 + 1 + 1]? = some (.list 9 m.c.length (textsD m.c)) :=
  ⟨flatD_at medD_len h (j := 0) (by omega), flatD_at medD_len h (j := 1) (by omega), flatD_at medD_len h (j := 2) (by omega), flatD_at medD_len h (j := 3) (by omega), flatD_at medD_len h (j := 4) (by omega)⟩
theorem off_get {l : List Med} {i : Nat} (h : i < l.length) : ∃ m, l[i]? = some m ∧ m ∈ l := ⟨l[i], List.getElem?_eq_getElem h, List.getElem_mem h⟩
theorem med_no {l : List Med} {m : Med} (hm : m ∈ l) (h : medB m = false) : offB l = false := by
  unfold offB
  rw [show l.all medB = false by rw [List.all_eq_false]; exact ⟨m, hm, by rw [h]; simp⟩]
  rfl
theorem ok_soff : FnOk Try.prog 20 s_soff := by
  refine fnOk (fn := Try.f20) (F := F_soff) (hs := hs_soff) (tab_cons ok_smed tab_nil) mixed rfl rfl rfl [.list 25] (by kernel_rfl) (by simp) ?_
  rintro n cs ⟨l, e, hl, hm⟩
  simp only [List.cons.injEq, D.list.injEq, true_and, and_true] at e
  obtain ⟨rfl, rfl⟩ := e
  refine ⟨fun h ys => h = 0 ∧ ∃ i : Nat, ys = [.list 25 l.length (offD l), .int .i64 i] ∧ i ≤ l.length ∧ (∀ (a : Nat) (m : Med), a < i → l[a]? = some m → medB m = true), fun h ys => l.length - (selI ys 1).toNat, ?_, ?_⟩
  · rw [t_soff]
    simp only [F_soff_smed, s_smed, Tree.holds, ltI_t, ltI_f, leI_t, leI_f, all_cons, all_nil, and_true, true_and, forall_eq, decide_eq_true_eq, decide_eq_false_iff_not, beq_iff_eq, beq_eq_false_iff_ne, bne_iff_ne, bne_eq_false_iff_eq, ne_eq, Decidable.not_not, selI_z, selB_z, selS_z, selN_z, selL_z, selI_s, selB_s, selS_s, selN_s, selL_s, Int.toNat_natCast, Nat.mul_one, Nat.zero_add, Nat.div_one, List.drop_zero, Nat.zero_mul, Nat.le_refl, Bool.not_eq_true', Bool.not_eq_false', Bool.false_eq_true, Bool.true_eq_false, not_true_eq_false, not_false_eq_true, false_imp_iff, true_imp_iff, if_true, if_false, sig, sigF, sigW, sigR, sigO]
    exact ⟨0, rfl, by omega, fun a m h => by omega⟩
  · rintro h ys ⟨rfl, i, rfl, hi, hv⟩
    rw [t_soff0]
    simp only [F_soff_smed, s_smed, Tree.holds, ltI_t, ltI_f, leI_t, leI_f, all_cons, all_nil, and_true, true_and, forall_eq, decide_eq_true_eq, decide_eq_false_iff_not, beq_iff_eq, beq_eq_false_iff_ne, bne_iff_ne, bne_eq_false_iff_eq, ne_eq, Decidable.not_not, selI_z, selB_z, selS_z, selN_z, selL_z, selI_s, selB_s, selS_s, selN_s, selL_s, Int.toNat_natCast, Nat.mul_one, Nat.zero_add, Nat.div_one, List.drop_zero, Nat.zero_mul, Nat.le_refl, Bool.not_eq_true', Bool.not_eq_false', Bool.false_eq_true, Bool.true_eq_false, not_true_eq_false, not_false_eq_true, false_imp_iff, true_imp_iff, if_true, if_false, sig, sigF, sigW, sigR, sigO, sel_kstr, sel_kint, sel_kbool, unO_off]
    refine ⟨fun hj => ?_, fun hj => ret_bool' ?_⟩
    · obtain ⟨m, m1, m2⟩ := off_get (l := l) (i := i) (by omega)
      obtain ⟨c0, c1, c2, c3, c4⟩ := off_at m1
      rw [selS_of c0, selI_of c1, selB_of c2, selB_of c3, selN_of c4, selL_of c4]
      have e := unM_med m
      unfold medD at e
      rw [e]
      refine ⟨⟨by omega, by omega⟩, ⟨c0, c1, c2, c3, .inl c4⟩, ⟨m, rfl, hm m m2⟩, fun e0 => ret_bool' ?_, fun e0 => ⟨by unfold inK; omega, ⟨i + 1, rfl, by omega, fun a m' ha hm' => ?_⟩, by omega⟩⟩
      · rw [med_no m2 e0]
      · by_cases hai : a = i
        · rw [hai, m1] at hm'; injection hm' with hm'; rw [← hm']; exact e0
        · exact hv a m' (by omega) hm'
    · have ha : l.all medB = true := List.all_eq_true.mpr (fun x hx => by
        obtain ⟨a, ha, rfl⟩ := List.getElem_of_mem hx
        exact hv a _ (by omega) (List.getElem?_eq_getElem ha))
      unfold offB
      rw [ha]
      by_cases h4 : l.length ≤ 4
      · rw [show leI (l.length : Int) 4 = true from leI_t.mpr (by omega)]; simp [h4]
      · rw [show leI (l.length : Int) 4 = false from leI_f.mpr (by omega)]; simp [h4]
/-- A line under way: its first words, so many codes. -/
def lineK (m : Med) (j : Nat) : ByteArray := joinS (m.c.take j) (m.k ++ " ".toUTF8 ++ textS m.p ++ " ".toUTF8 ++ wayS m.s m.h)
theorem joinS_snoc : ∀ (l : List ByteArray) (c a : ByteArray), joinS (l ++ [c]) a = joinS l a ++ " ".toUTF8 ++ c
  | [], c, a => rfl
  | d :: l, c, a => by show joinS (l ++ [c]) _ = _; rw [joinS_snoc l]; rfl
theorem lineK_all (m : Med) : lineK m m.c.length = lineM m := by unfold lineK lineM; rw [List.take_of_length_le (Nat.le_refl _)]
theorem lineK_step {m : Med} {j : Nat} {c : ByteArray} (h : m.c[j]? = some c) : lineK m (j + 1) = lineK m j ++ " ".toUTF8 ++ c := by
  unfold lineK
  rw [List.take_add_one, h]
  exact joinS_snoc _ _ _
theorem sp_is : (⟨#[32]⟩ : ByteArray) = " ".toUTF8 := rfl
theorem way_size (s h : Bool) : (wayS s h).size = 4 := by cases s <;> cases h <;> rfl
theorem textS_size (n : Int) : (textS n).size ≤ 7 := by
  unfold textS textN
  split
  · rename_i h
    have := numT_len7 n.toNat (by omega)
    show ((numT n.toNat).toArray).size ≤ 7
    simpa using this
  · exact Nat.zero_le _
theorem word_size {s : ByteArray} (h : wordS s = true) : s.size ≤ 10 := by
  have := word_len h
  have e : s.data.toList.length = s.size := by simp
  omega
theorem lineK_size {m : Med} (h : medB m = true) : ∀ j, j ≤ m.c.length → (lineK m j).size ≤ 24 + 11 * j
  | 0, _ => by
    unfold medB at h
    simp only [Bool.and_eq_true] at h
    have h1 := word_size h.2.1
    have h2 := textS_size m.p
    have h3 := way_size m.s m.h
    show (m.k ++ " ".toUTF8 ++ textS m.p ++ " ".toUTF8 ++ wayS m.s m.h).size ≤ 24
    simp only [size_cat, h3]
    have : (" ".toUTF8).size = 1 := rfl
    omega
  | j + 1, hj => by
    have ih := lineK_size h j (by omega)
    have hc := List.getElem?_eq_getElem (l := m.c) (i := j) (by omega)
    rw [lineK_step hc]
    unfold medB at h
    simp only [Bool.and_eq_true, List.all_eq_true] at h
    have h1 := word_size (h.1.1 m.c[j] (List.getElem_mem _))
    simp only [size_cat]
    have : (" ".toUTF8).size = 1 := rfl
    omega
theorem ok_soli : FnOk Try.prog 27 s_soli := by
  refine fnOk (fn := Try.f27) (F := F_soli) (hs := hs_soli) (tab_cons ok_soff (tab_cons ok_snum (tab_cons ok_sway tab_nil))) mixed rfl rfl rfl [.list 25] (by kernel_rfl) (by simp) ?_
  rintro n cs ⟨l, e, hl, hm⟩
  simp only [List.cons.injEq, D.list.injEq, true_and, and_true] at e
  obtain ⟨rfl, rfl⟩ := e
  have hpre : ∃ l' : List Med, [D.list 25 l.length (offD l)] = [.list 25 l'.length (offD l')] ∧ l'.length ≤ 1048576 ∧ ∀ m ∈ l', smM m := ⟨l, rfl, hl, hm⟩
  refine ⟨fun h ys => (h = 0 ∧ ∃ i : Nat, ys = [.list 25 l.length (offD l), .int .i64 (0 : Nat), .int .i64 i, .int .i64 i, .list 9 0 (textsD ((l.take i).map lineM))] ∧ i ≤ l.length ∧ (offB l = false → i = 0)) ∨
    (h = 1 ∧ ∃ (i j : Nat) (m : Med), ys = [.list 25 l.length (offD l), .int .i64 (0 : Nat), .int .i64 i, .int .i64 i, .str (lineK m j), .int .i64 j, .list 25 l.length (offD l), .bool (offB l), .list 9 0 (textsD ((l.take i).map lineM))] ∧ l[i]? = some m ∧ j ≤ m.c.length ∧ offB l = true),
    fun h ys => mu2 l.length h (selI ys 3).toNat (selI ys 5).toNat, ?_, ?_⟩
  · rw [t_soli]
    simp only [F_soli_soff, F_soli_snum, F_soli_sway, s_soff, s_snum, s_sway, Tree.holds, ltI_t, ltI_f, leI_t, leI_f, all_cons, all_nil, and_true, true_and, forall_eq, decide_eq_true_eq, decide_eq_false_iff_not, beq_iff_eq, beq_eq_false_iff_ne, bne_iff_ne, bne_eq_false_iff_eq, ne_eq, Decidable.not_not, selI_z, selB_z, selS_z, selN_z, selL_z, selI_s, selB_s, selS_s, selN_s, selL_s, Int.toNat_natCast, Nat.mul_one, Nat.zero_add, Nat.div_one, List.drop_zero, Nat.zero_mul, Nat.le_refl, Bool.not_eq_true', Bool.not_eq_false', Bool.false_eq_true, Bool.true_eq_false, not_true_eq_false, not_false_eq_true, false_imp_iff, true_imp_iff, if_true, if_false, sig, sigF, sigW, sigR, sigO]
    exact .inl ⟨0, rfl, by omega, fun _ => rfl⟩
  · have tk : ∀ i, i ≤ l.length → (textsD ((l.take i).map lineM)).length = i := fun i hi => by rw [textsD_len, List.length_map, List.length_take]; omega
    rintro h ys (⟨rfl, i, rfl, hi, h0⟩ | ⟨rfl, i, j, m, rfl, m1, hj, hv⟩)
    · rw [t_soli0]
      simp only [F_soli_soff, F_soli_snum, F_soli_sway, s_soff, s_snum, s_sway, Tree.holds, ltI_t, ltI_f, leI_t, leI_f, all_cons, all_nil, and_true, true_and, forall_eq, decide_eq_true_eq, decide_eq_false_iff_not, beq_iff_eq, beq_eq_false_iff_ne, bne_iff_ne, bne_eq_false_iff_eq, ne_eq, Decidable.not_not, selI_z, selB_z, selS_z, selN_z, selL_z, selI_s, selB_s, selS_s, selN_s, selL_s, Int.toNat_natCast, Nat.mul_one, Nat.zero_add, Nat.div_one, List.drop_zero, Nat.zero_mul, Nat.le_refl, Bool.not_eq_true', Bool.not_eq_false', Bool.false_eq_true, Bool.true_eq_false, not_true_eq_false, not_false_eq_true, false_imp_iff, true_imp_iff, if_true, if_false, sig, sigF, sigW, sigR, sigO, sel_kstr, sel_kint, sel_kbool, unO_off]
      have hret : ∀ (hx : linesO l = (l.take i).map lineM), (i ≤ (textsD ((l.take i).map lineM)).length ∧ scal (List.take i (textsD ((l.take i).map lineM)))) ∧ [D.list 9 i (List.take i (textsD ((l.take i).map lineM)))] = [.list 9 (linesO l).length (textsD (linesO l))] := fun hx => by
        have e1 : List.take i (textsD ((l.take i).map lineM)) = textsD ((l.take i).map lineM) := List.take_of_length_le (by rw [tk i hi]; omega)
        rw [e1, hx]
        refine ⟨⟨by rw [tk i hi]; omega, textsD_scal _⟩, ?_⟩
        rw [List.length_map, List.length_take, Nat.min_eq_left hi]
      refine ⟨fun hlt => ⟨hpre, fun e0 => ?_, fun e0 => ?_⟩, fun hlt => ?_⟩
      · obtain ⟨m, m1, m2⟩ := off_get (l := l) (i := i) (by omega)
        obtain ⟨c0, c1, c2, c3, c4⟩ := off_at m1
        have hb : medB m = true := by
          unfold offB at e0
          rw [Bool.and_eq_true, List.all_eq_true] at e0
          exact e0.1 m m2
        have hb' := hb
        unfold medB at hb'
        simp only [Bool.and_eq_true] at hb'
        have z1 := word_size hb'.2.1
        have z2 := textS_size m.p
        have z3 := way_size m.s m.h
        have z4 : (" ".toUTF8).size = 1 := rfl
        rw [selS_of c0, selI_of c1, selB_of c2, selB_of c3, selN_of c4, selL_of c4]
        simp only [sp_is, size_cat, z3, z4]
        refine ⟨⟨by omega, by omega⟩, c0, by omega, ⟨by omega, by omega⟩, c1, ⟨by omega, by omega⟩, ⟨c0, c1, c2, c3, .inl c4⟩, by omega, by omega, by omega, .inr ⟨i, 0, m, rfl, m1, by omega, e0⟩, ?_⟩
        unfold mu2; simp; omega
      · refine hret ?_
        have := h0 e0
        subst this
        unfold linesO; rw [e0]; rfl
      · refine hret ?_
        obtain rfl : i = l.length := by omega
        rw [List.take_of_length_le (Nat.le_refl _)]
        unfold linesO
        cases ho : offB l with
        | true => rfl
        | false =>
          have := h0 ho
          rw [List.eq_nil_of_length_eq_zero this]; rfl
    · rw [t_soli1]
      simp only [F_soli_soff, F_soli_snum, F_soli_sway, s_soff, s_snum, s_sway, Tree.holds, ltI_t, ltI_f, leI_t, leI_f, all_cons, all_nil, and_true, true_and, forall_eq, decide_eq_true_eq, decide_eq_false_iff_not, beq_iff_eq, beq_eq_false_iff_ne, bne_iff_ne, bne_eq_false_iff_eq, ne_eq, Decidable.not_not, selI_z, selB_z, selS_z, selN_z, selL_z, selI_s, selB_s, selS_s, selN_s, selL_s, Int.toNat_natCast, Nat.mul_one, Nat.zero_add, Nat.div_one, List.drop_zero, Nat.zero_mul, Nat.le_refl, Bool.not_eq_true', Bool.not_eq_false', Bool.false_eq_true, Bool.true_eq_false, not_true_eq_false, not_false_eq_true, false_imp_iff, true_imp_iff, if_true, if_false, sig, sigF, sigW, sigR, sigO, sel_kstr, sel_kint, sel_kbool]
      have hi : i < l.length := (List.getElem?_eq_some_iff.mp m1).1
      have m2 : m ∈ l := List.mem_of_getElem? m1
      have hb : medB m = true := by
        unfold offB at hv
        rw [Bool.and_eq_true, List.all_eq_true] at hv
        exact hv.1 m m2
      have c4 : (offD l)[i * 5 + 4]? = some (.list 9 m.c.length (textsD m.c)) := flatD_at medD_len m1 (j := 4) (by omega)
      have z4 : (" ".toUTF8).size = 1 := rfl
      have z5 := lineK_size hb j hj
      have hc4 : m.c.length ≤ 4 := by
        unfold medB at hb
        simp only [Bool.and_eq_true, inB_iff] at hb
        omega
      rw [selN_of c4, selL_of c4]
      refine ⟨⟨by omega, by omega⟩, .inl c4, fun hlt => ?_, fun hlt => ?_⟩
      · obtain ⟨x, x1, x2, x3⟩ := textsD_get (ls := m.c) (i := j) (by omega)
        have hx : x.size ≤ 10 := by
          unfold medB at hb
          simp only [Bool.and_eq_true, List.all_eq_true] at hb
          exact word_size (hb.1.1 x x3)
        rw [selS_of x2]
        simp only [sp_is, size_cat, z4]
        refine ⟨by omega, ⟨by omega, by omega⟩, .inl c4, ⟨by omega, by omega⟩, x2, by omega, by unfold inK; omega, .inr ⟨i, j + 1, m, ?_, m1, by omega, hv⟩, ?_⟩
        · rw [lineK_step x1]; rfl
        · unfold mu2; simp; omega
      · obtain rfl : j = m.c.length := by omega
        refine ⟨⟨by rw [tk i (by omega)]; omega, by omega⟩, by unfold inK; omega, .inl ⟨i + 1, ?_, by omega, fun h => by rw [hv] at h; cases h⟩, ?_⟩
        · rw [List.take_of_length_le (by rw [tk i (by omega)]; omega), lineK_all, List.take_add_one, m1]
          simp only [Option.toList_some, List.map_append, List.map_cons, List.map_nil, textsD_push]
          rfl
        · unfold mu2; simp; omega
end Go.Proofs.Ytgoheolehnahkaa.Mini
end
section
/- Chapter 9: offers: reading, by the model. -/
namespace Go.Proofs.Ytgoheolehnahkaa.Mini
open Go Go.RowKit
set_option linter.unusedVariables false
set_option linter.unusedSimpArgs false
set_option maxRecDepth 20000
theorem rdLs_snoc : ∀ (a : List ByteArray) (s : ByteArray), rdLs (a ++ [s]) = match rdLs a, rdW (wordsS s) with | some l, some m => some (l ++ [m]) | _, _ => none
  | [], s => by
    show (match rdW (wordsS s), rdLs [] with | some m, some l => some (m :: l) | _, _ => none) = _
    cases rdW (wordsS s) <;> rfl
  | b :: a, s => by
    show (match rdW (wordsS b), rdLs (a ++ [s]) with | some m, some l => some (m :: l) | _, _ => none) = match (match rdW (wordsS b), rdLs a with | some m, some l => some (m :: l) | _, _ => none), rdW (wordsS s) with | some l, some m => some (l ++ [m]) | _, _ => none
    rw [rdLs_snoc a s]
    cases rdW (wordsS b) <;> cases rdLs a <;> cases rdW (wordsS s) <;> rfl
theorem rdLs_len : ∀ {ls : List ByteArray} {l : List Med}, rdLs ls = some l → l.length = ls.length
  | [], l, h => by injection h with h; subst h; rfl
  | s :: r, l, h => by
    unfold rdLs at h
    split at h <;> try (cases h; done)
    rename_i m l' _ h2
    injection h with h; subst h
    simp [rdLs_len h2]
theorem rdLs_none : ∀ {ls : List ByteArray} {s : ByteArray}, s ∈ ls → rdW (wordsS s) = none → rdLs ls = none
  | b :: r, s, hs, h => by
    unfold rdLs
    rcases List.mem_cons.mp hs with rfl | hs
    · rw [h]
    · rw [rdLs_none hs h]
      cases rdW (wordsS b) <;> rfl
theorem rdOf_no {ls : List ByteArray} {s : ByteArray} (hs : s ∈ ls) (h : rdW (wordsS s) = none) : rdOf ls = none := by
  unfold rdOf
  rw [rdLs_none hs h]
  split <;> rfl
theorem words_len (s : ByteArray) : (wordsS s).length ≤ s.size + 1 ∧ ∀ w ∈ wordsS s, w.size ≤ s.size := by
  have := wordsK_size s s.size (Nat.le_refl _)
  rw [wordsK_all] at this
  exact this
theorem ok_srof : FnOk Try.prog 35 s_srof := by
  refine fnOk (fn := Try.f35) (F := F_srof) (hs := hs_srof) (tab_cons ok_swords (tab_cons ok_sread (tab_cons ok_sway (tab_cons ok_smed tab_nil)))) mixed rfl rfl rfl [.list 9] (by kernel_rfl) (by simp) ?_
  rintro n cs ⟨ls, e, hl, hs⟩
  simp only [List.cons.injEq, D.list.injEq, true_and, and_true] at e
  obtain ⟨rfl, rfl⟩ := e
  refine ⟨fun h ys => h = 0 ∧ ∃ (i : Nat) (out : List Med), ys = [.list 9 ls.length (textsD ls), .int .i64 (0 : Nat), .int .i64 (out.length : Nat), .int .i64 i, .list 25 0 (offD out)] ∧ i ≤ ls.length ∧ rdLs (ls.take i) = some out ∧ i ≤ 4, fun h ys => ls.length - (selI ys 3).toNat, ?_, ?_⟩
  · rw [t_srof]
    simp only [F_srof_swords, F_srof_sread, F_srof_sway, F_srof_smed, s_swords, s_sread, s_sway, s_smed, Tree.holds, ltI_t, ltI_f, leI_t, leI_f, all_cons, all_nil, and_true, true_and, forall_eq, decide_eq_true_eq, decide_eq_false_iff_not, beq_iff_eq, beq_eq_false_iff_ne, bne_iff_ne, bne_eq_false_iff_eq, ne_eq, Decidable.not_not, selI_z, selB_z, selS_z, selN_z, selL_z, selI_s, selB_s, selS_s, selN_s, selL_s, Int.toNat_natCast, Nat.mul_one, Nat.zero_add, Nat.div_one, List.drop_zero, Nat.zero_mul, Nat.le_refl, Bool.not_eq_true', Bool.not_eq_false', Bool.false_eq_true, Bool.true_eq_false, not_true_eq_false, not_false_eq_true, false_imp_iff, true_imp_iff, if_true, if_false, sig, sigF, sigW, sigR, sigO]
    exact ⟨0, [], rfl, by omega, rfl, by omega⟩
  · rintro h ys ⟨rfl, i, out, rfl, hi, hr, h4⟩
    have hol : out.length = i := by rw [rdLs_len hr, List.length_take]; omega
    have oz : (offD out).length = i * 5 := by rw [offD_len, hol]
    have otk : List.take (out.length * 5) (offD out) = offD out := List.take_of_length_le (by rw [oz, hol]; omega)
    rw [t_srof0]
    simp only [F_srof_swords, F_srof_sread, F_srof_sway, F_srof_smed, s_swords, s_sread, s_sway, s_smed, Tree.holds, ltI_t, ltI_f, leI_t, leI_f, all_cons, all_nil, and_true, true_and, forall_eq, decide_eq_true_eq, decide_eq_false_iff_not, beq_iff_eq, beq_eq_false_iff_ne, bne_iff_ne, bne_eq_false_iff_eq, ne_eq, Decidable.not_not, selI_z, selB_z, selS_z, selN_z, selL_z, selI_s, selB_s, selS_s, selN_s, selL_s, Int.toNat_natCast, Nat.mul_one, Nat.zero_add, Nat.div_one, List.drop_zero, Nat.zero_mul, Nat.le_refl, Bool.not_eq_true', Bool.not_eq_false', Bool.false_eq_true, Bool.true_eq_false, not_true_eq_false, not_false_eq_true, false_imp_iff, true_imp_iff, if_true, if_false, sig, sigF, sigW, sigR, sigO, sel_kstr, sel_kint, unS_texts, ByteArray.toList_eq, otk]
    refine ⟨fun hj => ?_, fun hj => ?_⟩
    · obtain ⟨s, x1, x2, x3⟩ := textsD_get (ls := ls) (i := i) (by omega)
      rw [selS_of x2]
      have hsz := hs s x3
      obtain ⟨wl, wsz⟩ := words_len s
      refine ⟨⟨by omega, by omega⟩, x2, hsz, fun hlt => ?_, fun hge => ⟨fun h4' => ?_, fun h4' => ?_⟩⟩
      · rw [rdOf_no x3 ?_]
        · rfl
        · match hw : wordsS s with
          | [] => rfl
          | [_] => rfl
          | [_, _] => rfl
          | [_, _, _] => rfl
          | _ :: _ :: _ :: _ :: _ => rw [hw] at hlt; simp at hlt; omega
      · unfold rdOf
        rw [if_neg (by omega)]
        rfl
      · obtain ⟨k, p, w, c, cs, hw⟩ : ∃ k p w c cs, wordsS s = k :: p :: w :: c :: cs := by
          match hw : wordsS s with
          | [] => rw [hw] at hge; simp at hge
          | [_] => rw [hw] at hge; simp at hge
          | [_, _] => rw [hw] at hge; simp at hge
          | [_, _, _] => rw [hw] at hge; simp at hge
          | k :: p :: w :: c :: cs => exact ⟨k, p, w, c, cs, rfl⟩
        rw [hw] at wl wsz ⊢
        have y0 : (textsD (k :: p :: w :: c :: cs))[0]? = some (.str k) := rfl
        have y1 : (textsD (k :: p :: w :: c :: cs))[1]? = some (.str p) := rfl
        have y2 : (textsD (k :: p :: w :: c :: cs))[2]? = some (.str w) := rfl
        rw [selS_of y0, selS_of y1, selS_of y2]
        have hn : (((k :: p :: w :: c :: cs).length : Nat) : Int) = cs.length + 4 := by simp only [List.length_cons]; omega
        have hn2 : ((cs.length : Int) + 4 - 3).toNat = cs.length + 1 := by omega
        have hd : List.take (cs.length + 1) (List.drop 3 (textsD (k :: p :: w :: c :: cs))) = textsD (c :: cs) := by
          show List.take (cs.length + 1) (textsD (c :: cs)) = _
          exact List.take_of_length_le (by rw [textsD_len]; simp)
        have hd2 : List.take (cs.length + 1) (textsD (c :: cs)) = textsD (c :: cs) := List.take_of_length_le (by rw [textsD_len]; simp)
        have hu : ∀ S H : Bool, unM [.str k, .int .i64 (readN p.data.toList), .bool S, .bool H, .list 9 (cs.length + 1) (textsD (c :: cs))] = ⟨k, readN p.data.toList, S, H, c :: cs⟩ := fun S H => unM_med ⟨k, readN p.data.toList, S, H, c :: cs⟩
        have z0 := wsz k (by simp)
        have z1 := wsz p (by simp)
        have zl : (textsD (k :: p :: w :: c :: cs)).length = cs.length + 4 := by rw [textsD_len]; simp
        have zl2 : (textsD (c :: cs)).length = cs.length + 1 := by rw [textsD_len]; simp
        simp only [List.length_cons] at wl
        have tail : ∀ S H : Bool, rdW (wordsS s) = (if (wayS S H).data.toList = w.data.toList ∧ medB ⟨k, readN p.data.toList, S, H, c :: cs⟩ = true then some ⟨k, readN p.data.toList, S, H, c :: cs⟩ else none) →
            (¬(wayS S H).data.toList = w.data.toList → [D.list 25 0 [], .bool false] = rdRes (rdOf ls)) ∧
            ((wayS S H).data.toList = w.data.toList → cs.length + 1 ≤ (textsD (c :: cs)).length ∧
              (∃ m, [D.str k, .int .i64 (readN p.data.toList), .bool S, .bool H, .list 9 (cs.length + 1) (textsD (c :: cs))] = medD m ∧ smM m) ∧
              (medB ⟨k, readN p.data.toList, S, H, c :: cs⟩ = false → [D.list 25 0 [], .bool false] = rdRes (rdOf ls)) ∧
              (medB ⟨k, readN p.data.toList, S, H, c :: cs⟩ = true → (cs.length + 1 ≤ (textsD (c :: cs)).length ∧ out.length * 5 ≤ (offD out).length ∧ out.length + 1 ≤ 1048576) ∧ inK .i64 ((i : Int) + 1) ∧
                (∃ (i_1 : Nat) (out_1 : List Med), [D.list 9 ls.length (textsD ls), .int .i64 (0 : Nat), .int .i64 ((out.length + 1 : Nat) : Int), .int .i64 ((i : Int) + 1), .list 25 0 (offD out ++ [.str k, .int .i64 (readN p.data.toList), .bool S, .bool H, .list 9 (cs.length + 1) (textsD (c :: cs))])] = [.list 9 ls.length (textsD ls), .int .i64 (0 : Nat), .int .i64 (out_1.length : Nat), .int .i64 i_1, .list 25 0 (offD out_1)] ∧ i_1 ≤ ls.length ∧ rdLs (ls.take i_1) = some out_1 ∧ i_1 ≤ 4) ∧ ls.length - ((i : Int) + 1).toNat < ls.length - i)) := by
          intro S H hW
          refine ⟨fun hne => ?_, fun he => ⟨by omega, ⟨⟨k, readN p.data.toList, S, H, c :: cs⟩, rfl, (by show k.size ≤ _; omega), (by show (c :: cs).length ≤ _; simp only [List.length_cons]; omega), fun x hx => ?_⟩, fun hb => ?_, fun hb => ⟨⟨by omega, by omega, by omega⟩, by unfold inK; omega, ⟨i + 1, out ++ [⟨k, readN p.data.toList, S, H, c :: cs⟩], ?_, by omega, ?_, by omega⟩, by omega⟩⟩⟩
          · rw [rdOf_no x3 (by rw [hW, if_neg (fun h => hne h.1)])]; rfl
          · have hx' : x ∈ c :: cs := hx
            have := wsz x (List.mem_cons_of_mem _ (List.mem_cons_of_mem _ (List.mem_cons_of_mem _ hx')))
            omega
          · rw [rdOf_no x3 (by rw [hW, if_neg (fun h => by rw [hb] at h; cases h.2)])]; rfl
          · have e1 : offD (out ++ [⟨k, readN p.data.toList, S, H, c :: cs⟩]) = offD out ++ [.str k, .int .i64 (readN p.data.toList), .bool S, .bool H, .list 9 (cs.length + 1) (textsD (c :: cs))] := by
              unfold offD; rw [flatD_append, flatD_one]; rfl
            rw [e1, List.length_append]
            rfl
          · rw [List.take_add_one, x1]
            show rdLs (ls.take i ++ [s]) = _
            rw [rdLs_snoc, hr, hW, if_pos ⟨he, hb⟩]
        simp only [hn, Option.getD_some, Option.getD_none, show ((3 : Int)).toNat = 3 from rfl, hn2, List.take_nil, List.drop_nil, List.nil_append, List.take_zero, hd, Nat.zero_add, hd2, hu]
        have hW0 : rdW (wordsS s) = rdW (k :: p :: w :: c :: cs) := by rw [hw]
        unfold rdW at hW0
        refine ⟨⟨by omega, by omega⟩, y0, ⟨by omega, by omega⟩, y1, ⟨by omega, by omega⟩, y2, ⟨by omega, by omega⟩, y2, ⟨by omega, by omega, by omega⟩, by unfold maxLen; omega, fun b1 => ⟨fun b2 => ?_, fun b2 => absurd b1 b2⟩, fun b1 => ?_⟩
        · simp only [b1, beq_self_eq_true, Bool.true_or] at hW0
          refine ⟨⟨by omega, by omega⟩, ⟨by omega, by omega⟩, y2, by omega, ?_⟩
          exact tail true true (by rw [b1]; exact hW0)
        · have hf : (w.data.toList == [98, 111, 116, 104]) = false := by simpa using b1
          simp only [hf, Bool.false_or] at hW0
          refine ⟨⟨by omega, by omega⟩, y2, fun b2 => absurd b2 b1, fun b2 => ⟨⟨by omega, by omega⟩, y2, ⟨by omega, by omega⟩, ⟨by omega, by omega⟩, y2, by omega, ?_⟩⟩
          exact tail _ _ hW0
    · obtain rfl : i = ls.length := by omega
      rw [List.take_of_length_le (Nat.le_refl _)] at hr
      refine ⟨by omega, ?_⟩
      unfold rdOf
      rw [if_pos h4, hr]
      rfl
end Go.Proofs.Ytgoheolehnahkaa.Mini
end
section
/- Chapter 9: offers: lines and what they are read as. -/
namespace Go.Proofs.Ytgoheolehnahkaa.Mini
open Go Go.RowKit
set_option linter.unusedVariables false
set_option linter.unusedSimpArgs false
set_option maxRecDepth 20000
def flatW (cs : List (List UInt8)) : List UInt8 := cs.flatMap fun c => 32 :: c
theorem wordsL_flat : ∀ (cs : List (List UInt8)) (a : List UInt8), (∀ c ∈ a, c ≠ 32) → (∀ x ∈ cs, ∀ c ∈ x, c ≠ 32) → wordsL (a ++ flatW cs) = a :: cs
  | [], a, ha, _ => by
    show wordsL (a ++ []) = [a]
    rw [List.append_nil, wordsL_plain ha]
  | b :: cs, a, ha, hc => by
    show wordsL (a ++ 32 :: (b ++ flatW cs)) = _
    rw [wordsL_cut ha, wordsL_flat cs b (hc b (by simp)) (fun x hx => hc x (by simp [hx]))]
theorem joinS_list : ∀ (cs : List ByteArray) (a : ByteArray), (joinS cs a).data.toList = a.data.toList ++ flatW (cs.map fun c => c.data.toList)
  | [], a => by show a.data.toList = a.data.toList ++ []; rw [List.append_nil]
  | c :: cs, a => by
    show (joinS cs (a ++ " ".toUTF8 ++ c)).data.toList = _
    rw [joinS_list cs, cat_list, cat_list]
    show a.data.toList ++ [32] ++ c.data.toList ++ flatW _ = a.data.toList ++ (32 :: c.data.toList ++ flatW _)
    simp
theorem line_list (m : Med) : (lineM m).data.toList = m.k.data.toList ++ flatW ((textS m.p).data.toList :: (wayS m.s m.h).data.toList :: m.c.map fun c => c.data.toList) := by
  unfold lineM
  rw [joinS_list, cat_list, cat_list, cat_list, cat_list]
  show m.k.data.toList ++ [32] ++ (textS m.p).data.toList ++ [32] ++ (wayS m.s m.h).data.toList ++ flatW _ = m.k.data.toList ++ (32 :: (textS m.p).data.toList ++ (32 :: (wayS m.s m.h).data.toList ++ flatW _))
  simp
theorem ld_ne {c : UInt8} (h : isLd c = true) : c ≠ 32 := by
  intro e; subst e; cases h
theorem word_ne {s : ByteArray} (h : wordS s = true) : ∀ c ∈ s.data.toList, c ≠ 32 := by
  unfold wordS wordB at h
  simp only [Bool.and_eq_true, List.all_eq_true] at h
  exact fun c hc => ld_ne (h.2 c hc)
theorem num_ne (n : Nat) : ∀ c ∈ numT n, c ≠ 32 := by
  have := numT_all n
  rw [List.all_eq_true] at this
  intro c hc
  have h := this c hc
  intro e; subst e; cases h
theorem way_ne (s h : Bool) : ∀ c ∈ (wayS s h).data.toList, c ≠ 32 := by cases s <;> cases h <;> decide
theorem bytesOf_list (s : ByteArray) : bytesOf s.data.toList = s := rfl
theorem way_reads (s h : Bool) : ((wayS s h).data.toList == [98, 111, 116, 104] || (wayS s h).data.toList == [115, 101, 110, 100]) = s ∧ ((wayS s h).data.toList == [98, 111, 116, 104] || (wayS s h).data.toList == [104, 101, 97, 114]) = h := by cases s <;> cases h <;> decide
theorem med_parts {m : Med} (h : medB m = true) : (∀ x ∈ m.c, wordS x = true) ∧ distB m.c = true ∧ wordS m.k = true ∧ 0 ≤ m.p ∧ m.p ≤ 65535 ∧ 1 ≤ m.c.length ∧ m.c.length ≤ 4 := by
  unfold medB at h
  simp only [Bool.and_eq_true, List.all_eq_true, inB_iff] at h
  exact ⟨h.1.1, h.1.2, h.2.1, h.2.2.1.1, h.2.2.1.2, by omega, by omega⟩
theorem words_line {m : Med} (h : medB m = true) : wordsS (lineM m) = m.k :: textS m.p :: wayS m.s m.h :: m.c := by
  obtain ⟨h1, h2, h3, h4, h5, h6, h7⟩ := med_parts h
  unfold wordsS
  rw [line_list, wordsL_flat _ _ (word_ne h3) (fun x hx => ?_)]
  · simp only [List.map_cons, List.map_map, bytesOf_list]
    have e : m.c.map (bytesOf ∘ fun c => c.data.toList) = m.c := by
      conv => rhs; rw [← List.map_id m.c]
      rfl
    rw [e]
  · rcases List.mem_cons.mp hx with rfl | hx
    · rw [textS_yes h4 (by omega)]; exact num_ne _
    · rcases List.mem_cons.mp hx with rfl | hx
      · exact way_ne _ _
      · obtain ⟨c, hc, rfl⟩ := List.mem_map.mp hx
        exact word_ne (h1 c hc)
theorem rdW_line {m : Med} (h : medB m = true) : rdW (wordsS (lineM m)) = some m := by
  obtain ⟨h1, h2, h3, h4, h5, h6, h7⟩ := med_parts h
  rw [words_line h]
  obtain ⟨k, p, s, hh, cs⟩ := m
  cases cs with
  | nil => simp at h6
  | cons c cs =>
    unfold rdW
    simp only
    obtain ⟨w1, w2⟩ := way_reads s hh
    have e : readN (textS p).data.toList = p := by
      have h4 : 0 ≤ p := h4
      have h5 : p ≤ 65535 := h5
      rw [textS_yes h4 (by omega)]
      show readN (numT p.toNat) = p
      rw [readN_numT _ (by omega)]
      omega
    rw [w1, w2, e, if_pos ⟨rfl, h⟩]
theorem rdLs_lines : ∀ {l : List Med}, (∀ m ∈ l, medB m = true) → rdLs (l.map lineM) = some l
  | [], _ => rfl
  | m :: l, h => by
    show (match rdW (wordsS (lineM m)), rdLs (l.map lineM) with | some m, some l => some (m :: l) | _, _ => none) = _
    rw [rdW_line (h m (by simp)), rdLs_lines (fun x hx => h x (by simp [hx]))]
theorem off_parts {l : List Med} (h : offB l = true) : (∀ m ∈ l, medB m = true) ∧ l.length ≤ 4 := by
  unfold offB at h
  simp only [Bool.and_eq_true, List.all_eq_true, decide_eq_true_eq] at h
  exact h
/-- Lines of offers can be read. -/
theorem rdOf_lines {l : List Med} (h : offB l = true) : rdOf (linesO l) = some l := by
  obtain ⟨h1, h2⟩ := off_parts h
  unfold linesO
  rw [h]
  unfold rdOf
  simp only [if_true, List.length_map]
  rw [if_pos h2, rdLs_lines h1]
theorem wordsL_join : ∀ (l : List UInt8) (a : List UInt8) (r : List (List UInt8)), wordsL l = a :: r → l = a ++ flatW r
  | [], a, r, h => by
    have h' : [[]] = a :: r := h
    injection h' with h1 h2
    subst h1; subst h2; rfl
  | c :: l, a, r, h => by
    unfold wordsL at h
    obtain ⟨a', r', e⟩ : ∃ a' r', wordsL l = a' :: r' := by
      cases hw : wordsL l with
      | nil => exact absurd hw (wordsL_ne l)
      | cons a' r' => exact ⟨a', r', rfl⟩
    have ih := wordsL_join l a' r' e
    split at h
    · rename_i hc
      injection h with h1 h2
      subst h1
      rw [← h2, e, hc, ih]
      simp [flatW]
    · rw [e] at h
      injection h with h1 h2
      rw [← h1, ← h2, ih]
      rfl
theorem text_eq {a b : ByteArray} (h : a.data.toList = b.data.toList) : a = b := ByteArray.ext (Array.ext' h)
theorem rdW_of {s : ByteArray} {m : Med} (h : rdW (wordsS s) = some m) : lineM m = s ∧ medB m = true := by
  unfold wordsS at h
  cases hw : wordsL s.data.toList with
  | nil => exact absurd hw (wordsL_ne _)
  | cons w0 ws =>
    rw [hw] at h
    match ws, hw, h with
    | [], _, h => cases h
    | [_], _, h => cases h
    | [_, _], _, h => cases h
    | w1 :: w2 :: w3 :: wr, hw, h =>
      unfold rdW at h
      simp only [List.map_cons] at h
      split at h <;> try (cases h; done)
      rename_i hc
      injection h with h
      obtain ⟨c1, c2⟩ := hc
      refine ⟨text_eq ?_, by rw [← h]; exact c2⟩
      rw [line_list, wordsL_join _ _ _ hw, ← h]
      simp only at c1 ⊢
      obtain ⟨_, _, _, h4, h5, _⟩ := med_parts c2
      have h4 : 0 ≤ readN (bytesOf w1).data.toList := h4
      have e1 : (textS (readN (bytesOf w1).data.toList)).data.toList = w1 := textN_readN w1 h4
      rw [e1, c1]
      show w0 ++ flatW (w1 :: w2 :: w3 :: (List.map bytesOf wr).map fun c => c.data.toList) = w0 ++ flatW (w1 :: w2 :: w3 :: wr)
      rw [List.map_map]
      have e2 : wr.map ((fun c : ByteArray => c.data.toList) ∘ bytesOf) = wr := by
        conv => rhs; rw [← List.map_id wr]
        rfl
      rw [e2]
theorem rdLs_of : ∀ {ls : List ByteArray} {l : List Med}, rdLs ls = some l → l.map lineM = ls ∧ ∀ m ∈ l, medB m = true
  | [], l, h => by injection h with h; subst h; exact ⟨rfl, fun m hm => by simp at hm⟩
  | s :: r, l, h => by
    unfold rdLs at h
    split at h <;> try (cases h; done)
    rename_i m l' h1 h2
    injection h with h; subst h
    obtain ⟨g1, g2⟩ := rdLs_of h2
    obtain ⟨g3, g4⟩ := rdW_of h1
    refine ⟨by rw [List.map_cons, g1, g3], fun x hx => ?_⟩
    rcases List.mem_cons.mp hx with rfl | hx
    · exact g4
    · exact g2 x hx
/-- Accepted offers are canonical. -/
theorem lines_rdOf {ls : List ByteArray} {l : List Med} (h : rdOf ls = some l) : offB l = true ∧ linesO l = ls := by
  unfold rdOf at h
  split at h <;> try (cases h; done)
  rename_i h4
  obtain ⟨g1, g2⟩ := rdLs_of h
  have h3 : offB l = true := by
    unfold offB
    rw [Bool.and_eq_true, List.all_eq_true]
    exact ⟨g2, by rw [decide_eq_true_eq, rdLs_len h]; exact h4⟩
  refine ⟨h3, ?_⟩
  unfold linesO
  rw [h3]
  exact g1
theorem offD_push (l : List Med) (m : Med) : offD (l ++ [m]) = offD l ++ medD m := by unfold offD; rw [flatD_append, flatD_one]
theorem offD_take (l : List Med) : List.take (l.length * 5) (offD l) = offD l := List.take_of_length_le (by rw [offD_len]; omega)
theorem linesO_size (l : List Med) : ∀ s ∈ linesO l, s.size ≤ 68 := by
  intro s hs
  unfold linesO at hs
  split at hs
  · rename_i ho
    obtain ⟨m, hm, rfl⟩ := List.mem_map.mp hs
    have hb := (off_parts ho).1 m hm
    have h1 := lineK_size hb m.c.length (Nat.le_refl _)
    rw [lineK_all] at h1
    have h2 := (med_parts hb).2.2.2.2.2.2
    omega
  · simp at hs
theorem linesO_len (l : List Med) : (linesO l).length ≤ 4 := by
  unfold linesO
  split
  · rename_i ho
    rw [List.length_map]
    exact (off_parts ho).2
  · simp
end Go.Proofs.Ytgoheolehnahkaa.Mini
end
