/- Parts of the proof in one text: IOff, IOffP, OffE, OffEP. -/
import Derived.Test.YtgoheolehnahkaaHa
import Derived.Test.YtgoheolehnahkaaHelp
section
namespace Go.Proofs.Ytgoheolehnahkaa.Mini
open Go Go.RowKit
set_option linter.unusedVariables false
set_option linter.unusedSimpArgs false
set_option maxRecDepth 20000
def hasB (ls : List ByteArray) (s : ByteArray) : Bool := ls.any fun x => x.data.toList == s.data.toList
def codB (ls : List ByteArray) : Bool := (ls.all wordS && distB ls) && inB ls.length 1 4
def rdWay (w : ByteArray) : List D :=
  if w.data.toList = [98, 111, 116, 104] then [.bool true, .bool true, .bool true] else if w.data.toList = [115, 101, 110, 100] then [.bool true, .bool false, .bool true]
  else if w.data.toList = [104, 101, 97, 114] then [.bool false, .bool true, .bool true] else if w.data.toList = [110, 111, 110, 101] then [.bool false, .bool false, .bool true] else [.bool false, .bool false, .bool false]
def plI (s : ByteArray) : Int := if spL s.data.toList < s.size then (spL s.data.toList : Int) else -1
def cutD (s : ByteArray) : List D := if (wordsS s).length ≤ 7 then [.list 9 (wordsS s).length (textsD (wordsS s))] else [.list 9 0 []]
def zeroM : List D := [.str ⟨#[]⟩, .int .i64 0, .bool false, .bool false, .list 9 0 []]
def rdMed : Option Med → List D
  | some m => medD m ++ [.bool true]
  | none => zeroM ++ [.bool false]
noncomputable def s_iplace : Sig := sig Try.f64 (fun xs => (selS xs 0).size ≤ maxLen ∧ selI xs 1 = 32) (fun xs ys => ys = [.int .i64 (plI (selS xs 0))])
noncomputable def s_icut : Sig := sig Try.f60 (fun xs => (selS xs 0).size ≤ 1048575 ∧ selI xs 1 = 7) (fun xs ys => ys = cutD (selS xs 0))
noncomputable def s_iway : Sig := sig Try.f59 (fun xs => True) (fun xs ys => ys = [.str (wayS (selB xs 0) (selB xs 1))])
noncomputable def s_irway : Sig := sig Try.f61 (fun xs => True) (fun xs ys => ys = rdWay (selS xs 0))
noncomputable def s_ihas : Sig := sig Try.f57 (fun xs => ∃ (ls : List ByteArray) (s : ByteArray), xs = [.list 9 ls.length (textsD ls), .str s] ∧ ls.length ≤ 1048576 ∧ ∀ x ∈ ls, x.size ≤ 1048576) (fun xs ys => ys = [.bool (hasB (unS (selL xs 0)) (selS xs 1))])
noncomputable def s_icod : Sig := sig Try.f42 (fun xs => ∃ (ls : List ByteArray), xs = [.list 9 ls.length (textsD ls)] ∧ ls.length ≤ 1048576 ∧ ∀ x ∈ ls, x.size ≤ 1048576) (fun xs ys => ys = [.bool (codB (unS (selL xs 0)))])
noncomputable def s_imed : Sig := sig Try.f12 (fun xs => ∃ m : Med, xs = medD m ∧ smM m) (fun xs ys => ys = [.bool (medB (unM xs))])
noncomputable def s_ioff : Sig := sig Try.f19 (fun xs => ∃ l : List Med, xs = [.list 25 l.length (offD l)] ∧ l.length ≤ 1048576 ∧ ∀ m ∈ l, smM m) (fun xs ys => ys = [.bool (offB (unO (selL xs 0)))])
noncomputable def s_iml : Sig := sig Try.f46 (fun xs => ∃ m : Med, xs = medD m ∧ medB m = true) (fun xs ys => ys = [.str (lineM (unM xs))])
noncomputable def s_iol : Sig := sig Try.f25 (fun xs => ∃ l : List Med, xs = [.list 25 l.length (offD l)] ∧ l.length ≤ 1048576 ∧ ∀ m ∈ l, smM m) (fun xs ys => ys = [.list 9 (linesO (unO (selL xs 0))).length (textsD (linesO (unO (selL xs 0))))])
noncomputable def s_irm : Sig := sigF Try.f49 (fun xs => (selS xs 0).size ≤ 1048575) (fun xs ys => ys = rdMed (rdW (wordsS (selS xs 0))))
noncomputable def s_iro : Sig := sigF Try.f28 (fun xs => ∃ ls : List ByteArray, xs = [.list 9 ls.length (textsD ls)] ∧ ls.length ≤ 1048576 ∧ ∀ s ∈ ls, s.size ≤ 1048575) (fun xs ys => ys = rdRes (rdOf (unS (selL xs 0))))
noncomputable def F_iplace : Tb := tab []
noncomputable def hs_iplace : Hds := [([false, true, false, true], shapeW Try.f64 0 [(0, .one (.kd .str)), (1, .one (.kd (.int .u8))), (5, .one (.kd (.int .i64)))] [])]
set_option maxHeartbeats 4000000 in
theorem t_iplace (a0 : ByteArray) (a1 : Int) : fnT' Try.prog F_iplace hs_iplace .own Try.f64 [.str a0, .int IntKind.u8 a1] = (Tree.goto 0 [(D.str a0), (D.int .u8 a1), (D.int .i64 (0 : Int))]) := by kernel_rfl
set_option maxHeartbeats 4000000 in
theorem t_iplace0 (x0 : ByteArray) (x1 : Int) (x5 : Int) : plT' Try.prog F_iplace hs_iplace .own Try.f64 0 [.str x0, .int .u8 x1, .int .i64 x5] = (Tree.ite (ltI x5 (Nat.cast (ByteArray.size x0) : Int)) (Tree.need (all_ [(((0 : Int) ≤ x5) ∧ (x5 < (Nat.cast (ByteArray.size x0) : Int)))]) (Tree.ite ((byteI x0 (Int.toNat x5)) == x1) (Tree.ret [(D.int .i64 x5)]) (Tree.need (all_ [(inK .i64 (x5 + (1 : Int)))]) (Tree.goto 0 [(D.str x0), (D.int .u8 x1), (D.int .i64 (x5 + (1 : Int)))])))) (Tree.ret [(D.int .i64 (-(1 : Int)))])) := by kernel_rfl
noncomputable def F_icut : Tb := tab [(64, s_iplace)]
theorem F_icut_iplace : F_icut 64 = some s_iplace := rfl
noncomputable def hs_icut : Hds := [([false, false, true, true, true], shapeW Try.f60 0 [(1, .one (.kd (.int .i64))), (5, .one (.sl 9 0)), (6, .one (.kd .str))] [.sym 9])]
set_option maxHeartbeats 4000000 in
theorem t_icut (a0 : ByteArray) (a1 : Int) : fnT' Try.prog F_icut hs_icut .own Try.f60 [.str a0, .int IntKind.i64 a1] = (Tree.goto 0 [(D.int .i64 a1), (D.int .i64 (0 : Int)), (D.int .i64 (0 : Int)), (D.str a0), (D.list 9 (0 : Nat) [])]) := by kernel_rfl
set_option maxHeartbeats 4000000 in
theorem t_icut0 (x1 : Int) (x5o x5n : Nat) (x6 : ByteArray) (r0 : List D) : plT' Try.prog F_icut hs_icut .own Try.f60 0 [.int .i64 x1, .int .i64 (x5o : Nat), .int .i64 (x5n : Nat), .str x6, .list 9 0 r0] = (Tree.ite (ltI (Nat.cast x5n : Int) x1) (Tree.call 64 [(D.str x6), (D.int .u8 (32 : Int))] (fun y198 => (Tree.ite (ltI (selI y198 0) (0 : Int)) (Tree.need (all_ [((((0 : Nat) + (1 : Nat)) * (1 : Nat)) ≤ (1 : Nat)), (((x5o + x5n) * (1 : Nat)) ≤ (List.length r0)), ((x5n + (1 : Nat)) ≤ (1048576 : Nat))]) (Tree.need (all_ [((((0 : Nat) + (x5n + (1 : Nat))) * (1 : Nat)) ≤ (List.length ((List.take (x5n * (1 : Nat)) (List.drop (x5o * (1 : Nat)) r0)) ++ [(D.str x6)]))), (scal (List.take ((x5n + (1 : Nat)) * (1 : Nat)) (List.drop ((0 : Nat) * (1 : Nat)) ((List.take (x5n * (1 : Nat)) (List.drop (x5o * (1 : Nat)) r0)) ++ [(D.str x6)]))))]) (Tree.ret [(D.list 9 (x5n + (1 : Nat)) (List.take ((x5n + (1 : Nat)) * (1 : Nat)) (List.drop ((0 : Nat) * (1 : Nat)) ((List.take (x5n * (1 : Nat)) (List.drop (x5o * (1 : Nat)) r0)) ++ [(D.str x6)]))))]))) (Tree.need (all_ [(((0 : Int) ≤ (Option.getD (Option.none) (0 : Int))) ∧ (((Option.getD (Option.none) (0 : Int)) ≤ (Option.getD (Option.some (selI y198 0)) (Nat.cast (ByteArray.size x6) : Int))) ∧ ((Option.getD (Option.some (selI y198 0)) (Nat.cast (ByteArray.size x6) : Int)) ≤ (Nat.cast (ByteArray.size x6) : Int))))]) (Tree.need (all_ [((((0 : Nat) + (1 : Nat)) * (1 : Nat)) ≤ (1 : Nat)), (((x5o + x5n) * (1 : Nat)) ≤ (List.length r0)), ((x5n + (1 : Nat)) ≤ (1048576 : Nat))]) (Tree.need (all_ [(inK .i64 ((selI y198 0) + (1 : Int)))]) (Tree.need (all_ [(((0 : Int) ≤ (Option.getD (Option.some ((selI y198 0) + (1 : Int))) (0 : Int))) ∧ (((Option.getD (Option.some ((selI y198 0) + (1 : Int))) (0 : Int)) ≤ (Option.getD (Option.none) (Nat.cast (ByteArray.size x6) : Int))) ∧ ((Option.getD (Option.none) (Nat.cast (ByteArray.size x6) : Int)) ≤ (Nat.cast (ByteArray.size x6) : Int))))]) (Tree.goto 0 [(D.int .i64 x1), (D.int .i64 (Nat.cast (0 : Nat) : Int)), (D.int .i64 (Nat.cast (x5n + (1 : Nat)) : Int)), (D.str (ByteArray.extract x6 (Int.toNat (Option.getD (Option.some ((selI y198 0) + (1 : Int))) (0 : Int))) (Int.toNat (Option.getD (Option.none) (Nat.cast (ByteArray.size x6) : Int))))), (D.list 9 (0 : Nat) ((List.take (x5n * (1 : Nat)) (List.drop (x5o * (1 : Nat)) r0)) ++ [(D.str (ByteArray.extract x6 (Int.toNat (Option.getD (Option.none) (0 : Int))) (Int.toNat (Option.getD (Option.some (selI y198 0)) (Nat.cast (ByteArray.size x6) : Int)))))]))])))))))) (Tree.ret [(D.list 9 (0 : Nat) [])])) := by kernel_rfl
noncomputable def F_iway : Tb := tab []
noncomputable def hs_iway : Hds := []
set_option maxHeartbeats 4000000 in
theorem t_iway (a0 : Bool) (a1 : Bool) : fnT' Try.prog F_iway hs_iway .own Try.f59 [.bool a0, .bool a1] = (Tree.ite a0 (Tree.ite a1 (Tree.ret [(D.str (ByteArray.mk (List.toArray [(98 : UInt8), (111 : UInt8), (116 : UInt8), (104 : UInt8)])))]) (Tree.ite a0 (Tree.ret [(D.str (ByteArray.mk (List.toArray [(115 : UInt8), (101 : UInt8), (110 : UInt8), (100 : UInt8)])))]) (Tree.ite a1 (Tree.ret [(D.str (ByteArray.mk (List.toArray [(104 : UInt8), (101 : UInt8), (97 : UInt8), (114 : UInt8)])))]) (Tree.ret [(D.str (ByteArray.mk (List.toArray [(110 : UInt8), (111 : UInt8), (110 : UInt8), (101 : UInt8)])))])))) (Tree.ite a0 (Tree.ret [(D.str (ByteArray.mk (List.toArray [(115 : UInt8), (101 : UInt8), (110 : UInt8), (100 : UInt8)])))]) (Tree.ite a1 (Tree.ret [(D.str (ByteArray.mk (List.toArray [(104 : UInt8), (101 : UInt8), (97 : UInt8), (114 : UInt8)])))]) (Tree.ret [(D.str (ByteArray.mk (List.toArray [(110 : UInt8), (111 : UInt8), (110 : UInt8), (101 : UInt8)])))])))) := by kernel_rfl
noncomputable def F_irway : Tb := tab []
noncomputable def hs_irway : Hds := []
set_option maxHeartbeats 4000000 in
theorem t_irway (a0 : ByteArray) : fnT' Try.prog F_irway hs_irway .own Try.f61 [.str a0] = (Tree.ite ((ByteArray.toList a0) == (ByteArray.toList (ByteArray.mk (List.toArray [(98 : UInt8), (111 : UInt8), (116 : UInt8), (104 : UInt8)])))) (Tree.ret [(D.bool true), (D.bool true), (D.bool true)]) (Tree.ite ((ByteArray.toList a0) == (ByteArray.toList (ByteArray.mk (List.toArray [(115 : UInt8), (101 : UInt8), (110 : UInt8), (100 : UInt8)])))) (Tree.ret [(D.bool true), (D.bool false), (D.bool true)]) (Tree.ite ((ByteArray.toList a0) == (ByteArray.toList (ByteArray.mk (List.toArray [(104 : UInt8), (101 : UInt8), (97 : UInt8), (114 : UInt8)])))) (Tree.ret [(D.bool false), (D.bool true), (D.bool true)]) (Tree.ite ((ByteArray.toList a0) == (ByteArray.toList (ByteArray.mk (List.toArray [(110 : UInt8), (111 : UInt8), (110 : UInt8), (101 : UInt8)])))) (Tree.ret [(D.bool false), (D.bool false), (D.bool true)]) (Tree.ret [(D.bool false), (D.bool false), (D.bool false)]))))) := by kernel_rfl
noncomputable def F_ihas : Tb := tab []
noncomputable def hs_ihas : Hds := [([false, true, false, true], shapeW Try.f57 0 [(0, .one (.kd (.list 9))), (1, .one (.kd .str)), (5, .one (.kd (.int .i64)))] [])]
set_option maxHeartbeats 4000000 in
theorem t_ihas (a0n : Nat) (a0 : List D) (a1 : ByteArray) : fnT' Try.prog F_ihas hs_ihas .own Try.f57 [.list 9 a0n a0, .str a1] = (Tree.goto 0 [(D.list 9 a0n a0), (D.str a1), (D.int .i64 (0 : Int))]) := by kernel_rfl
set_option maxHeartbeats 4000000 in
theorem t_ihas0 (x0n : Nat) (x0 : List D) (x1 : ByteArray) (x5 : Int) : plT' Try.prog F_ihas hs_ihas .own Try.f57 0 [.list 9 x0n x0, .str x1, .int .i64 x5] = (Tree.ite (ltI x5 (Nat.cast x0n : Int)) (Tree.need (all_ [(((0 : Int) ≤ x5) ∧ (x5 < (Nat.cast x0n : Int)))]) (Tree.need (all_ [((GetElem?.getElem? x0 ((Int.toNat x5) * (1 : Nat))) = (Option.some (sel x0 ((Int.toNat x5) * (1 : Nat)) Kd.str)))]) (Tree.ite ((ByteArray.toList (selS x0 ((Int.toNat x5) * (1 : Nat)))) == (ByteArray.toList x1)) (Tree.ret [(D.bool true)]) (Tree.need (all_ [(inK .i64 (x5 + (1 : Int)))]) (Tree.goto 0 [(D.list 9 x0n x0), (D.str x1), (D.int .i64 (x5 + (1 : Int)))]))))) (Tree.ret [(D.bool false)])) := by kernel_rfl
noncomputable def F_icod : Tb := tab [(41, s_iword), (57, s_ihas)]
theorem F_icod_iword : F_icod 41 = some s_iword := rfl
theorem F_icod_ihas : F_icod 57 = some s_ihas := rfl
noncomputable def hs_icod : Hds := [([false, true, false, true, true], shapeW Try.f42 0 [(0, .one (.kd (.list 9))), (3, .one (.kd (.int .i64)))] [])]
set_option maxHeartbeats 4000000 in
theorem t_icod (a0n : Nat) (a0 : List D) : fnT' Try.prog F_icod hs_icod .own Try.f42 [.list 9 a0n a0] = (Tree.ite (ltI (Nat.cast a0n : Int) (1 : Int)) (Tree.ret [(D.bool false)]) (Tree.ite (ltI (4 : Int) (Nat.cast a0n : Int)) (Tree.ret [(D.bool false)]) (Tree.goto 0 [(D.list 9 a0n a0), (D.int .i64 (0 : Int))]))) := by kernel_rfl
set_option maxHeartbeats 4000000 in
theorem t_icod0 (x0n : Nat) (x0 : List D) (x3 : Int) : plT' Try.prog F_icod hs_icod .own Try.f42 0 [.list 9 x0n x0, .int .i64 x3] = (Tree.ite (ltI x3 (Nat.cast x0n : Int)) (Tree.need (all_ [(((0 : Int) ≤ x3) ∧ (x3 < (Nat.cast x0n : Int)))]) (Tree.need (all_ [((GetElem?.getElem? x0 ((Int.toNat x3) * (1 : Nat))) = (Option.some (sel x0 ((Int.toNat x3) * (1 : Nat)) Kd.str)))]) (Tree.call 41 [(D.str (selS x0 ((Int.toNat x3) * (1 : Nat))))] (fun y196 => (Tree.ite (Bool.not (selB y196 0)) (Tree.ret [(D.bool false)]) (Tree.need (all_ [(((0 : Int) ≤ (Option.getD (Option.none) (0 : Int))) ∧ (((Option.getD (Option.none) (0 : Int)) ≤ (Option.getD (Option.some x3) (Nat.cast x0n : Int))) ∧ ((Option.getD (Option.some x3) (Nat.cast x0n : Int)) ≤ (Nat.cast x0n : Int))))]) (Tree.need (all_ [(((0 : Int) ≤ x3) ∧ (x3 < (Nat.cast x0n : Int)))]) (Tree.need (all_ [((GetElem?.getElem? x0 ((Int.toNat x3) * (1 : Nat))) = (Option.some (sel x0 ((Int.toNat x3) * (1 : Nat)) Kd.str)))]) (Tree.call 57 [(D.list 9 (Int.toNat ((Option.getD (Option.some x3) (Nat.cast x0n : Int)) - (Option.getD (Option.none) (0 : Int)))) (List.take ((Int.toNat ((Option.getD (Option.some x3) (Nat.cast x0n : Int)) - (Option.getD (Option.none) (0 : Int)))) * (1 : Nat)) (List.drop ((Int.toNat (Option.getD (Option.none) (0 : Int))) * (1 : Nat)) x0))), (D.str (selS x0 ((Int.toNat x3) * (1 : Nat))))] (fun y191 => (Tree.ite (selB y191 0) (Tree.ret [(D.bool false)]) (Tree.need (all_ [(inK .i64 (x3 + (1 : Int)))]) (Tree.goto 0 [(D.list 9 x0n x0), (D.int .i64 (x3 + (1 : Int)))]))))))))))))) (Tree.ret [(D.bool true)])) := by kernel_rfl
noncomputable def F_imed : Tb := tab [(41, s_iword), (42, s_icod)]
theorem F_imed_iword : F_imed 41 = some s_iword := rfl
theorem F_imed_icod : F_imed 42 = some s_icod := rfl
noncomputable def hs_imed : Hds := []
set_option maxHeartbeats 4000000 in
theorem t_imed (a0 : ByteArray) (a1 : Int) (a2 : Bool) (a3 : Bool) (a4n : Nat) (a4 : List D) : fnT' Try.prog F_imed hs_imed .own Try.f12 [.str a0, .int IntKind.i64 a1, .bool a2, .bool a3, .list 9 a4n a4] = (Tree.call 41 [(D.str a0)] (fun y199 => (Tree.ite (selB y199 0) (Tree.ite (leI (0 : Int) a1) (Tree.ite (leI a1 (65535 : Int)) (Tree.call 42 [(D.list 9 a4n a4)] (fun y195 => (Tree.ret [(D.bool (selB y195 0))]))) (Tree.ret [(D.bool false)])) (Tree.ret [(D.bool false)])) (Tree.ret [(D.bool false)])))) := by kernel_rfl
noncomputable def F_ioff : Tb := tab [(12, s_imed)]
theorem F_ioff_imed : F_ioff 12 = some s_imed := rfl
noncomputable def hs_ioff : Hds := [([false, true, false, true, true], shapeW Try.f19 0 [(0, .one (.kd (.list 25))), (3, .one (.kd (.int .i64)))] [])]
set_option maxHeartbeats 4000000 in
theorem t_ioff (a0n : Nat) (a0 : List D) : fnT' Try.prog F_ioff hs_ioff .own Try.f19 [.list 25 a0n a0] = (Tree.ite (ltI (4 : Int) (Nat.cast a0n : Int)) (Tree.ret [(D.bool false)]) (Tree.goto 0 [(D.list 25 a0n a0), (D.int .i64 (0 : Int))])) := by kernel_rfl
set_option maxHeartbeats 4000000 in
theorem t_ioff0 (x0n : Nat) (x0 : List D) (x3 : Int) : plT' Try.prog F_ioff hs_ioff .own Try.f19 0 [.list 25 x0n x0, .int .i64 x3] = (Tree.ite (ltI x3 (Nat.cast x0n : Int)) (Tree.need (all_ [(((0 : Int) ≤ x3) ∧ (x3 < (Nat.cast x0n : Int)))]) (Tree.need (all_ [((GetElem?.getElem? x0 ((Int.toNat x3) * (5 : Nat))) = (Option.some (sel x0 ((Int.toNat x3) * (5 : Nat)) Kd.str))), ((GetElem?.getElem? x0 (((Int.toNat x3) * (5 : Nat)) + (1 : Nat))) = (Option.some (sel x0 (((Int.toNat x3) * (5 : Nat)) + (1 : Nat)) (Kd.int .i64)))), ((GetElem?.getElem? x0 ((((Int.toNat x3) * (5 : Nat)) + (1 : Nat)) + (1 : Nat))) = (Option.some (sel x0 ((((Int.toNat x3) * (5 : Nat)) + (1 : Nat)) + (1 : Nat)) Kd.bool))), ((GetElem?.getElem? x0 (((((Int.toNat x3) * (5 : Nat)) + (1 : Nat)) + (1 : Nat)) + (1 : Nat))) = (Option.some (sel x0 (((((Int.toNat x3) * (5 : Nat)) + (1 : Nat)) + (1 : Nat)) + (1 : Nat)) Kd.bool))), (((GetElem?.getElem? x0 ((((((Int.toNat x3) * (5 : Nat)) + (1 : Nat)) + (1 : Nat)) + (1 : Nat)) + (1 : Nat))) = (Option.some (D.list 9 (selN x0 ((((((Int.toNat x3) * (5 : Nat)) + (1 : Nat)) + (1 : Nat)) + (1 : Nat)) + (1 : Nat))) (selL x0 ((((((Int.toNat x3) * (5 : Nat)) + (1 : Nat)) + (1 : Nat)) + (1 : Nat)) + (1 : Nat)))))) ∨ ((GetElem?.getElem? x0 ((((((Int.toNat x3) * (5 : Nat)) + (1 : Nat)) + (1 : Nat)) + (1 : Nat)) + (1 : Nat))) = (Option.some (D.list 0 (0 : Nat) []))))]) (Tree.call 12 [(D.str (selS x0 ((Int.toNat x3) * (5 : Nat)))), (D.int .i64 (selI x0 (((Int.toNat x3) * (5 : Nat)) + (1 : Nat)))), (D.bool (selB x0 ((((Int.toNat x3) * (5 : Nat)) + (1 : Nat)) + (1 : Nat)))), (D.bool (selB x0 (((((Int.toNat x3) * (5 : Nat)) + (1 : Nat)) + (1 : Nat)) + (1 : Nat)))), (D.list 9 (selN x0 ((((((Int.toNat x3) * (5 : Nat)) + (1 : Nat)) + (1 : Nat)) + (1 : Nat)) + (1 : Nat))) (selL x0 ((((((Int.toNat x3) * (5 : Nat)) + (1 : Nat)) + (1 : Nat)) + (1 : Nat)) + (1 : Nat))))] (fun y196 => (Tree.ite (Bool.not (selB y196 0)) (Tree.ret [(D.bool false)]) (Tree.need (all_ [(inK .i64 (x3 + (1 : Int)))]) (Tree.goto 0 [(D.list 25 x0n x0), (D.int .i64 (x3 + (1 : Int)))]))))))) (Tree.ret [(D.bool true)])) := by kernel_rfl
noncomputable def F_iml : Tb := tab [(58, s_inum), (59, s_iway)]
theorem F_iml_inum : F_iml 58 = some s_inum := rfl
theorem F_iml_iway : F_iml 59 = some s_iway := rfl
noncomputable def hs_iml : Hds := [([false, true, false, true, true], shapeW Try.f46 0 [(1, .one (.ptr 0 0)), (3, .one (.kd .str)), (4, .one (.kd (.int .i64)))] [.fix 25 [.kd .str, .kd (.int .i64), .kd .bool, .kd .bool, .kd (.list 9)]])]
set_option maxHeartbeats 4000000 in
theorem t_iml (a0 : ByteArray) (a1 : Int) (a2 : Bool) (a3 : Bool) (a4n : Nat) (a4 : List D) : fnT' Try.prog F_iml hs_iml .own Try.f46 [.str a0, .int IntKind.i64 a1, .bool a2, .bool a3, .list 9 a4n a4] = (Tree.need (all_ [(((ByteArray.size a0) + (1 : Nat)) ≤ (100000000 : Nat))]) (Tree.call 58 [(D.int .i64 a1)] (fun y198 => (Tree.need (all_ [(((ByteArray.size (a0 ++ (ByteArray.mk (List.toArray [(32 : UInt8)])))) + (ByteArray.size (selS y198 0))) ≤ (100000000 : Nat))]) (Tree.need (all_ [(((ByteArray.size ((a0 ++ (ByteArray.mk (List.toArray [(32 : UInt8)]))) ++ (selS y198 0))) + (1 : Nat)) ≤ (100000000 : Nat))]) (Tree.call 59 [(D.bool a2), (D.bool a3)] (fun y195 => (Tree.need (all_ [(((ByteArray.size (((a0 ++ (ByteArray.mk (List.toArray [(32 : UInt8)]))) ++ (selS y198 0)) ++ (ByteArray.mk (List.toArray [(32 : UInt8)])))) + (ByteArray.size (selS y195 0))) ≤ (100000000 : Nat))]) (Tree.goto 0 [(D.str ((((a0 ++ (ByteArray.mk (List.toArray [(32 : UInt8)]))) ++ (selS y198 0)) ++ (ByteArray.mk (List.toArray [(32 : UInt8)]))) ++ (selS y195 0))), (D.int .i64 (0 : Int)), (D.str a0), (D.int .i64 a1), (D.bool a2), (D.bool a3), (D.list 9 a4n a4)]))))))))) := by kernel_rfl
set_option maxHeartbeats 4000000 in
theorem t_iml0 (x3 : ByteArray) (x4 : Int) (r0_0 : ByteArray) (r0_1 : Int) (r0_2 : Bool) (r0_3 : Bool) (r0_4n : Nat) (r0_4 : List D) : plT' Try.prog F_iml hs_iml .own Try.f46 0 [.str x3, .int .i64 x4, .str r0_0, .int .i64 r0_1, .bool r0_2, .bool r0_3, .list 9 r0_4n r0_4] = (Tree.ite (ltI x4 (Nat.cast r0_4n : Int)) (Tree.need (all_ [(((ByteArray.size x3) + (1 : Nat)) ≤ (100000000 : Nat))]) (Tree.need (all_ [(((0 : Int) ≤ x4) ∧ (x4 < (Nat.cast r0_4n : Int)))]) (Tree.need (all_ [((GetElem?.getElem? r0_4 ((Int.toNat x4) * (1 : Nat))) = (Option.some (sel r0_4 ((Int.toNat x4) * (1 : Nat)) Kd.str)))]) (Tree.need (all_ [(((ByteArray.size (x3 ++ (ByteArray.mk (List.toArray [(32 : UInt8)])))) + (ByteArray.size (selS r0_4 ((Int.toNat x4) * (1 : Nat))))) ≤ (100000000 : Nat))]) (Tree.need (all_ [(inK .i64 (x4 + (1 : Int)))]) (Tree.goto 0 [(D.str ((x3 ++ (ByteArray.mk (List.toArray [(32 : UInt8)]))) ++ (selS r0_4 ((Int.toNat x4) * (1 : Nat))))), (D.int .i64 (x4 + (1 : Int))), (D.str r0_0), (D.int .i64 r0_1), (D.bool r0_2), (D.bool r0_3), (D.list 9 r0_4n r0_4)])))))) (Tree.ret [(D.str x3)])) := by kernel_rfl
noncomputable def F_iol : Tb := tab [(19, s_ioff), (46, s_iml)]
theorem F_iol_ioff : F_iol 19 = some s_ioff := rfl
theorem F_iol_iml : F_iol 46 = some s_iml := rfl
noncomputable def hs_iol : Hds := [([false, true, false, true, true, true], shapeW Try.f25 0 [(0, .one (.kd (.list 25))), (3, .one (.sl 9 0)), (4, .one (.kd (.int .i64)))] [.sym 9])]
set_option maxHeartbeats 4000000 in
theorem t_iol (a0n : Nat) (a0 : List D) : fnT' Try.prog F_iol hs_iol .own Try.f25 [.list 25 a0n a0] = (Tree.call 19 [(D.list 25 a0n a0)] (fun y199 => (Tree.ite (Bool.not (selB y199 0)) (Tree.ret [(D.list 9 (0 : Nat) [])]) (Tree.need (all_ [(((Nat.cast a0n : Int) = (Nat.cast a0n : Int)) ∧ (((0 : Int) ≤ (Nat.cast a0n : Int)) ∧ ((((Nat.cast a0n : Int) * (Nat.cast (1 : Nat) : Int)) ≤ (16777216 : Int)) ∧ (((Nat.cast (16 : Nat) : Int) * (Nat.cast a0n : Int)) ≤ (281474976710656 : Int)))))]) (Tree.goto 0 [(D.list 25 a0n a0), (D.int .i64 (Nat.cast (0 : Nat) : Int)), (D.int .i64 (Nat.cast a0n : Int)), (D.int .i64 (0 : Int)), (D.list 9 (0 : Nat) (rep a0n [(D.str (ByteArray.mk (List.toArray [])))]))]))))) := by kernel_rfl
set_option maxHeartbeats 4000000 in
theorem t_iol0 (x0n : Nat) (x0 : List D) (x3o x3n : Nat) (x4 : Int) (r0 : List D) : plT' Try.prog F_iol hs_iol .own Try.f25 0 [.list 25 x0n x0, .int .i64 (x3o : Nat), .int .i64 (x3n : Nat), .int .i64 x4, .list 9 0 r0] = (Tree.ite (ltI x4 (Nat.cast x0n : Int)) (Tree.need (all_ [(((0 : Int) ≤ x4) ∧ (x4 < (Nat.cast x0n : Int)))]) (Tree.need (all_ [((GetElem?.getElem? x0 ((Int.toNat x4) * (5 : Nat))) = (Option.some (sel x0 ((Int.toNat x4) * (5 : Nat)) Kd.str))), ((GetElem?.getElem? x0 (((Int.toNat x4) * (5 : Nat)) + (1 : Nat))) = (Option.some (sel x0 (((Int.toNat x4) * (5 : Nat)) + (1 : Nat)) (Kd.int .i64)))), ((GetElem?.getElem? x0 ((((Int.toNat x4) * (5 : Nat)) + (1 : Nat)) + (1 : Nat))) = (Option.some (sel x0 ((((Int.toNat x4) * (5 : Nat)) + (1 : Nat)) + (1 : Nat)) Kd.bool))), ((GetElem?.getElem? x0 (((((Int.toNat x4) * (5 : Nat)) + (1 : Nat)) + (1 : Nat)) + (1 : Nat))) = (Option.some (sel x0 (((((Int.toNat x4) * (5 : Nat)) + (1 : Nat)) + (1 : Nat)) + (1 : Nat)) Kd.bool))), (((GetElem?.getElem? x0 ((((((Int.toNat x4) * (5 : Nat)) + (1 : Nat)) + (1 : Nat)) + (1 : Nat)) + (1 : Nat))) = (Option.some (D.list 9 (selN x0 ((((((Int.toNat x4) * (5 : Nat)) + (1 : Nat)) + (1 : Nat)) + (1 : Nat)) + (1 : Nat))) (selL x0 ((((((Int.toNat x4) * (5 : Nat)) + (1 : Nat)) + (1 : Nat)) + (1 : Nat)) + (1 : Nat)))))) ∨ ((GetElem?.getElem? x0 ((((((Int.toNat x4) * (5 : Nat)) + (1 : Nat)) + (1 : Nat)) + (1 : Nat)) + (1 : Nat))) = (Option.some (D.list 0 (0 : Nat) []))))]) (Tree.call 46 [(D.str (selS x0 ((Int.toNat x4) * (5 : Nat)))), (D.int .i64 (selI x0 (((Int.toNat x4) * (5 : Nat)) + (1 : Nat)))), (D.bool (selB x0 ((((Int.toNat x4) * (5 : Nat)) + (1 : Nat)) + (1 : Nat)))), (D.bool (selB x0 (((((Int.toNat x4) * (5 : Nat)) + (1 : Nat)) + (1 : Nat)) + (1 : Nat)))), (D.list 9 (selN x0 ((((((Int.toNat x4) * (5 : Nat)) + (1 : Nat)) + (1 : Nat)) + (1 : Nat)) + (1 : Nat))) (selL x0 ((((((Int.toNat x4) * (5 : Nat)) + (1 : Nat)) + (1 : Nat)) + (1 : Nat)) + (1 : Nat))))] (fun y196 => (Tree.need (all_ [(((0 : Int) ≤ x4) ∧ (x4 < (Nat.cast x3n : Int)))]) (Tree.need (all_ [((((x3o + (Int.toNat x4)) * (1 : Nat)) + (1 : Nat)) ≤ (List.length r0))]) (Tree.need (all_ [(inK .i64 (x4 + (1 : Int)))]) (Tree.goto 0 [(D.list 25 x0n x0), (D.int .i64 (Nat.cast x3o : Int)), (D.int .i64 (Nat.cast x3n : Int)), (D.int .i64 (x4 + (1 : Int))), (D.list 9 (0 : Nat) (setL r0 ((x3o + (Int.toNat x4)) * (1 : Nat)) [(sel y196 (0 : Nat) Kd.str)]))])))))))) (Tree.need (all_ [(((x3o + x3n) * (1 : Nat)) ≤ (List.length r0)), (scal (List.take (x3n * (1 : Nat)) (List.drop (x3o * (1 : Nat)) r0)))]) (Tree.ret [(D.list 9 x3n (List.take (x3n * (1 : Nat)) (List.drop (x3o * (1 : Nat)) r0)))]))) := by kernel_rfl
noncomputable def F_irm : Tb := tab [(60, s_icut), (61, s_irway), (62, s_iread), (12, s_imed)]
theorem F_irm_icut : F_irm 60 = some s_icut := rfl
theorem F_irm_irway : F_irm 61 = some s_irway := rfl
theorem F_irm_iread : F_irm 62 = some s_iread := rfl
theorem F_irm_imed : F_irm 12 = some s_imed := rfl
noncomputable def hs_irm : Hds := []
set_option maxHeartbeats 4000000 in
theorem t_irm (a0 : ByteArray) : fnT' Try.prog F_irm hs_irm .fz Try.f49 [.str a0] = (Tree.call 60 [(D.str a0), (D.int .i64 (7 : Int))] (fun y199 => (Tree.ite (ltI (Nat.cast (selN y199 0) : Int) (3 : Int)) (Tree.ret [(D.str (ByteArray.mk (List.toArray []))), (D.int .i64 (0 : Int)), (D.bool false), (D.bool false), (D.list 9 (0 : Nat) []), (D.bool false)]) (Tree.need (all_ [(((0 : Int) ≤ (2 : Int)) ∧ ((2 : Int) < (Nat.cast (selN y199 0) : Int)))]) (Tree.need (all_ [((GetElem?.getElem? (selL y199 0) (((0 : Nat) + (2 : Nat)) * (1 : Nat))) = (Option.some (sel (selL y199 0) (((0 : Nat) + (2 : Nat)) * (1 : Nat)) Kd.str)))]) (Tree.call 61 [(D.str (selS (selL y199 0) 2))] (fun y195 => (Tree.need (all_ [(((0 : Int) ≤ (0 : Int)) ∧ ((0 : Int) < (Nat.cast (selN y199 0) : Int)))]) (Tree.need (all_ [((GetElem?.getElem? (selL y199 0) ((0 : Nat) * (1 : Nat))) = (Option.some (sel (selL y199 0) ((0 : Nat) * (1 : Nat)) Kd.str)))]) (Tree.need (all_ [(((0 : Int) ≤ (1 : Int)) ∧ ((1 : Int) < (Nat.cast (selN y199 0) : Int)))]) (Tree.need (all_ [((GetElem?.getElem? (selL y199 0) (((0 : Nat) + (1 : Nat)) * (1 : Nat))) = (Option.some (sel (selL y199 0) (((0 : Nat) + (1 : Nat)) * (1 : Nat)) Kd.str)))]) (Tree.need (all_ [(((0 : Int) ≤ (Option.getD (Option.some (3 : Int)) (0 : Int))) ∧ (((Option.getD (Option.some (3 : Int)) (0 : Int)) ≤ (Option.getD (Option.none) (Nat.cast (selN y199 0) : Int))) ∧ ((Option.getD (Option.none) (Nat.cast (selN y199 0) : Int)) ≤ (Nat.cast (selN y199 0) : Int))))]) (Tree.call 62 [(D.str (selS (selL y199 0) 1))] (fun y189 => (Tree.ite (Bool.not (selB y195 2)) (Tree.ret [(D.str (ByteArray.mk (List.toArray []))), (D.int .i64 (0 : Int)), (D.bool false), (D.bool false), (D.list 9 (0 : Nat) []), (D.bool false)]) (Tree.need (all_ [(((((0 : Nat) + (Int.toNat (Option.getD (Option.some (3 : Int)) (0 : Int)))) + (Int.toNat ((Option.getD (Option.none) (Nat.cast (selN y199 0) : Int)) - (Option.getD (Option.some (3 : Int)) (0 : Int))))) * (1 : Nat)) ≤ (List.length (selL y199 0)))]) (Tree.call 12 [(D.str (selS (selL y199 0) 0)), (D.int .i64 (selI y189 0)), (D.bool (selB y195 0)), (D.bool (selB y195 1)), (D.list 9 (Int.toNat ((Option.getD (Option.none) (Nat.cast (selN y199 0) : Int)) - (Option.getD (Option.some (3 : Int)) (0 : Int)))) (List.take ((Int.toNat ((Option.getD (Option.none) (Nat.cast (selN y199 0) : Int)) - (Option.getD (Option.some (3 : Int)) (0 : Int)))) * (1 : Nat)) (List.drop (((0 : Nat) + (Int.toNat (Option.getD (Option.some (3 : Int)) (0 : Int)))) * (1 : Nat)) (selL y199 0))))] (fun y186 => (Tree.ite (Bool.not (selB y186 0)) (Tree.ret [(D.str (ByteArray.mk (List.toArray []))), (D.int .i64 (0 : Int)), (D.bool false), (D.bool false), (D.list 9 (0 : Nat) []), (D.bool false)]) (Tree.need (all_ [(((((0 : Nat) + (Int.toNat (Option.getD (Option.some (3 : Int)) (0 : Int)))) + (Int.toNat ((Option.getD (Option.none) (Nat.cast (selN y199 0) : Int)) - (Option.getD (Option.some (3 : Int)) (0 : Int))))) * (1 : Nat)) ≤ (List.length (selL y199 0)))]) (Tree.ret [(D.str (selS (selL y199 0) 0)), (D.int .i64 (selI y189 0)), (D.bool (selB y195 0)), (D.bool (selB y195 1)), (D.list 9 (Int.toNat ((Option.getD (Option.none) (Nat.cast (selN y199 0) : Int)) - (Option.getD (Option.some (3 : Int)) (0 : Int)))) (List.take ((Int.toNat ((Option.getD (Option.none) (Nat.cast (selN y199 0) : Int)) - (Option.getD (Option.some (3 : Int)) (0 : Int)))) * (1 : Nat)) (List.drop (((0 : Nat) + (Int.toNat (Option.getD (Option.some (3 : Int)) (0 : Int)))) * (1 : Nat)) (selL y199 0)))), (D.bool true)]))))))))))))))))))))) := by kernel_rfl
noncomputable def F_iro : Tb := tab [(49, s_irm)]
theorem F_iro_irm : F_iro 49 = some s_irm := rfl
noncomputable def hs_iro : Hds := [([false, true, false, true, true, true], shapeW Try.f28 0 [(0, .one (.kd (.list 9))), (4, .one (.sl 25 0)), (5, .one (.kd (.int .i64)))] [.sym 25])]
set_option maxHeartbeats 4000000 in
theorem t_iro (a0n : Nat) (a0 : List D) : fnT' Try.prog F_iro hs_iro .fz Try.f28 [.list 9 a0n a0] = (Tree.ite (ltI (4 : Int) (Nat.cast a0n : Int)) (Tree.ret [(D.list 25 (0 : Nat) []), (D.bool false)]) (Tree.need (all_ [(((Nat.cast a0n : Int) = (Nat.cast a0n : Int)) ∧ (((0 : Int) ≤ (Nat.cast a0n : Int)) ∧ ((((Nat.cast a0n : Int) * (Nat.cast (5 : Nat) : Int)) ≤ (16777216 : Int)) ∧ (((Nat.cast (56 : Nat) : Int) * (Nat.cast a0n : Int)) ≤ (281474976710656 : Int)))))]) (Tree.goto 0 [(D.list 9 a0n a0), (D.int .i64 (Nat.cast (0 : Nat) : Int)), (D.int .i64 (Nat.cast a0n : Int)), (D.int .i64 (0 : Int)), (D.list 25 (0 : Nat) (rep a0n [(D.str (ByteArray.mk (List.toArray []))), (D.int .i64 (0 : Int)), (D.bool false), (D.bool false), (D.list 0 (0 : Nat) [])]))]))) := by kernel_rfl
set_option maxHeartbeats 4000000 in
theorem t_iro0 (x0n : Nat) (x0 : List D) (x4o x4n : Nat) (x5 : Int) (r0 : List D) : plT' Try.prog F_iro hs_iro .fz Try.f28 0 [.list 9 x0n x0, .int .i64 (x4o : Nat), .int .i64 (x4n : Nat), .int .i64 x5, .list 25 0 r0] = (Tree.ite (ltI x5 (Nat.cast x0n : Int)) (Tree.need (all_ [(((0 : Int) ≤ x5) ∧ (x5 < (Nat.cast x0n : Int)))]) (Tree.need (all_ [((GetElem?.getElem? x0 ((Int.toNat x5) * (1 : Nat))) = (Option.some (sel x0 ((Int.toNat x5) * (1 : Nat)) Kd.str)))]) (Tree.call 49 [(D.str (selS x0 ((Int.toNat x5) * (1 : Nat))))] (fun y196 => (Tree.ite (Bool.not (selB y196 5)) (Tree.ret [(D.list 25 (0 : Nat) []), (D.bool false)]) (Tree.need (all_ [(((0 : Int) ≤ x5) ∧ (x5 < (Nat.cast x4n : Int)))]) (Tree.need (all_ [((((x4o + (Int.toNat x5)) * (5 : Nat)) + (5 : Nat)) ≤ (List.length r0))]) (Tree.need (all_ [(inK .i64 (x5 + (1 : Int)))]) (Tree.goto 0 [(D.list 9 x0n x0), (D.int .i64 (Nat.cast x4o : Int)), (D.int .i64 (Nat.cast x4n : Int)), (D.int .i64 (x5 + (1 : Int))), (D.list 25 (0 : Nat) (setL r0 ((x4o + (Int.toNat x5)) * (5 : Nat)) [(sel y196 (0 : Nat) Kd.str), (sel y196 ((0 : Nat) + (1 : Nat)) (Kd.int .i64)), (sel y196 (((0 : Nat) + (1 : Nat)) + (1 : Nat)) Kd.bool), (sel y196 ((((0 : Nat) + (1 : Nat)) + (1 : Nat)) + (1 : Nat)) Kd.bool), (sel y196 (((((0 : Nat) + (1 : Nat)) + (1 : Nat)) + (1 : Nat)) + (1 : Nat)) (Kd.list (9 : Nat)))]))]))))))))) (Tree.need (all_ [(((x4o + x4n) * (5 : Nat)) ≤ (List.length r0))]) (Tree.ret [(D.list 25 x4n (List.take (x4n * (5 : Nat)) (List.drop (x4o * (5 : Nat)) r0))), (D.bool true)]))) := by kernel_rfl
end Go.Proofs.Ytgoheolehnahkaa.Mini
end
section
/- Chapter 9: offers: the program's functions: proofs. -/
namespace Go.Proofs.Ytgoheolehnahkaa.Mini
open Go Go.RowKit
set_option linter.unusedVariables false
set_option linter.unusedSimpArgs false
set_option maxRecDepth 20000
theorem byte_at {s : ByteArray} {k : Nat} (h : k < s.size) : s.data.toList[k]? = some (s[k]'h) ∧ byteI s k = ((s[k]'h).toNat : Int) := by
  have e : s.data.toList[k]? = some (s[k]'h) := by
    rw [List.getElem?_eq_getElem (by simpa using h)]
    rfl
  refine ⟨e, ?_⟩
  unfold byteI
  rw [List.getD_eq_getElem?_getD, e]
  rfl
theorem byte_32 {s : ByteArray} {k : Nat} (h : k < s.size) : byteI s k = 32 ↔ s.data.toList[k]? = some 32 := by
  obtain ⟨e1, e2⟩ := byte_at h
  rw [e1, e2]
  constructor
  · intro e
    congr 1
    apply UInt8.toNat_inj.mp
    have : (s[k]'h).toNat = 32 := by omega
    rw [this]; rfl
  · intro e
    injection e with e
    rw [e]; rfl
theorem ok_iplace : FnOk Try.prog 64 s_iplace := by
  refine fnOk (fn := Try.f64) (F := F_iplace) (hs := hs_iplace) tab_nil mixed rfl rfl rfl [.str, .int .u8] (by kernel_rfl) (by simp) ?_
  rintro s c ⟨hs, hc⟩
  have hs : s.size ≤ maxLen := hs
  have hc : c = 32 := hc
  subst hc
  have hs : s.size ≤ maxLen := hs
  unfold maxLen at hs
  have hl : s.data.toList.length = s.size := by simp
  refine ⟨fun h ys => h = 0 ∧ ∃ k : Nat, ys = [.str s, .int .u8 32, .int .i64 k] ∧ k ≤ s.size ∧ k ≤ spL s.data.toList, fun h ys => s.size - (selI ys 2).toNat, ?_, ?_⟩
  · rw [t_iplace]
    simp only [Tree.holds, ltI_t, ltI_f, leI_t, leI_f, all_cons, all_nil, and_true, true_and, forall_eq, decide_eq_true_eq, decide_eq_false_iff_not, beq_iff_eq, beq_eq_false_iff_ne, bne_iff_ne, bne_eq_false_iff_eq, ne_eq, Decidable.not_not, selI_z, selB_z, selS_z, selN_z, selL_z, selI_s, selB_s, selS_s, selN_s, selL_s, Int.toNat_natCast, Nat.mul_one, Nat.zero_add, Nat.div_one, List.drop_zero, Nat.zero_mul, Nat.le_refl, Bool.not_eq_true', Bool.not_eq_false', Bool.false_eq_true, Bool.true_eq_false, not_true_eq_false, not_false_eq_true, false_imp_iff, true_imp_iff, if_true, if_false, sig, sigF, sigW, sigR, sigO, sigD, sigWD, List.map_cons, List.map_nil]
    exact ⟨0, rfl, by omega, by omega⟩
  · rintro h ys ⟨rfl, k, rfl, hk, hp⟩
    rw [t_iplace0]
    simp only [Tree.holds, ltI_t, ltI_f, leI_t, leI_f, all_cons, all_nil, and_true, true_and, forall_eq, decide_eq_true_eq, decide_eq_false_iff_not, beq_iff_eq, beq_eq_false_iff_ne, bne_iff_ne, bne_eq_false_iff_eq, ne_eq, Decidable.not_not, selI_z, selB_z, selS_z, selN_z, selL_z, selI_s, selB_s, selS_s, selN_s, selL_s, Int.toNat_natCast, Nat.mul_one, Nat.zero_add, Nat.div_one, List.drop_zero, Nat.zero_mul, Nat.le_refl, Bool.not_eq_true', Bool.not_eq_false', Bool.false_eq_true, Bool.true_eq_false, not_true_eq_false, not_false_eq_true, false_imp_iff, true_imp_iff, if_true, if_false, sig, sigF, sigW, sigR, sigO, sigD, sigWD, List.map_cons, List.map_nil]
    refine ⟨fun hj => ?_, fun hj => ?_⟩
    · have hlt : k < s.size := by omega
      refine ⟨⟨by omega, by omega⟩, fun e => ?_, fun e => ⟨by unfold inK; omega, ⟨k + 1, rfl, by omega, ?_⟩, by omega⟩⟩
      · have e := (byte_32 hlt).mp e
        have h2 : spL s.data.toList = k := by
          by_cases hlt2 : k < spL s.data.toList
          · exfalso
            have h3 : spL s.data.toList ≤ s.data.toList.length := List.findIdx_le_length
            have := List.not_of_lt_findIdx (show k < s.data.toList.findIdx (· == 32) from hlt2)
            rw [List.getElem?_eq_getElem (by omega)] at e
            injection e with e
            rw [e] at this
            simp at this
          · omega
        unfold plI
        rw [h2, if_pos hlt]
      · by_cases hlt2 : k < spL s.data.toList
        · omega
        · exfalso
          have h2 : spL s.data.toList = k := by omega
          have h4 : s.data.toList.findIdx (· == 32) < s.data.toList.length := by show spL _ < _; omega
          have h3 := List.findIdx_getElem (w := h4)
          apply e
          apply (byte_32 hlt).mpr
          have h5 : s.data.toList.findIdx (· == 32) = k := h2
          rw [List.getElem?_eq_getElem (by omega)]
          simp only [h5] at h3
          congr 1
          exact eq_of_beq h3
    · unfold plI
      rw [if_neg (by omega)]
theorem words_space {s : ByteArray} (h : spL s.data.toList < s.size) : wordsS s = s.extract 0 (spL s.data.toList) :: wordsS (s.extract (spL s.data.toList + 1) s.size) := by
  obtain ⟨h1, h2⟩ := sp_split s.data.toList (by simpa using h)
  have e1 : (s.extract 0 (spL s.data.toList)).data.toList = s.data.toList.take (spL s.data.toList) := by
    simp only [ByteArray.data_extract, Array.toList_extract, List.extract_eq_take_drop, List.drop_zero, Nat.sub_zero]
  have e2 : (s.extract (spL s.data.toList + 1) s.size).data.toList = s.data.toList.drop (spL s.data.toList + 1) := by
    simp only [ByteArray.data_extract, Array.toList_extract, List.extract_eq_take_drop]
    exact List.take_of_length_le (by simp)
  have e3 : wordsL s.data.toList = s.data.toList.take (spL s.data.toList) :: wordsL (s.data.toList.drop (spL s.data.toList + 1)) := by
    conv => lhs; rw [h1]
    exact wordsL_cut h2
  unfold wordsS
  rw [e3, e2, List.map_cons, ← e1]
  rfl
theorem words_no {s : ByteArray} (h : ¬ spL s.data.toList < s.size) : wordsS s = [s] := by
  unfold wordsS
  rw [wordsL_plain (sp_none _ (by simpa using h))]
  rfl
theorem wordsS_pos (s : ByteArray) : 1 ≤ (wordsS s).length := by
  unfold wordsS
  rw [List.length_map]
  have := wordsL_ne s.data.toList
  cases hw : wordsL s.data.toList with
  | nil => exact absurd hw this
  | cons a l => simp
theorem ok_icut : FnOk Try.prog 60 s_icut := by
  refine fnOk (fn := Try.f60) (F := F_icut) (hs := hs_icut) (tab_cons ok_iplace tab_nil) mixed rfl rfl rfl [.str, .int .i64] (by kernel_rfl) (by simp) ?_
  rintro s m ⟨hs, hm⟩
  have hs : s.size ≤ 1048575 := hs
  have hm : m = 7 := hm
  subst hm
  refine ⟨fun h ys => h = 0 ∧ ∃ (ws : List ByteArray) (r : ByteArray), ys = [.int .i64 7, .int .i64 (0 : Nat), .int .i64 (ws.length : Nat), .str r, .list 9 0 (textsD ws)] ∧ wordsS s = ws ++ wordsS r ∧ ws.length ≤ 7 ∧ r.size ≤ 1048575, fun h ys => 7 - (selI ys 2).toNat, ?_, ?_⟩
  · rw [t_icut]
    simp only [F_icut_iplace, s_iplace, Tree.holds, ltI_t, ltI_f, leI_t, leI_f, all_cons, all_nil, and_true, true_and, forall_eq, decide_eq_true_eq, decide_eq_false_iff_not, beq_iff_eq, beq_eq_false_iff_ne, bne_iff_ne, bne_eq_false_iff_eq, ne_eq, Decidable.not_not, selI_z, selB_z, selS_z, selN_z, selL_z, selI_s, selB_s, selS_s, selN_s, selL_s, Int.toNat_natCast, Nat.mul_one, Nat.zero_add, Nat.div_one, List.drop_zero, Nat.zero_mul, Nat.le_refl, Bool.not_eq_true', Bool.not_eq_false', Bool.false_eq_true, Bool.true_eq_false, not_true_eq_false, not_false_eq_true, false_imp_iff, true_imp_iff, if_true, if_false, sig, sigF, sigW, sigR, sigO, sigD, sigWD, List.map_cons, List.map_nil]
    exact ⟨[], s, rfl, rfl, by simp, hs⟩
  · rintro h ys ⟨rfl, ws, r, rfl, hw, h7, hr⟩
    rw [t_icut0]
    simp only [F_icut_iplace, s_iplace, Tree.holds, ltI_t, ltI_f, leI_t, leI_f, all_cons, all_nil, and_true, true_and, forall_eq, decide_eq_true_eq, decide_eq_false_iff_not, beq_iff_eq, beq_eq_false_iff_ne, bne_iff_ne, bne_eq_false_iff_eq, ne_eq, Decidable.not_not, selI_z, selB_z, selS_z, selN_z, selL_z, selI_s, selB_s, selS_s, selN_s, selL_s, Int.toNat_natCast, Nat.mul_one, Nat.zero_add, Nat.div_one, List.drop_zero, Nat.zero_mul, Nat.le_refl, Bool.not_eq_true', Bool.not_eq_false', Bool.false_eq_true, Bool.true_eq_false, not_true_eq_false, not_false_eq_true, false_imp_iff, true_imp_iff, if_true, if_false, sig, sigF, sigW, sigR, sigO, sigD, sigWD, List.map_cons, List.map_nil, textsD_take]
    have hrm : r.size ≤ maxLen := by unfold maxLen; omega
    refine ⟨fun hlt => ⟨hrm, ?_⟩, fun hge => ?_⟩
    · by_cases hsp : spL r.data.toList < r.size
      · have hpl : plI r = (spL r.data.toList : Int) := by unfold plI; rw [if_pos hsp]
        simp only [hpl]
        have e := words_space hsp
        have ez : ((spL r.data.toList : Int) + 1).toNat = spL r.data.toList + 1 := by omega
        simp only [Option.getD_some, Option.getD_none, Int.toNat_natCast, ez, show (0 : Int).toNat = 0 from rfl]
        refine ⟨fun h => by omega, fun _ => ⟨⟨by omega, by omega, by omega⟩, ⟨by rw [textsD_len]; omega, by omega⟩, by unfold inK; omega, ⟨by omega, by omega, by omega⟩, ⟨ws ++ [r.extract 0 (spL r.data.toList)], r.extract (spL r.data.toList + 1) r.size, ?_, ?_, by simp; omega, by rw [ByteArray.size_extract]; omega⟩, by omega⟩⟩
        · rw [textsD_push]; simp
        · rw [hw, e]; simp
      · have hpl : plI r = -1 := by unfold plI; rw [if_neg hsp]
        simp only [hpl]
        have e := words_no hsp
        have hw2 : wordsS s = ws ++ [r] := by rw [hw, e]
        have hlen : (wordsS s).length = ws.length + 1 := by rw [hw2]; simp
        have e3 : textsD ws ++ [D.str r] = textsD (wordsS s) := by rw [hw2, textsD_push]
        have e4 : List.take (ws.length + 1) (textsD (wordsS s)) = textsD (wordsS s) := List.take_of_length_le (by rw [textsD_len]; omega)
        have e5 : cutD s = [.list 9 (wordsS s).length (textsD (wordsS s))] := by unfold cutD; rw [if_pos (by omega)]
        rw [e3, e4, e5]
        refine ⟨fun _ => ⟨⟨by rw [textsD_len]; omega, by omega⟩, ⟨by rw [textsD_len]; omega, textsD_scal _⟩, by rw [hlen]⟩, fun h => by omega⟩
    · have := wordsS_pos r
      unfold cutD
      rw [if_neg (by rw [hw, List.length_append]; omega)]
theorem ok_iway : FnOk Try.prog 59 s_iway := by
  refine fnOk (fn := Try.f59) (F := F_iway) (hs := hs_iway) tab_nil mixed rfl rfl rfl [.bool, .bool] (by kernel_rfl) (by simp) ?_
  intro s h _
  refine ⟨fun _ _ => False, fun _ _ => 0, ?_, fun _ _ h => h.elim⟩
  rw [t_iway]
  cases s <;> cases h <;> simp only [Tree.holds, ltI_t, ltI_f, leI_t, leI_f, all_cons, all_nil, and_true, true_and, forall_eq, decide_eq_true_eq, decide_eq_false_iff_not, beq_iff_eq, beq_eq_false_iff_ne, bne_iff_ne, bne_eq_false_iff_eq, ne_eq, Decidable.not_not, selI_z, selB_z, selS_z, selN_z, selL_z, selI_s, selB_s, selS_s, selN_s, selL_s, Int.toNat_natCast, Nat.mul_one, Nat.zero_add, Nat.div_one, List.drop_zero, Nat.zero_mul, Nat.le_refl, Bool.not_eq_true', Bool.not_eq_false', Bool.false_eq_true, Bool.true_eq_false, not_true_eq_false, not_false_eq_true, false_imp_iff, true_imp_iff, if_true, if_false, sig, sigF, sigW, sigR, sigO, sigD, sigWD, List.map_cons, List.map_nil] <;> simp <;> rfl
theorem ok_irway : FnOk Try.prog 61 s_irway := by
  refine fnOk (fn := Try.f61) (F := F_irway) (hs := hs_irway) tab_nil mixed rfl rfl rfl [.str] (by kernel_rfl) (by simp) ?_
  intro w _
  refine ⟨fun _ _ => False, fun _ _ => 0, ?_, fun _ _ h => h.elim⟩
  rw [t_irway]
  simp only [Tree.holds, ltI_t, ltI_f, leI_t, leI_f, all_cons, all_nil, and_true, true_and, forall_eq, decide_eq_true_eq, decide_eq_false_iff_not, beq_iff_eq, beq_eq_false_iff_ne, bne_iff_ne, bne_eq_false_iff_eq, ne_eq, Decidable.not_not, selI_z, selB_z, selS_z, selN_z, selL_z, selI_s, selB_s, selS_s, selN_s, selL_s, Int.toNat_natCast, Nat.mul_one, Nat.zero_add, Nat.div_one, List.drop_zero, Nat.zero_mul, Nat.le_refl, Bool.not_eq_true', Bool.not_eq_false', Bool.false_eq_true, Bool.true_eq_false, not_true_eq_false, not_false_eq_true, false_imp_iff, true_imp_iff, if_true, if_false, sig, sigF, sigW, sigR, sigO, sigD, sigWD, List.map_cons, List.map_nil, ByteArray.toList_eq]
  unfold rdWay
  refine ⟨fun e => ?_, fun e1 => ⟨fun e => ?_, fun e2 => ⟨fun e => ?_, fun e3 => ⟨fun e => ?_, fun e4 => ?_⟩⟩⟩⟩
  · rw [if_pos e]
  · rw [if_neg e1, if_pos e]
  · rw [if_neg e1, if_neg e2, if_pos e]
  · rw [if_neg e1, if_neg e2, if_neg e3, if_pos e]
  · rw [if_neg e1, if_neg e2, if_neg e3, if_neg e4]
theorem ok_ihas : FnOk Try.prog 57 s_ihas := by
  refine fnOk (fn := Try.f57) (F := F_ihas) (hs := hs_ihas) tab_nil mixed rfl rfl rfl [.list 9, .str] (by kernel_rfl) (by simp) ?_
  rintro n cs s ⟨ls, s', e, hl, hs⟩
  simp only [List.cons.injEq, D.list.injEq, D.str.injEq, true_and, and_true] at e
  obtain ⟨⟨rfl, rfl⟩, rfl⟩ := e
  refine ⟨fun h ys => h = 0 ∧ ∃ i : Nat, ys = [.list 9 ls.length (textsD ls), .str s, .int .i64 i] ∧ i ≤ ls.length ∧ ∀ (a : Nat) (x : ByteArray), a < i → ls[a]? = some x → x.data.toList ≠ s.data.toList, fun h ys => ls.length - (selI ys 2).toNat, ?_, ?_⟩
  · rw [t_ihas]
    simp only [Tree.holds, ltI_t, ltI_f, leI_t, leI_f, all_cons, all_nil, and_true, true_and, forall_eq, decide_eq_true_eq, decide_eq_false_iff_not, beq_iff_eq, beq_eq_false_iff_ne, bne_iff_ne, bne_eq_false_iff_eq, ne_eq, Decidable.not_not, selI_z, selB_z, selS_z, selN_z, selL_z, selI_s, selB_s, selS_s, selN_s, selL_s, Int.toNat_natCast, Nat.mul_one, Nat.zero_add, Nat.div_one, List.drop_zero, Nat.zero_mul, Nat.le_refl, Bool.not_eq_true', Bool.not_eq_false', Bool.false_eq_true, Bool.true_eq_false, not_true_eq_false, not_false_eq_true, false_imp_iff, true_imp_iff, if_true, if_false, sig, sigF, sigW, sigR, sigO, sigD, sigWD, List.map_cons, List.map_nil]
    exact ⟨0, rfl, by omega, fun a x h => by omega⟩
  · rintro h ys ⟨rfl, i, rfl, hi, hv⟩
    rw [t_ihas0]
    simp only [Tree.holds, ltI_t, ltI_f, leI_t, leI_f, all_cons, all_nil, and_true, true_and, forall_eq, decide_eq_true_eq, decide_eq_false_iff_not, beq_iff_eq, beq_eq_false_iff_ne, bne_iff_ne, bne_eq_false_iff_eq, ne_eq, Decidable.not_not, selI_z, selB_z, selS_z, selN_z, selL_z, selI_s, selB_s, selS_s, selN_s, selL_s, Int.toNat_natCast, Nat.mul_one, Nat.zero_add, Nat.div_one, List.drop_zero, Nat.zero_mul, Nat.le_refl, Bool.not_eq_true', Bool.not_eq_false', Bool.false_eq_true, Bool.true_eq_false, not_true_eq_false, not_false_eq_true, false_imp_iff, true_imp_iff, if_true, if_false, sig, sigF, sigW, sigR, sigO, sigD, sigWD, List.map_cons, List.map_nil, sel_kstr, unS_texts, ByteArray.toList_eq]
    refine ⟨fun hj => ?_, fun hj => ret_bool' ?_⟩
    · obtain ⟨x, x1, x2, x3⟩ := textsD_get (ls := ls) (i := i) (by omega)
      rw [selS_of x2]
      refine ⟨⟨by omega, by omega⟩, x2, fun e => ret_bool' ?_, fun e => ⟨by unfold inK; omega, ⟨i + 1, rfl, by omega, fun a y ha hy => ?_⟩, by omega⟩⟩
      · unfold hasB
        rw [eq_comm, List.any_eq_true]
        exact ⟨x, x3, by rw [e]; exact beq_self_eq_true _⟩
      · by_cases hai : a = i
        · rw [hai, x1] at hy; injection hy with hy; rw [← hy]; exact e
        · exact hv a y (by omega) hy
    · unfold hasB
      rw [eq_comm, List.any_eq_false]
      intro x hx
      obtain ⟨a, ha, rfl⟩ := List.getElem_of_mem hx
      simpa using hv a _ (by omega) (List.getElem?_eq_getElem ha)
theorem hasB_iff {ls : List ByteArray} {s : ByteArray} : hasB ls s = true ↔ ∃ (a : Nat) (x : ByteArray), ls[a]? = some x ∧ x.data.toList = s.data.toList := by
  unfold hasB
  rw [List.any_eq_true]
  constructor
  · rintro ⟨x, hx, e⟩
    obtain ⟨a, ha, rfl⟩ := List.getElem_of_mem hx
    exact ⟨a, _, List.getElem?_eq_getElem ha, eq_of_beq e⟩
  · rintro ⟨a, x, h1, h2⟩
    exact ⟨x, List.mem_of_getElem? h1, by rw [h2]; exact beq_self_eq_true _⟩
theorem textsD_taken (ls : List ByteArray) (i : Nat) : List.take i (textsD ls) = textsD (ls.take i) := by unfold textsD; rw [List.map_take]
theorem ok_icod : FnOk Try.prog 42 s_icod := by
  refine fnOk (fn := Try.f42) (F := F_icod) (hs := hs_icod) (tab_cons ok_iword (tab_cons ok_ihas tab_nil)) mixed rfl rfl rfl [.list 9] (by kernel_rfl) (by simp) ?_
  rintro n cs ⟨ls, e, hl, hs⟩
  simp only [List.cons.injEq, D.list.injEq, true_and, and_true] at e
  obtain ⟨rfl, rfl⟩ := e
  refine ⟨fun h ys => h = 0 ∧ ∃ i : Nat, ys = [.list 9 ls.length (textsD ls), .int .i64 i] ∧ i ≤ ls.length ∧ 1 ≤ ls.length ∧ ls.length ≤ 4 ∧ (∀ (a : Nat) (x : ByteArray), a < i → ls[a]? = some x → wordS x = true) ∧ (∀ (a b : Nat) (x y : ByteArray), ls[a]? = some x → ls[b]? = some y → a < b → b < i → x.data.toList ≠ y.data.toList), fun h ys => ls.length - (selI ys 1).toNat, ?_, ?_⟩
  · rw [t_icod]
    simp only [F_icod_iword, F_icod_ihas, s_iword, s_ihas, Tree.holds, ltI_t, ltI_f, leI_t, leI_f, all_cons, all_nil, and_true, true_and, forall_eq, decide_eq_true_eq, decide_eq_false_iff_not, beq_iff_eq, beq_eq_false_iff_ne, bne_iff_ne, bne_eq_false_iff_eq, ne_eq, Decidable.not_not, selI_z, selB_z, selS_z, selN_z, selL_z, selI_s, selB_s, selS_s, selN_s, selL_s, Int.toNat_natCast, Nat.mul_one, Nat.zero_add, Nat.div_one, List.drop_zero, Nat.zero_mul, Nat.le_refl, Bool.not_eq_true', Bool.not_eq_false', Bool.false_eq_true, Bool.true_eq_false, not_true_eq_false, not_false_eq_true, false_imp_iff, true_imp_iff, if_true, if_false, sig, sigF, sigW, sigR, sigO, sigD, sigWD, List.map_cons, List.map_nil, unS_texts]
    have hno : ¬ (1 ≤ ls.length ∧ ls.length ≤ 4) → false = codB ls := fun h => by
      unfold codB
      rw [show inB ls.length 1 4 = false by
        rw [Bool.eq_false_iff]
        intro h2
        have := inB_iff.mp h2
        omega]
      simp
    refine ⟨fun h => ret_bool' (hno (by omega)), fun h1 => ⟨fun h => ret_bool' (hno (by omega)), fun h2 => ⟨0, rfl, by omega, by omega, by omega, fun a x h => by omega, fun a b x y _ _ _ h => by omega⟩⟩⟩
  · rintro h ys ⟨rfl, i, rfl, hi, l1, l4, hv, hd⟩
    rw [t_icod0]
    simp only [F_icod_iword, F_icod_ihas, s_iword, s_ihas, Tree.holds, ltI_t, ltI_f, leI_t, leI_f, all_cons, all_nil, and_true, true_and, forall_eq, decide_eq_true_eq, decide_eq_false_iff_not, beq_iff_eq, beq_eq_false_iff_ne, bne_iff_ne, bne_eq_false_iff_eq, ne_eq, Decidable.not_not, selI_z, selB_z, selS_z, selN_z, selL_z, selI_s, selB_s, selS_s, selN_s, selL_s, Int.toNat_natCast, Nat.mul_one, Nat.zero_add, Nat.div_one, List.drop_zero, Nat.zero_mul, Nat.le_refl, Bool.not_eq_true', Bool.not_eq_false', Bool.false_eq_true, Bool.true_eq_false, not_true_eq_false, not_false_eq_true, false_imp_iff, true_imp_iff, if_true, if_false, sig, sigF, sigW, sigR, sigO, sigD, sigWD, List.map_cons, List.map_nil, sel_kstr, unS_texts]
    refine ⟨fun hj => ?_, fun hj => ret_bool' ?_⟩
    · obtain ⟨x, x1, x2, x3⟩ := textsD_get (ls := ls) (i := i) (by omega)
      rw [selS_of x2]
      simp only [Option.getD_some, Option.getD_none, Int.sub_zero, Int.toNat_natCast, show (0 : Int).toNat = 0 from rfl, List.drop_zero, textsD_taken, unS_texts]
      refine ⟨⟨by omega, by omega⟩, x2, m20 (hs x x3), fun e => ret_bool' ?_, fun e => ⟨⟨by omega, by omega, by omega⟩, ⟨by omega, by omega⟩, x2, ⟨ls.take i, x, by rw [List.length_take, Nat.min_eq_left hi], by rw [List.length_take]; omega, fun y hy => hs y (List.mem_of_mem_take hy)⟩, fun e2 => ret_bool' ?_, fun e2 => ⟨by unfold inK; omega, ⟨i + 1, rfl, by omega, l1, l4, fun a y ha hy => ?_, fun a b y z hy hz hab hb => ?_⟩, by omega⟩⟩⟩
      · unfold codB; rw [word_no x3 e]; rfl
      · obtain ⟨a, y, hy, he⟩ := hasB_iff.mp e2
        rw [List.getElem?_take] at hy
        split at hy <;> try (cases hy; done)
        rename_i hai
        unfold codB
        rw [dist_no hy x1 hai he]; simp
      · by_cases hai : a = i
        · rw [hai, x1] at hy; injection hy with hy; rw [← hy]; exact e
        · exact hv a y (by omega) hy
      · by_cases hbi : b = i
        · rw [hbi, x1] at hz
          injection hz with hz
          intro he
          have : hasB (ls.take i) x = true := hasB_iff.mpr ⟨a, y, by rw [List.getElem?_take, if_pos (by omega)]; exact hy, by rw [hz]; exact he⟩
          rw [this] at e2; cases e2
        · exact hd a b y z hy hz hab (by omega)
    · have ha : ls.all wordS = true := List.all_eq_true.mpr (fun x hx => by
        obtain ⟨a, ha, rfl⟩ := List.getElem_of_mem hx
        exact hv a _ (by omega) (List.getElem?_eq_getElem ha))
      have hd2 : distB ls = true := dist_yes (fun a b x y hx hy hab => hd a b x y hx hy hab (by have := (List.getElem?_eq_some_iff.mp hy).1; omega))
      unfold codB
      rw [ha, hd2, show inB ls.length 1 4 = true from inB_iff.mpr ⟨by omega, by omega⟩]
      rfl
theorem med_open {k : ByteArray} {p : Int} {s h : Bool} {n : Nat} {cs : List D} {m : Med} (e : [D.str k, .int .i64 p, .bool s, .bool h, .list 9 n cs] = medD m) : k = m.k ∧ p = m.p ∧ s = m.s ∧ h = m.h ∧ n = m.c.length ∧ cs = textsD m.c := by
  simp only [medD, List.cons.injEq, D.str.injEq, D.int.injEq, D.bool.injEq, D.list.injEq, true_and, and_true] at e
  exact e
theorem ok_imed : FnOk Try.prog 12 s_imed := by
  refine fnOk (fn := Try.f12) (F := F_imed) (hs := hs_imed) (tab_cons ok_iword (tab_cons ok_icod tab_nil)) mixed rfl rfl rfl [.str, .int .i64, .bool, .bool, .list 9] (by kernel_rfl) (by simp) ?_
  rintro k p s h n cs ⟨m, e, hm⟩
  obtain ⟨mk, mp, ms, mh, mc⟩ := m
  obtain ⟨rfl, rfl, rfl, rfl, rfl, rfl⟩ := med_open e
  obtain ⟨h1, h2, h3⟩ := hm
  have hu : unM [.str k, .int .i64 p, .bool s, .bool h, .list 9 mc.length (textsD mc)] = ⟨k, p, s, h, mc⟩ := unM_med ⟨k, p, s, h, mc⟩
  refine ⟨fun _ _ => False, fun _ _ => 0, ?_, fun _ _ h => h.elim⟩
  rw [t_imed]
  simp only [F_imed_iword, F_imed_icod, s_iword, s_icod, Tree.holds, ltI_t, ltI_f, leI_t, leI_f, all_cons, all_nil, and_true, true_and, forall_eq, decide_eq_true_eq, decide_eq_false_iff_not, beq_iff_eq, beq_eq_false_iff_ne, bne_iff_ne, bne_eq_false_iff_eq, ne_eq, Decidable.not_not, selI_z, selB_z, selS_z, selN_z, selL_z, selI_s, selB_s, selS_s, selN_s, selL_s, Int.toNat_natCast, Nat.mul_one, Nat.zero_add, Nat.div_one, List.drop_zero, Nat.zero_mul, Nat.le_refl, Bool.not_eq_true', Bool.not_eq_false', Bool.false_eq_true, Bool.true_eq_false, not_true_eq_false, not_false_eq_true, false_imp_iff, true_imp_iff, if_true, if_false, sig, sigF, sigW, sigR, sigO, sigD, sigWD, List.map_cons, List.map_nil, hu, unS_texts]
  have hm : medB ⟨k, p, s, h, mc⟩ = (wordS k && (inB p 0 65535 && codB mc)) := by
    unfold medB codB
    simp only
    cases mc.all wordS <;> cases distB mc <;> cases wordS k <;> cases inB p 0 65535 <;> simp
  refine ⟨m20 h1, fun e0 => ⟨fun e1 => ⟨fun e2 => ⟨⟨mc, rfl, h2, h3⟩, ret_bool' ?_⟩, fun e2 => ret_bool' ?_⟩, fun e1 => ret_bool' ?_⟩, fun e0 => ret_bool' ?_⟩
  · rw [hm, show wordS k = true from e0, show inB p 0 65535 = true from inB_iff.mpr ⟨by omega, by omega⟩]; rfl
  · rw [hm, show inB p 0 65535 = false by rw [Bool.eq_false_iff]; intro h; have := inB_iff.mp h; omega]; simp
  · rw [hm, show inB p 0 65535 = false by rw [Bool.eq_false_iff]; intro h; have := inB_iff.mp h; omega]; simp
  · rw [hm, show wordS k = false from e0]; rfl
theorem ok_ioff : FnOk Try.prog 19 s_ioff := by
  refine fnOk (fn := Try.f19) (F := F_ioff) (hs := hs_ioff) (tab_cons ok_imed tab_nil) mixed rfl rfl rfl [.list 25] (by kernel_rfl) (by simp) ?_
  rintro n cs ⟨l, e, hl, hm⟩
  simp only [List.cons.injEq, D.list.injEq, true_and, and_true] at e
  obtain ⟨rfl, rfl⟩ := e
  refine ⟨fun h ys => h = 0 ∧ ∃ i : Nat, ys = [.list 25 l.length (offD l), .int .i64 i] ∧ i ≤ l.length ∧ l.length ≤ 4 ∧ (∀ (a : Nat) (m : Med), a < i → l[a]? = some m → medB m = true), fun h ys => l.length - (selI ys 1).toNat, ?_, ?_⟩
  · rw [t_ioff]
    simp only [F_ioff_imed, s_imed, Tree.holds, ltI_t, ltI_f, leI_t, leI_f, all_cons, all_nil, and_true, true_and, forall_eq, decide_eq_true_eq, decide_eq_false_iff_not, beq_iff_eq, beq_eq_false_iff_ne, bne_iff_ne, bne_eq_false_iff_eq, ne_eq, Decidable.not_not, selI_z, selB_z, selS_z, selN_z, selL_z, selI_s, selB_s, selS_s, selN_s, selL_s, Int.toNat_natCast, Nat.mul_one, Nat.zero_add, Nat.div_one, List.drop_zero, Nat.zero_mul, Nat.le_refl, Bool.not_eq_true', Bool.not_eq_false', Bool.false_eq_true, Bool.true_eq_false, not_true_eq_false, not_false_eq_true, false_imp_iff, true_imp_iff, if_true, if_false, sig, sigF, sigW, sigR, sigO, sigD, sigWD, List.map_cons, List.map_nil, unO_off]
    refine ⟨fun h => ret_bool' ?_, fun h => ⟨0, rfl, by omega, by omega, fun a m h => by omega⟩⟩
    unfold offB
    rw [show decide (l.length ≤ 4) = false from decide_eq_false (by omega)]
    simp
  · rintro h ys ⟨rfl, i, rfl, hi, l4, hv⟩
    rw [t_ioff0]
    simp only [F_ioff_imed, s_imed, Tree.holds, ltI_t, ltI_f, leI_t, leI_f, all_cons, all_nil, and_true, true_and, forall_eq, decide_eq_true_eq, decide_eq_false_iff_not, beq_iff_eq, beq_eq_false_iff_ne, bne_iff_ne, bne_eq_false_iff_eq, ne_eq, Decidable.not_not, selI_z, selB_z, selS_z, selN_z, selL_z, selI_s, selB_s, selS_s, selN_s, selL_s, Int.toNat_natCast, Nat.mul_one, Nat.zero_add, Nat.div_one, List.drop_zero, Nat.zero_mul, Nat.le_refl, Bool.not_eq_true', Bool.not_eq_false', Bool.false_eq_true, Bool.true_eq_false, not_true_eq_false, not_false_eq_true, false_imp_iff, true_imp_iff, if_true, if_false, sig, sigF, sigW, sigR, sigO, sigD, sigWD, List.map_cons, List.map_nil, sel_kstr, sel_kint, sel_kbool, unO_off]
    refine ⟨fun hj => ?_, fun hj => ret_bool' ?_⟩
    · obtain ⟨m, m1, m2⟩ := off_get (l := l) (i := i) (by omega)
      obtain ⟨c0, c1, c2, c3, c4⟩ := off_at m1
      rw [selS_of c0, selI_of c1, selB_of c2, selB_of c3, selN_of c4, selL_of c4]
      have e := unM_med m
      unfold medD at e
      rw [e]
      refine ⟨⟨by omega, by omega⟩, ⟨c0, c1, c2, c3, .inl c4⟩, ⟨m, rfl, hm m m2⟩, fun e0 => ret_bool' ?_, fun e0 => ⟨by unfold inK; omega, ⟨i + 1, rfl, by omega, l4, fun a m' ha hm' => ?_⟩, by omega⟩⟩
      · rw [med_no m2 e0]
      · by_cases hai : a = i
        · rw [hai, m1] at hm'; injection hm' with hm'; rw [← hm']; exact e0
        · exact hv a m' (by omega) hm'
    · have ha : l.all medB = true := List.all_eq_true.mpr (fun x hx => by
        obtain ⟨a, ha, rfl⟩ := List.getElem_of_mem hx
        exact hv a _ (by omega) (List.getElem?_eq_getElem ha))
      unfold offB
      rw [ha]
      simp [l4]
theorem ok_iml : FnOk Try.prog 46 s_iml := by
  refine fnOk (fn := Try.f46) (F := F_iml) (hs := hs_iml) (tab_cons ok_inum (tab_cons ok_iway tab_nil)) mixed rfl rfl rfl [.str, .int .i64, .bool, .bool, .list 9] (by kernel_rfl) (by simp) ?_
  rintro k p s h n cs ⟨m, e, hm⟩
  obtain ⟨rfl, rfl, rfl, rfl, rfl, rfl⟩ := med_open e
  have hb' := hm
  unfold medB at hb'
  simp only [Bool.and_eq_true, List.all_eq_true, inB_iff] at hb'
  have z1 := word_size hb'.2.1
  have z2 := textS_size m.p
  have z3 := way_size m.s m.h
  have z4 : (" ".toUTF8).size = 1 := rfl
  have hc4 : m.c.length ≤ 4 := by omega
  have hu : unM [.str m.k, .int .i64 m.p, .bool m.s, .bool m.h, .list 9 m.c.length (textsD m.c)] = m := unM_med m
  refine ⟨fun h ys => h = 0 ∧ ∃ j : Nat, ys = [.str (lineK m j), .int .i64 j, .str m.k, .int .i64 m.p, .bool m.s, .bool m.h, .list 9 m.c.length (textsD m.c)] ∧ j ≤ m.c.length, fun h ys => m.c.length - (selI ys 1).toNat, ?_, ?_⟩
  · rw [t_iml]
    simp only [F_iml_inum, F_iml_iway, s_inum, s_iway, Tree.holds, ltI_t, ltI_f, leI_t, leI_f, all_cons, all_nil, and_true, true_and, forall_eq, decide_eq_true_eq, decide_eq_false_iff_not, beq_iff_eq, beq_eq_false_iff_ne, bne_iff_ne, bne_eq_false_iff_eq, ne_eq, Decidable.not_not, selI_z, selB_z, selS_z, selN_z, selL_z, selI_s, selB_s, selS_s, selN_s, selL_s, Int.toNat_natCast, Nat.mul_one, Nat.zero_add, Nat.div_one, List.drop_zero, Nat.zero_mul, Nat.le_refl, Bool.not_eq_true', Bool.not_eq_false', Bool.false_eq_true, Bool.true_eq_false, not_true_eq_false, not_false_eq_true, false_imp_iff, true_imp_iff, if_true, if_false, sig, sigF, sigW, sigR, sigO, sigD, sigWD, List.map_cons, List.map_nil, sp_is, size_cat, z3, z4]
    exact ⟨by omega, by omega, by omega, by omega, 0, rfl, by omega⟩
  · rintro h ys ⟨rfl, j, rfl, hj⟩
    rw [t_iml0]
    simp only [F_iml_inum, F_iml_iway, s_inum, s_iway, Tree.holds, ltI_t, ltI_f, leI_t, leI_f, all_cons, all_nil, and_true, true_and, forall_eq, decide_eq_true_eq, decide_eq_false_iff_not, beq_iff_eq, beq_eq_false_iff_ne, bne_iff_ne, bne_eq_false_iff_eq, ne_eq, Decidable.not_not, selI_z, selB_z, selS_z, selN_z, selL_z, selI_s, selB_s, selS_s, selN_s, selL_s, Int.toNat_natCast, Nat.mul_one, Nat.zero_add, Nat.div_one, List.drop_zero, Nat.zero_mul, Nat.le_refl, Bool.not_eq_true', Bool.not_eq_false', Bool.false_eq_true, Bool.true_eq_false, not_true_eq_false, not_false_eq_true, false_imp_iff, true_imp_iff, if_true, if_false, sig, sigF, sigW, sigR, sigO, sigD, sigWD, List.map_cons, List.map_nil, sel_kstr, hu]
    have z5 := lineK_size hm j hj
    refine ⟨fun hlt => ?_, fun hlt => ?_⟩
    · obtain ⟨x, x1, x2, x3⟩ := textsD_get (ls := m.c) (i := j) (by omega)
      have hx := word_size (hb'.1.1 x x3)
      rw [selS_of x2]
      simp only [sp_is, size_cat, z4]
      refine ⟨by omega, ⟨by omega, by omega⟩, x2, by omega, by unfold inK; omega, ⟨j + 1, ?_, by omega⟩, by omega⟩
      rw [lineK_step x1]; rfl
    · obtain rfl : j = m.c.length := by omega
      rw [lineK_all]
/-- Lines, so many of them made. -/
def linesK (l : List Med) (i : Nat) : List D := textsD ((l.take i).map lineM) ++ (rep l.length [D.str ⟨#[]⟩]).drop i
theorem linesK_zero (l : List Med) : linesK l 0 = rep l.length [D.str ⟨#[]⟩] := rfl
theorem linesK_len (l : List Med) {i : Nat} (h : i ≤ l.length) : (linesK l i).length = l.length := by
  unfold linesK
  rw [List.length_append, textsD_len, List.length_map, List.length_take, List.length_drop, rep_len, List.length_cons, List.length_nil]
  omega
theorem linesK_all (l : List Med) : linesK l l.length = textsD (l.map lineM) := by
  unfold linesK
  rw [List.drop_of_length_le (by rw [rep_len]; simp), List.append_nil, List.take_of_length_le (Nat.le_refl _)]
theorem linesK_step {l : List Med} {i : Nat} {m : Med} (h : l[i]? = some m) : setL (linesK l i) i [.str (lineM m)] = linesK l (i + 1) := by
  have hi := (List.getElem?_eq_some_iff.mp h).1
  have h1 : (textsD ((l.take i).map lineM)).length = i := by rw [textsD_len, List.length_map, List.length_take]; omega
  unfold setL linesK
  rw [List.take_append_of_le_length (by omega), List.take_of_length_le (by omega)]
  rw [List.drop_append, List.drop_of_length_le (by omega), h1, List.nil_append, List.drop_drop]
  rw [show i + (i + [D.str (lineM m)].length - i) = i + 1 by simp]
  rw [List.take_add_one, h]
  simp only [Option.toList_some, List.map_append, List.map_cons, List.map_nil, textsD_push]
theorem ok_iol : FnOk Try.prog 25 s_iol := by
  refine fnOk (fn := Try.f25) (F := F_iol) (hs := hs_iol) (tab_cons ok_ioff (tab_cons ok_iml tab_nil)) mixed rfl rfl rfl [.list 25] (by kernel_rfl) (by simp) ?_
  rintro n cs ⟨l, e, hl, hm⟩
  simp only [List.cons.injEq, D.list.injEq, true_and, and_true] at e
  obtain ⟨rfl, rfl⟩ := e
  refine ⟨fun h ys => h = 0 ∧ ∃ i : Nat, ys = [.list 25 l.length (offD l), .int .i64 (0 : Nat), .int .i64 (l.length : Nat), .int .i64 i, .list 9 0 (linesK l i)] ∧ i ≤ l.length ∧ offB l = true, fun h ys => l.length - (selI ys 3).toNat, ?_, ?_⟩
  · rw [t_iol]
    simp only [F_iol_ioff, F_iol_iml, s_ioff, s_iml, Tree.holds, ltI_t, ltI_f, leI_t, leI_f, all_cons, all_nil, and_true, true_and, forall_eq, decide_eq_true_eq, decide_eq_false_iff_not, beq_iff_eq, beq_eq_false_iff_ne, bne_iff_ne, bne_eq_false_iff_eq, ne_eq, Decidable.not_not, selI_z, selB_z, selS_z, selN_z, selL_z, selI_s, selB_s, selS_s, selN_s, selL_s, Int.toNat_natCast, Nat.mul_one, Nat.zero_add, Nat.div_one, List.drop_zero, Nat.zero_mul, Nat.le_refl, Bool.not_eq_true', Bool.not_eq_false', Bool.false_eq_true, Bool.true_eq_false, not_true_eq_false, not_false_eq_true, false_imp_iff, true_imp_iff, if_true, if_false, sig, sigF, sigW, sigR, sigO, sigD, sigWD, List.map_cons, List.map_nil, unO_off]
    refine ⟨⟨l, rfl, hl, hm⟩, fun e => ?_, fun e => ?_⟩
    rotate_left
    · exact ⟨⟨by omega, by omega, by omega⟩, ⟨0, (by rw [linesK_zero]; rfl), by omega, e⟩⟩
    unfold linesO
    rw [e]; rfl
  · rintro h ys ⟨rfl, i, rfl, hi, ho⟩
    rw [t_iol0]
    simp only [F_iol_ioff, F_iol_iml, s_ioff, s_iml, Tree.holds, ltI_t, ltI_f, leI_t, leI_f, all_cons, all_nil, and_true, true_and, forall_eq, decide_eq_true_eq, decide_eq_false_iff_not, beq_iff_eq, beq_eq_false_iff_ne, bne_iff_ne, bne_eq_false_iff_eq, ne_eq, Decidable.not_not, selI_z, selB_z, selS_z, selN_z, selL_z, selI_s, selB_s, selS_s, selN_s, selL_s, Int.toNat_natCast, Nat.mul_one, Nat.zero_add, Nat.div_one, List.drop_zero, Nat.zero_mul, Nat.le_refl, Bool.not_eq_true', Bool.not_eq_false', Bool.false_eq_true, Bool.true_eq_false, not_true_eq_false, not_false_eq_true, false_imp_iff, true_imp_iff, if_true, if_false, sig, sigF, sigW, sigR, sigO, sigD, sigWD, List.map_cons, List.map_nil, sel_kstr, sel_kint, sel_kbool, unO_off]
    have hv := (off_parts ho).1
    have h4 := (off_parts ho).2
    refine ⟨fun hj => ?_, fun hj => ?_⟩
    · obtain ⟨m, m1, m2⟩ := off_get (l := l) (i := i) (by omega)
      obtain ⟨c0, c1, c2, c3, c4⟩ := off_at m1
      rw [selS_of c0, selI_of c1, selB_of c2, selB_of c3, selN_of c4, selL_of c4]
      have e := unM_med m
      unfold medD at e
      rw [e]
      refine ⟨⟨by omega, by omega⟩, ⟨c0, c1, c2, c3, .inl c4⟩, ⟨m, rfl, hv m m2⟩, ⟨by omega, by omega⟩, by rw [linesK_len l hi]; omega, by unfold inK; omega, ⟨i + 1, ?_, by omega, ho⟩, by omega⟩
      rw [linesK_step m1]; rfl
    · obtain rfl : i = l.length := by omega
      have e1 : linesO l = l.map lineM := by unfold linesO; rw [ho]; rfl
      have e2 : List.take l.length (textsD (l.map lineM)) = textsD (l.map lineM) := List.take_of_length_le (by rw [textsD_len]; simp)
      rw [linesK_all, e2, e1]
      exact ⟨⟨by rw [textsD_len]; simp, textsD_scal _⟩, by simp⟩
/-- What a media's words are read as. -/
def waS (w : ByteArray) : Bool := w.data.toList == [98, 111, 116, 104] || w.data.toList == [115, 101, 110, 100]
def waH (w : ByteArray) : Bool := w.data.toList == [98, 111, 116, 104] || w.data.toList == [104, 101, 97, 114]
def waK (w : ByteArray) : Bool := decide ((wayS (waS w) (waH w)).data.toList = w.data.toList)
theorem rdWay_is (w : ByteArray) : rdWay w = if waK w = true then [.bool (waS w), .bool (waH w), .bool true] else [.bool false, .bool false, .bool false] := by
  unfold rdWay waK waS waH
  by_cases h1 : w.data.toList = [98, 111, 116, 104]
  · rw [if_pos h1, h1]; rfl
  · rw [if_neg h1]
    by_cases h2 : w.data.toList = [115, 101, 110, 100]
    · rw [if_pos h2, h2]; rfl
    · rw [if_neg h2]
      by_cases h3 : w.data.toList = [104, 101, 97, 114]
      · rw [if_pos h3, h3]; rfl
      · rw [if_neg h3]
        by_cases h4 : w.data.toList = [110, 111, 110, 101]
        · rw [if_pos h4, h4]; rfl
        · rw [if_neg h4, if_neg]
          rw [decide_eq_true_eq]
          intro e
          have f1 : (w.data.toList == [98, 111, 116, 104]) = false := by simpa using h1
          have f2 : (w.data.toList == [115, 101, 110, 100]) = false := by simpa using h2
          have f3 : (w.data.toList == [104, 101, 97, 114]) = false := by simpa using h3
          rw [f1, f2, f3] at e
          exact h4 e.symm
theorem rdW3 (k p w : ByteArray) (cs : List ByteArray) : rdW (k :: p :: w :: cs) = if waK w = true ∧ medB ⟨k, readN p.data.toList, waS w, waH w, cs⟩ = true then some ⟨k, readN p.data.toList, waS w, waH w, cs⟩ else none := by
  cases cs with
  | nil =>
    rw [if_neg]
    · rfl
    · intro h
      have := (med_parts h.2).2.2.2.2.2.1
      simp at this
  | cons c cs =>
    unfold rdW waK
    simp only [decide_eq_true_eq]
    rfl
theorem ok_irm : FnOk Try.prog 49 s_irm := by
  refine fnOk (fn := Try.f49) (F := F_irm) (hs := hs_irm) (tab_cons ok_icut (tab_cons ok_irway (tab_cons ok_iread (tab_cons ok_imed tab_nil)))) mixed rfl rfl rfl [.str] (by kernel_rfl) (by simp) ?_
  intro s hs
  have hs : s.size ≤ 1048575 := hs
  obtain ⟨wl, wsz⟩ := words_len s
  refine ⟨fun _ _ => False, fun _ _ => 0, ?_, fun _ _ h => h.elim⟩
  rw [t_irm]
  simp only [F_irm_icut, F_irm_irway, F_irm_iread, F_irm_imed, s_icut, s_irway, s_iread, s_imed, Tree.holds, ltI_t, ltI_f, leI_t, leI_f, all_cons, all_nil, and_true, true_and, forall_eq, decide_eq_true_eq, decide_eq_false_iff_not, beq_iff_eq, beq_eq_false_iff_ne, bne_iff_ne, bne_eq_false_iff_eq, ne_eq, Decidable.not_not, selI_z, selB_z, selS_z, selN_z, selL_z, selI_s, selB_s, selS_s, selN_s, selL_s, Int.toNat_natCast, Nat.mul_one, Nat.zero_add, Nat.div_one, List.drop_zero, Nat.zero_mul, Nat.le_refl, Bool.not_eq_true', Bool.not_eq_false', Bool.false_eq_true, Bool.true_eq_false, not_true_eq_false, not_false_eq_true, false_imp_iff, true_imp_iff, if_true, if_false, sig, sigF, sigW, sigR, sigO, sigD, sigWD, List.map_cons, List.map_nil]
  refine ⟨hs, ?_⟩
  by_cases h7 : (wordsS s).length ≤ 7
  · have hc : cutD s = [.list 9 (wordsS s).length (textsD (wordsS s))] := by unfold cutD; rw [if_pos h7]
    simp only [hc, F_irm_icut, F_irm_irway, F_irm_iread, F_irm_imed, s_icut, s_irway, s_iread, s_imed, Tree.holds, ltI_t, ltI_f, leI_t, leI_f, all_cons, all_nil, and_true, true_and, forall_eq, decide_eq_true_eq, decide_eq_false_iff_not, beq_iff_eq, beq_eq_false_iff_ne, bne_iff_ne, bne_eq_false_iff_eq, ne_eq, Decidable.not_not, selI_z, selB_z, selS_z, selN_z, selL_z, selI_s, selB_s, selS_s, selN_s, selL_s, Int.toNat_natCast, Nat.mul_one, Nat.zero_add, Nat.div_one, List.drop_zero, Nat.zero_mul, Nat.le_refl, Bool.not_eq_true', Bool.not_eq_false', Bool.false_eq_true, Bool.true_eq_false, not_true_eq_false, not_false_eq_true, false_imp_iff, true_imp_iff, if_true, if_false, sig, sigF, sigW, sigR, sigO, sigD, sigWD, List.map_cons, List.map_nil, sel_kstr]
    refine ⟨fun hlt => ?_, fun hge => ?_⟩
    · have : rdW (wordsS s) = none := by
        match hw : wordsS s with
        | [] => rfl
        | [_] => rfl
        | [_, _] => rfl
        | _ :: _ :: _ :: _ => rw [hw] at hlt; simp at hlt; omega
      rw [this]; rfl
    · obtain ⟨k, p, w, cs, hw⟩ : ∃ k p w cs, wordsS s = k :: p :: w :: cs := by
        match hw : wordsS s with
        | [] => rw [hw] at hge; simp at hge
        | [_] => rw [hw] at hge; simp at hge
        | [_, _] => rw [hw] at hge; simp at hge
        | k :: p :: w :: cs => exact ⟨k, p, w, cs, rfl⟩
      have hr := rdW3 k p w cs
      rw [hw] at wl wsz h7 ⊢
      have y0 : (textsD (k :: p :: w :: cs))[0]? = some (.str k) := rfl
      have y1 : (textsD (k :: p :: w :: cs))[1]? = some (.str p) := rfl
      have y2 : (textsD (k :: p :: w :: cs))[2]? = some (.str w) := rfl
      have hn : (((k :: p :: w :: cs).length : Nat) : Int) = cs.length + 3 := by simp only [List.length_cons]; omega
      have hn2 : ((cs.length : Int) + 3 - 3).toNat = cs.length := by omega
      have hd : List.take cs.length (List.drop 3 (textsD (k :: p :: w :: cs))) = textsD cs := by
        show List.take cs.length (textsD cs) = _
        exact List.take_of_length_le (by rw [textsD_len]; omega)
      have hu : ∀ S H : Bool, unM [.str k, .int .i64 (readN p.data.toList), .bool S, .bool H, .list 9 cs.length (textsD cs)] = ⟨k, readN p.data.toList, S, H, cs⟩ := fun S H => unM_med ⟨k, readN p.data.toList, S, H, cs⟩
      have z0 := wsz k (by simp)
      have z1 := wsz p (by simp)
      have zl : (textsD (k :: p :: w :: cs)).length = cs.length + 3 := by rw [textsD_len]; simp
      rw [selS_of y0, selS_of y1, selS_of y2]
      simp only [hn, Option.getD_some, Option.getD_none, show ((3 : Int)).toNat = 3 from rfl, hn2, hd, Nat.zero_add, hu]
      have hpre : ∀ S H : Bool, ∃ m, [D.str k, .int .i64 (readN p.data.toList), .bool S, .bool H, .list 9 cs.length (textsD cs)] = medD m ∧ smM m := fun S H => ⟨⟨k, readN p.data.toList, S, H, cs⟩, rfl, by show k.size ≤ _; omega, by show cs.length ≤ _; simp only [List.length_cons] at wl; omega, fun x hx => by
        have := wsz x (List.mem_cons_of_mem _ (List.mem_cons_of_mem _ (List.mem_cons_of_mem _ hx)))
        omega⟩
      have hz : p.size ≤ maxLen := by unfold maxLen; omega
      have hway := rdWay_is w
      by_cases hk : waK w = true
      · rw [if_pos hk] at hway
        rw [hway, hr]
        simp only [F_irm_icut, F_irm_irway, F_irm_iread, F_irm_imed, s_icut, s_irway, s_iread, s_imed, Tree.holds, ltI_t, ltI_f, leI_t, leI_f, all_cons, all_nil, and_true, true_and, forall_eq, decide_eq_true_eq, decide_eq_false_iff_not, beq_iff_eq, beq_eq_false_iff_ne, bne_iff_ne, bne_eq_false_iff_eq, ne_eq, Decidable.not_not, selI_z, selB_z, selS_z, selN_z, selL_z, selI_s, selB_s, selS_s, selN_s, selL_s, Int.toNat_natCast, Nat.mul_one, Nat.zero_add, Nat.div_one, List.drop_zero, Nat.zero_mul, Nat.le_refl, Bool.not_eq_true', Bool.not_eq_false', Bool.false_eq_true, Bool.true_eq_false, not_true_eq_false, not_false_eq_true, false_imp_iff, true_imp_iff, if_true, if_false, sig, sigF, sigW, sigR, sigO, sigD, sigWD, List.map_cons, List.map_nil, hk]
        refine ⟨⟨by omega, by omega⟩, y2, ⟨by omega, by omega⟩, y0, ⟨by omega, by omega⟩, y1, ⟨by omega, by omega, by omega⟩, hz, by omega, hpre _ _, fun e => ?_, fun e => ?_⟩
        · rw [if_neg (fun h => by rw [e] at h; cases h)]; rfl
        · rw [if_pos e]
          exact ⟨by omega, rfl⟩
      · rw [if_neg hk] at hway
        rw [hway, hr, if_neg (fun h => hk h.1)]
        simp only [F_irm_icut, F_irm_irway, F_irm_iread, F_irm_imed, s_icut, s_irway, s_iread, s_imed, Tree.holds, ltI_t, ltI_f, leI_t, leI_f, all_cons, all_nil, and_true, true_and, forall_eq, decide_eq_true_eq, decide_eq_false_iff_not, beq_iff_eq, beq_eq_false_iff_ne, bne_iff_ne, bne_eq_false_iff_eq, ne_eq, Decidable.not_not, selI_z, selB_z, selS_z, selN_z, selL_z, selI_s, selB_s, selS_s, selN_s, selL_s, Int.toNat_natCast, Nat.mul_one, Nat.zero_add, Nat.div_one, List.drop_zero, Nat.zero_mul, Nat.le_refl, Bool.not_eq_true', Bool.not_eq_false', Bool.false_eq_true, Bool.true_eq_false, not_true_eq_false, not_false_eq_true, false_imp_iff, true_imp_iff, if_true, if_false, sig, sigF, sigW, sigR, sigO, sigD, sigWD, List.map_cons, List.map_nil]
        exact ⟨⟨by omega, by omega⟩, y2, ⟨by omega, by omega⟩, y0, ⟨by omega, by omega⟩, y1, ⟨by omega, by omega, by omega⟩, hz, rfl⟩
  · have hc : cutD s = [.list 9 0 []] := by unfold cutD; rw [if_neg h7]
    have hr : rdW (wordsS s) = none := by
      match hw : wordsS s with
      | [] => rfl
      | [_] => rfl
      | [_, _] => rfl
      | k :: p :: w :: cs =>
        rw [rdW3, if_neg]
        intro h
        have := (med_parts h.2).2.2.2.2.2.2
        rw [hw] at h7
        simp only [List.length_cons] at h7
        have : cs.length ≤ 4 := this
        omega
    simp only [hc, hr, F_irm_icut, F_irm_irway, F_irm_iread, F_irm_imed, s_icut, s_irway, s_iread, s_imed, Tree.holds, ltI_t, ltI_f, leI_t, leI_f, all_cons, all_nil, and_true, true_and, forall_eq, decide_eq_true_eq, decide_eq_false_iff_not, beq_iff_eq, beq_eq_false_iff_ne, bne_iff_ne, bne_eq_false_iff_eq, ne_eq, Decidable.not_not, selI_z, selB_z, selS_z, selN_z, selL_z, selI_s, selB_s, selS_s, selN_s, selL_s, Int.toNat_natCast, Nat.mul_one, Nat.zero_add, Nat.div_one, List.drop_zero, Nat.zero_mul, Nat.le_refl, Bool.not_eq_true', Bool.not_eq_false', Bool.false_eq_true, Bool.true_eq_false, not_true_eq_false, not_false_eq_true, false_imp_iff, true_imp_iff, if_true, if_false, sig, sigF, sigW, sigR, sigO, sigD, sigWD, List.map_cons, List.map_nil]
    exact ⟨fun _ => rfl, fun h => absurd (by decide) h⟩
/-- Media, so many of them read. -/
def medsK (n : Nat) (l : List Med) : List D := offD l ++ (rep n [D.str ⟨#[]⟩, .int .i64 0, .bool false, .bool false, .list 0 0 []]).drop (l.length * 5)
theorem medsK_len {n : Nat} {l : List Med} (h : l.length ≤ n) : (medsK n l).length = n * 5 := by
  unfold medsK
  rw [List.length_append, offD_len, List.length_drop, rep_len]
  simp only [List.length_cons, List.length_nil]
  omega
theorem medsK_all (l : List Med) : medsK l.length l = offD l := by
  unfold medsK
  rw [List.drop_of_length_le (by rw [rep_len]; simp), List.append_nil]
theorem medsK_step {n : Nat} {l : List Med} (m : Med) (h : l.length < n) : setL (medsK n l) (l.length * 5) (medD m) = medsK n (l ++ [m]) := by
  have h1 := offD_len l
  unfold setL medsK
  rw [List.take_append_of_le_length (by omega), List.take_of_length_le (by omega)]
  rw [List.drop_append, List.drop_of_length_le (by rw [medD_len]; omega), h1, List.nil_append, List.drop_drop]
  rw [medD_len, show l.length * 5 + (l.length * 5 + 5 - l.length * 5) = (l ++ [m]).length * 5 by simp; omega]
  unfold offD
  rw [flatD_append, flatD_one]
theorem ok_iro : FnOk Try.prog 28 s_iro := by
  refine fnOk (fn := Try.f28) (F := F_iro) (hs := hs_iro) (tab_cons ok_irm tab_nil) mixed rfl rfl rfl [.list 9] (by kernel_rfl) (by simp) ?_
  rintro n cs ⟨ls, e, hl, hs⟩
  simp only [List.cons.injEq, D.list.injEq, true_and, and_true] at e
  obtain ⟨rfl, rfl⟩ := e
  refine ⟨fun h ys => h = 0 ∧ ∃ (i : Nat) (out : List Med), ys = [.list 9 ls.length (textsD ls), .int .i64 (0 : Nat), .int .i64 (ls.length : Nat), .int .i64 i, .list 25 0 (medsK ls.length out)] ∧ i ≤ ls.length ∧ rdLs (ls.take i) = some out ∧ ls.length ≤ 4, fun h ys => ls.length - (selI ys 3).toNat, ?_, ?_⟩
  · rw [t_iro]
    simp only [F_iro_irm, s_irm, Tree.holds, ltI_t, ltI_f, leI_t, leI_f, all_cons, all_nil, and_true, true_and, forall_eq, decide_eq_true_eq, decide_eq_false_iff_not, beq_iff_eq, beq_eq_false_iff_ne, bne_iff_ne, bne_eq_false_iff_eq, ne_eq, Decidable.not_not, selI_z, selB_z, selS_z, selN_z, selL_z, selI_s, selB_s, selS_s, selN_s, selL_s, Int.toNat_natCast, Nat.mul_one, Nat.zero_add, Nat.div_one, List.drop_zero, Nat.zero_mul, Nat.le_refl, Bool.not_eq_true', Bool.not_eq_false', Bool.false_eq_true, Bool.true_eq_false, not_true_eq_false, not_false_eq_true, false_imp_iff, true_imp_iff, if_true, if_false, sig, sigF, sigW, sigR, sigO, sigD, sigWD, List.map_cons, List.map_nil, unS_texts]
    refine ⟨fun h => ?_, fun h => ⟨⟨by omega, by omega, by omega⟩, ⟨0, [], rfl, by omega, rfl, by omega⟩⟩⟩
    unfold rdOf
    rw [if_neg (by omega)]
    rfl
  · rintro h ys ⟨rfl, i, out, rfl, hi, hr, h4⟩
    have hol : out.length = i := by rw [rdLs_len hr, List.length_take]; omega
    rw [t_iro0]
    simp only [F_iro_irm, s_irm, Tree.holds, ltI_t, ltI_f, leI_t, leI_f, all_cons, all_nil, and_true, true_and, forall_eq, decide_eq_true_eq, decide_eq_false_iff_not, beq_iff_eq, beq_eq_false_iff_ne, bne_iff_ne, bne_eq_false_iff_eq, ne_eq, Decidable.not_not, selI_z, selB_z, selS_z, selN_z, selL_z, selI_s, selB_s, selS_s, selN_s, selL_s, Int.toNat_natCast, Nat.mul_one, Nat.zero_add, Nat.div_one, List.drop_zero, Nat.zero_mul, Nat.le_refl, Bool.not_eq_true', Bool.not_eq_false', Bool.false_eq_true, Bool.true_eq_false, not_true_eq_false, not_false_eq_true, false_imp_iff, true_imp_iff, if_true, if_false, sig, sigF, sigW, sigR, sigO, sigD, sigWD, List.map_cons, List.map_nil, sel_kstr, sel_kint, sel_kbool, unS_texts]
    refine ⟨fun hj => ?_, fun hj => ?_⟩
    · obtain ⟨s, x1, x2, x3⟩ := textsD_get (ls := ls) (i := i) (by omega)
      rw [selS_of x2]
      refine ⟨⟨by omega, by omega⟩, x2, hs s x3, ?_⟩
      cases hw : rdW (wordsS s) with
      | none =>
        simp only [rdMed, zeroM, F_iro_irm, s_irm, Tree.holds, ltI_t, ltI_f, leI_t, leI_f, all_cons, all_nil, and_true, true_and, forall_eq, decide_eq_true_eq, decide_eq_false_iff_not, beq_iff_eq, beq_eq_false_iff_ne, bne_iff_ne, bne_eq_false_iff_eq, ne_eq, Decidable.not_not, selI_z, selB_z, selS_z, selN_z, selL_z, selI_s, selB_s, selS_s, selN_s, selL_s, Int.toNat_natCast, Nat.mul_one, Nat.zero_add, Nat.div_one, List.drop_zero, Nat.zero_mul, Nat.le_refl, Bool.not_eq_true', Bool.not_eq_false', Bool.false_eq_true, Bool.true_eq_false, not_true_eq_false, not_false_eq_true, false_imp_iff, true_imp_iff, if_true, if_false, sig, sigF, sigW, sigR, sigO, sigD, sigWD, List.map_cons, List.map_nil, List.cons_append, List.nil_append]
        rw [rdOf_no x3 hw]
        rfl
      | some m =>
        simp only [rdMed, medD, F_iro_irm, s_irm, Tree.holds, ltI_t, ltI_f, leI_t, leI_f, all_cons, all_nil, and_true, true_and, forall_eq, decide_eq_true_eq, decide_eq_false_iff_not, beq_iff_eq, beq_eq_false_iff_ne, bne_iff_ne, bne_eq_false_iff_eq, ne_eq, Decidable.not_not, selI_z, selB_z, selS_z, selN_z, selL_z, selI_s, selB_s, selS_s, selN_s, selL_s, Int.toNat_natCast, Nat.mul_one, Nat.zero_add, Nat.div_one, List.drop_zero, Nat.zero_mul, Nat.le_refl, Bool.not_eq_true', Bool.not_eq_false', Bool.false_eq_true, Bool.true_eq_false, not_true_eq_false, not_false_eq_true, false_imp_iff, true_imp_iff, if_true, if_false, sig, sigF, sigW, sigR, sigO, sigD, sigWD, List.map_cons, List.map_nil, List.cons_append, List.nil_append]
        refine ⟨⟨by omega, by omega⟩, by rw [medsK_len (by omega)]; omega, by unfold inK; omega, ⟨i + 1, out ++ [m], ?_, by omega, ?_, h4⟩, by omega⟩
        · have := medsK_step (n := ls.length) (l := out) m (by omega)
          rw [← this, hol]
          rfl
        · rw [List.take_add_one, x1]
          show rdLs (ls.take i ++ [s]) = _
          rw [rdLs_snoc, hr, hw]
    · obtain rfl : i = ls.length := by omega
      rw [List.take_of_length_le (Nat.le_refl _)] at hr
      have e : medsK ls.length out = offD out := by rw [← hol]; exact medsK_all out
      have e2 : List.take (ls.length * 5) (offD out) = offD out := List.take_of_length_le (by rw [offD_len, hol]; omega)
      rw [e, e2]
      refine ⟨by rw [offD_len]; omega, ?_⟩
      unfold rdOf
      rw [if_pos h4, hr]
      show _ = [D.list 25 out.length (offD out), .bool true]
      rw [hol]
end Go.Proofs.Ytgoheolehnahkaa.Mini
end
section
/- Chapter 9: offers: the exact laws and their helpers. -/
namespace Go.Proofs.Ytgoheolehnahkaa.Mini
open Go Go.RowKit
set_option linter.unusedVariables false
set_option linter.unusedSimpArgs false
set_option maxRecDepth 20000
/-- A media that came in. -/
def wfM (m : Med) : Prop := m.k.size ≤ maxLen ∧ m.c.length ≤ maxLen ∧ ∀ x ∈ m.c, x.size ≤ maxLen
def lawD (l : List Med) : List D := [.list 30 l.length (offD l)]
def impD (l : List Med) : List D := [.list 25 l.length (offD l)]
noncomputable def s_szmed : Sig := sig Try.f15 (fun xs => ∃ (m : Med) (a : Int), xs = medD m ++ [.int .i64 a] ∧ wfM m ∧ -1 ≤ a ∧ a ≤ 2147483647) (fun xs ys => ∃ r : Int, ys = [.int .i64 r] ∧ -1 ≤ r ∧ r ≤ selI xs 5 ∧ (0 ≤ r → selI xs 5 ≤ 1048576 → smM (unM xs)))
noncomputable def s_szoff : Sig := sig Try.f21 (fun xs => ∃ (l : List Med) (a : Int), xs = lawD l ++ [.int .i64 a] ∧ l.length ≤ maxLen ∧ (∀ m ∈ l, wfM m) ∧ -1 ≤ a ∧ a ≤ 2147483647) (fun xs ys => ∃ r : Int, ys = [.int .i64 r] ∧ -1 ≤ r ∧ r ≤ selI xs 1 ∧ (0 ≤ r → selI xs 1 ≤ 1048576 → selN xs 0 ≤ 1048576 ∧ ∀ m ∈ unO (selL xs 0), smM m))
noncomputable def s_tomed : Sig := sigF Try.f16 (fun xs => ∃ m : Med, xs = medD m ∧ smM m) (fun xs ys => ys = medD (unM xs))
noncomputable def s_tooff : Sig := sigF Try.f22 (fun xs => ∃ l : List Med, xs = lawD l ∧ l.length ≤ 1048576 ∧ ∀ m ∈ l, smM m) (fun xs ys => ys = impD (unO (selL xs 0)))
noncomputable def s_eqmed : Sig := sig Try.f17 (fun xs => ∃ m : Med, xs = medD m ++ medD m ∧ smM m) (fun xs ys => ys = [.bool true])
noncomputable def s_eqoff : Sig := sig Try.f23 (fun xs => ∃ l : List Med, xs = impD l ++ impD l ∧ l.length ≤ 1048576 ∧ ∀ m ∈ l, smM m) (fun xs ys => ys = [.bool true])
noncomputable def s_emv : Sig := sig Try.f4 (fun xs => wfXs Try.prog 4 [.str, .int .i64, .bool, .bool, .list 9] xs) (fun xs ys => ys = [.bool true])
noncomputable def s_eov : Sig := sig Try.f6 (fun xs => wfXs Try.prog 4 [.list 30] xs) (fun xs ys => ys = [.bool true])
noncomputable def F_szmed : Tb := tab [(36, s_szstr)]
theorem F_szmed_szstr : F_szmed 36 = some s_szstr := rfl
noncomputable def hs_szmed : Hds := []
set_option maxHeartbeats 4000000 in
theorem t_szmed (a0 : ByteArray) (a1 : Int) (a2 : Bool) (a3 : Bool) (a4n : Nat) (a4 : List D) (a5 : Int) : fnT' Try.prog F_szmed hs_szmed .own Try.f15 [.str a0, .int IntKind.i64 a1, .bool a2, .bool a3, .list 9 a4n a4, .int IntKind.i64 a5] = (Tree.need (all_ [(inK .i64 (a5 - (Nat.cast (ByteArray.size a0) : Int)))]) (Tree.ite (ltI (a5 - (Nat.cast (ByteArray.size a0) : Int)) (0 : Int)) (Tree.ret [(D.int .i64 (-(1 : Int)))]) (Tree.call 36 [(D.list 9 a4n a4), (D.int .i64 (a5 - (Nat.cast (ByteArray.size a0) : Int)))] (fun y197 => (Tree.ite (ltI (selI y197 0) (0 : Int)) (Tree.ret [(D.int .i64 (-(1 : Int)))]) (Tree.ret [(D.int .i64 (selI y197 0))])))))) := by kernel_rfl
noncomputable def F_szoff : Tb := tab [(15, s_szmed)]
theorem F_szoff_szmed : F_szoff 15 = some s_szmed := rfl
noncomputable def hs_szoff : Hds := [([false, true, false, true, true, true], shapeW Try.f21 0 [(0, .one (.kd (.list 30))), (1, .one (.kd (.int .i64))), (5, .one (.kd (.int .i64)))] [])]
set_option maxHeartbeats 4000000 in
theorem t_szoff (a0n : Nat) (a0 : List D) (a1 : Int) : fnT' Try.prog F_szoff hs_szoff .own Try.f21 [.list 30 a0n a0, .int IntKind.i64 a1] = (Tree.need (all_ [(inK .i64 (a1 - (Nat.cast a0n : Int)))]) (Tree.ite (ltI (a1 - (Nat.cast a0n : Int)) (0 : Int)) (Tree.ret [(D.int .i64 (-(1 : Int)))]) (Tree.goto 0 [(D.list 30 a0n a0), (D.int .i64 (a1 - (Nat.cast a0n : Int))), (D.int .i64 (0 : Int))]))) := by kernel_rfl
set_option maxHeartbeats 4000000 in
theorem t_szoff0 (x0n : Nat) (x0 : List D) (x1 : Int) (x5 : Int) : plT' Try.prog F_szoff hs_szoff .own Try.f21 0 [.list 30 x0n x0, .int .i64 x1, .int .i64 x5] = (Tree.ite (ltI x5 (Nat.cast x0n : Int)) (Tree.need (all_ [(((0 : Int) ≤ x5) ∧ (x5 < (Nat.cast x0n : Int)))]) (Tree.need (all_ [((GetElem?.getElem? x0 ((Int.toNat x5) * (5 : Nat))) = (Option.some (sel x0 ((Int.toNat x5) * (5 : Nat)) Kd.str))), ((GetElem?.getElem? x0 (((Int.toNat x5) * (5 : Nat)) + (1 : Nat))) = (Option.some (sel x0 (((Int.toNat x5) * (5 : Nat)) + (1 : Nat)) (Kd.int .i64)))), ((GetElem?.getElem? x0 ((((Int.toNat x5) * (5 : Nat)) + (1 : Nat)) + (1 : Nat))) = (Option.some (sel x0 ((((Int.toNat x5) * (5 : Nat)) + (1 : Nat)) + (1 : Nat)) Kd.bool))), ((GetElem?.getElem? x0 (((((Int.toNat x5) * (5 : Nat)) + (1 : Nat)) + (1 : Nat)) + (1 : Nat))) = (Option.some (sel x0 (((((Int.toNat x5) * (5 : Nat)) + (1 : Nat)) + (1 : Nat)) + (1 : Nat)) Kd.bool))), (((GetElem?.getElem? x0 ((((((Int.toNat x5) * (5 : Nat)) + (1 : Nat)) + (1 : Nat)) + (1 : Nat)) + (1 : Nat))) = (Option.some (D.list 9 (selN x0 ((((((Int.toNat x5) * (5 : Nat)) + (1 : Nat)) + (1 : Nat)) + (1 : Nat)) + (1 : Nat))) (selL x0 ((((((Int.toNat x5) * (5 : Nat)) + (1 : Nat)) + (1 : Nat)) + (1 : Nat)) + (1 : Nat)))))) ∨ ((GetElem?.getElem? x0 ((((((Int.toNat x5) * (5 : Nat)) + (1 : Nat)) + (1 : Nat)) + (1 : Nat)) + (1 : Nat))) = (Option.some (D.list 0 (0 : Nat) []))))]) (Tree.call 15 [(D.str (selS x0 ((Int.toNat x5) * (5 : Nat)))), (D.int .i64 (selI x0 (((Int.toNat x5) * (5 : Nat)) + (1 : Nat)))), (D.bool (selB x0 ((((Int.toNat x5) * (5 : Nat)) + (1 : Nat)) + (1 : Nat)))), (D.bool (selB x0 (((((Int.toNat x5) * (5 : Nat)) + (1 : Nat)) + (1 : Nat)) + (1 : Nat)))), (D.list 9 (selN x0 ((((((Int.toNat x5) * (5 : Nat)) + (1 : Nat)) + (1 : Nat)) + (1 : Nat)) + (1 : Nat))) (selL x0 ((((((Int.toNat x5) * (5 : Nat)) + (1 : Nat)) + (1 : Nat)) + (1 : Nat)) + (1 : Nat)))), (D.int .i64 x1)] (fun y196 => (Tree.ite (ltI (selI y196 0) (0 : Int)) (Tree.ret [(D.int .i64 (-(1 : Int)))]) (Tree.need (all_ [(inK .i64 (x5 + (1 : Int)))]) (Tree.goto 0 [(D.list 30 x0n x0), (D.int .i64 (selI y196 0)), (D.int .i64 (x5 + (1 : Int)))]))))))) (Tree.ret [(D.int .i64 x1)])) := by kernel_rfl
noncomputable def F_tomed : Tb := tab [(37, s_tostr)]
theorem F_tomed_tostr : F_tomed 37 = some s_tostr := rfl
noncomputable def hs_tomed : Hds := []
set_option maxHeartbeats 4000000 in
theorem t_tomed (a0 : ByteArray) (a1 : Int) (a2 : Bool) (a3 : Bool) (a4n : Nat) (a4 : List D) : fnT' Try.prog F_tomed hs_tomed .fz Try.f16 [.str a0, .int IntKind.i64 a1, .bool a2, .bool a3, .list 9 a4n a4] = (Tree.call 37 [(D.list 9 a4n a4)] (fun y199 => (Tree.need (all_ [((((0 : Nat) + (selN y199 0)) * (1 : Nat)) ≤ (List.length (selL y199 0)))]) (Tree.ret [(D.str a0), (D.int .i64 a1), (D.bool a2), (D.bool a3), (D.list 9 (selN y199 0) (List.take ((selN y199 0) * (1 : Nat)) (List.drop ((0 : Nat) * (1 : Nat)) (selL y199 0))))])))) := by kernel_rfl
noncomputable def F_tooff : Tb := tab [(16, s_tomed)]
theorem F_tooff_tomed : F_tooff 16 = some s_tomed := rfl
noncomputable def hs_tooff : Hds := [([false, true, false, true, true], shapeW Try.f22 0 [(0, .one (.kd (.list 30))), (3, .one (.sl 25 0)), (4, .one (.kd (.int .i64)))] [.sym 25])]
set_option maxHeartbeats 4000000 in
theorem t_tooff (a0n : Nat) (a0 : List D) : fnT' Try.prog F_tooff hs_tooff .fz Try.f22 [.list 30 a0n a0] = (Tree.need (all_ [(((Nat.cast a0n : Int) = (Nat.cast a0n : Int)) ∧ (((0 : Int) ≤ (Nat.cast a0n : Int)) ∧ ((((Nat.cast a0n : Int) * (Nat.cast (5 : Nat) : Int)) ≤ (16777216 : Int)) ∧ (((Nat.cast (56 : Nat) : Int) * (Nat.cast a0n : Int)) ≤ (281474976710656 : Int)))))]) (Tree.goto 0 [(D.list 30 a0n a0), (D.int .i64 (Nat.cast (0 : Nat) : Int)), (D.int .i64 (Nat.cast a0n : Int)), (D.int .i64 (0 : Int)), (D.list 25 (0 : Nat) (rep a0n [(D.str (ByteArray.mk (List.toArray []))), (D.int .i64 (0 : Int)), (D.bool false), (D.bool false), (D.list 0 (0 : Nat) [])]))])) := by kernel_rfl
set_option maxHeartbeats 4000000 in
theorem t_tooff0 (x0n : Nat) (x0 : List D) (x3o x3n : Nat) (x4 : Int) (r0 : List D) : plT' Try.prog F_tooff hs_tooff .fz Try.f22 0 [.list 30 x0n x0, .int .i64 (x3o : Nat), .int .i64 (x3n : Nat), .int .i64 x4, .list 25 0 r0] = (Tree.ite (ltI x4 (Nat.cast x0n : Int)) (Tree.need (all_ [(((0 : Int) ≤ x4) ∧ (x4 < (Nat.cast x0n : Int)))]) (Tree.need (all_ [((GetElem?.getElem? x0 ((Int.toNat x4) * (5 : Nat))) = (Option.some (sel x0 ((Int.toNat x4) * (5 : Nat)) Kd.str))), ((GetElem?.getElem? x0 (((Int.toNat x4) * (5 : Nat)) + (1 : Nat))) = (Option.some (sel x0 (((Int.toNat x4) * (5 : Nat)) + (1 : Nat)) (Kd.int .i64)))), ((GetElem?.getElem? x0 ((((Int.toNat x4) * (5 : Nat)) + (1 : Nat)) + (1 : Nat))) = (Option.some (sel x0 ((((Int.toNat x4) * (5 : Nat)) + (1 : Nat)) + (1 : Nat)) Kd.bool))), ((GetElem?.getElem? x0 (((((Int.toNat x4) * (5 : Nat)) + (1 : Nat)) + (1 : Nat)) + (1 : Nat))) = (Option.some (sel x0 (((((Int.toNat x4) * (5 : Nat)) + (1 : Nat)) + (1 : Nat)) + (1 : Nat)) Kd.bool))), (((GetElem?.getElem? x0 ((((((Int.toNat x4) * (5 : Nat)) + (1 : Nat)) + (1 : Nat)) + (1 : Nat)) + (1 : Nat))) = (Option.some (D.list 9 (selN x0 ((((((Int.toNat x4) * (5 : Nat)) + (1 : Nat)) + (1 : Nat)) + (1 : Nat)) + (1 : Nat))) (selL x0 ((((((Int.toNat x4) * (5 : Nat)) + (1 : Nat)) + (1 : Nat)) + (1 : Nat)) + (1 : Nat)))))) ∨ ((GetElem?.getElem? x0 ((((((Int.toNat x4) * (5 : Nat)) + (1 : Nat)) + (1 : Nat)) + (1 : Nat)) + (1 : Nat))) = (Option.some (D.list 0 (0 : Nat) []))))]) (Tree.call 16 [(D.str (selS x0 ((Int.toNat x4) * (5 : Nat)))), (D.int .i64 (selI x0 (((Int.toNat x4) * (5 : Nat)) + (1 : Nat)))), (D.bool (selB x0 ((((Int.toNat x4) * (5 : Nat)) + (1 : Nat)) + (1 : Nat)))), (D.bool (selB x0 (((((Int.toNat x4) * (5 : Nat)) + (1 : Nat)) + (1 : Nat)) + (1 : Nat)))), (D.list 9 (selN x0 ((((((Int.toNat x4) * (5 : Nat)) + (1 : Nat)) + (1 : Nat)) + (1 : Nat)) + (1 : Nat))) (selL x0 ((((((Int.toNat x4) * (5 : Nat)) + (1 : Nat)) + (1 : Nat)) + (1 : Nat)) + (1 : Nat))))] (fun y196 => (Tree.need (all_ [(((0 : Int) ≤ x4) ∧ (x4 < (Nat.cast x3n : Int)))]) (Tree.need (all_ [((((x3o + (Int.toNat x4)) * (5 : Nat)) + (5 : Nat)) ≤ (List.length r0))]) (Tree.need (all_ [(inK .i64 (x4 + (1 : Int)))]) (Tree.goto 0 [(D.list 30 x0n x0), (D.int .i64 (Nat.cast x3o : Int)), (D.int .i64 (Nat.cast x3n : Int)), (D.int .i64 (x4 + (1 : Int))), (D.list 25 (0 : Nat) (setL r0 ((x3o + (Int.toNat x4)) * (5 : Nat)) [(sel y196 (0 : Nat) Kd.str), (sel y196 ((0 : Nat) + (1 : Nat)) (Kd.int .i64)), (sel y196 (((0 : Nat) + (1 : Nat)) + (1 : Nat)) Kd.bool), (sel y196 ((((0 : Nat) + (1 : Nat)) + (1 : Nat)) + (1 : Nat)) Kd.bool), (sel y196 (((((0 : Nat) + (1 : Nat)) + (1 : Nat)) + (1 : Nat)) + (1 : Nat)) (Kd.list (9 : Nat)))]))])))))))) (Tree.need (all_ [(((x3o + x3n) * (5 : Nat)) ≤ (List.length r0))]) (Tree.ret [(D.list 25 x3n (List.take (x3n * (5 : Nat)) (List.drop (x3o * (5 : Nat)) r0)))]))) := by kernel_rfl
noncomputable def F_eqmed : Tb := tab [(30, s_eqstr)]
theorem F_eqmed_eqstr : F_eqmed 30 = some s_eqstr := rfl
noncomputable def hs_eqmed : Hds := []
set_option maxHeartbeats 4000000 in
theorem t_eqmed (a0 : ByteArray) (a1 : Int) (a2 : Bool) (a3 : Bool) (a4n : Nat) (a4 : List D) (a5 : ByteArray) (a6 : Int) (a7 : Bool) (a8 : Bool) (a9n : Nat) (a9 : List D) : fnT' Try.prog F_eqmed hs_eqmed .own Try.f17 [.str a0, .int IntKind.i64 a1, .bool a2, .bool a3, .list 9 a4n a4, .str a5, .int IntKind.i64 a6, .bool a7, .bool a8, .list 9 a9n a9] = (Tree.ite (Bool.not ((ByteArray.toList a0) == (ByteArray.toList a5))) (Tree.ret [(D.bool false)]) (Tree.ite (a1 != a6) (Tree.ret [(D.bool false)]) (Tree.ite (Bool.not (a2 == a7)) (Tree.ret [(D.bool false)]) (Tree.ite (Bool.not (a3 == a8)) (Tree.ret [(D.bool false)]) (Tree.call 30 [(D.list 9 a4n a4), (D.list 9 a9n a9)] (fun y195 => (Tree.ite (Bool.not (selB y195 0)) (Tree.ret [(D.bool false)]) (Tree.ret [(D.bool true)])))))))) := by kernel_rfl
noncomputable def F_eqoff : Tb := tab [(17, s_eqmed)]
theorem F_eqoff_eqmed : F_eqoff 17 = some s_eqmed := rfl
noncomputable def hs_eqoff : Hds := [([false, true, false, true, true], shapeW Try.f23 0 [(0, .one (.kd (.list 25))), (1, .one (.kd (.list 25))), (5, .one (.kd (.int .i64)))] [])]
set_option maxHeartbeats 4000000 in
theorem t_eqoff (a0n : Nat) (a0 : List D) (a1n : Nat) (a1 : List D) : fnT' Try.prog F_eqoff hs_eqoff .own Try.f23 [.list 25 a0n a0, .list 25 a1n a1] = (Tree.ite ((Nat.cast a0n : Int) != (Nat.cast a1n : Int)) (Tree.ret [(D.bool false)]) (Tree.goto 0 [(D.list 25 a0n a0), (D.list 25 a1n a1), (D.int .i64 (0 : Int))])) := by kernel_rfl
set_option maxHeartbeats 4000000 in
theorem t_eqoff0 (x0n : Nat) (x0 : List D) (x1n : Nat) (x1 : List D) (x5 : Int) : plT' Try.prog F_eqoff hs_eqoff .own Try.f23 0 [.list 25 x0n x0, .list 25 x1n x1, .int .i64 x5] = (Tree.ite (ltI x5 (Nat.cast x0n : Int)) (Tree.need (all_ [(((0 : Int) ≤ x5) ∧ (x5 < (Nat.cast x0n : Int)))]) (Tree.need (all_ [((GetElem?.getElem? x0 ((Int.toNat x5) * (5 : Nat))) = (Option.some (sel x0 ((Int.toNat x5) * (5 : Nat)) Kd.str))), ((GetElem?.getElem? x0 (((Int.toNat x5) * (5 : Nat)) + (1 : Nat))) = (Option.some (sel x0 (((Int.toNat x5) * (5 : Nat)) + (1 : Nat)) (Kd.int .i64)))), ((GetElem?.getElem? x0 ((((Int.toNat x5) * (5 : Nat)) + (1 : Nat)) + (1 : Nat))) = (Option.some (sel x0 ((((Int.toNat x5) * (5 : Nat)) + (1 : Nat)) + (1 : Nat)) Kd.bool))), ((GetElem?.getElem? x0 (((((Int.toNat x5) * (5 : Nat)) + (1 : Nat)) + (1 : Nat)) + (1 : Nat))) = (Option.some (sel x0 (((((Int.toNat x5) * (5 : Nat)) + (1 : Nat)) + (1 : Nat)) + (1 : Nat)) Kd.bool))), (((GetElem?.getElem? x0 ((((((Int.toNat x5) * (5 : Nat)) + (1 : Nat)) + (1 : Nat)) + (1 : Nat)) + (1 : Nat))) = (Option.some (D.list 9 (selN x0 ((((((Int.toNat x5) * (5 : Nat)) + (1 : Nat)) + (1 : Nat)) + (1 : Nat)) + (1 : Nat))) (selL x0 ((((((Int.toNat x5) * (5 : Nat)) + (1 : Nat)) + (1 : Nat)) + (1 : Nat)) + (1 : Nat)))))) ∨ ((GetElem?.getElem? x0 ((((((Int.toNat x5) * (5 : Nat)) + (1 : Nat)) + (1 : Nat)) + (1 : Nat)) + (1 : Nat))) = (Option.some (D.list 0 (0 : Nat) []))))]) (Tree.need (all_ [(((0 : Int) ≤ x5) ∧ (x5 < (Nat.cast x1n : Int)))]) (Tree.need (all_ [((GetElem?.getElem? x1 ((Int.toNat x5) * (5 : Nat))) = (Option.some (sel x1 ((Int.toNat x5) * (5 : Nat)) Kd.str))), ((GetElem?.getElem? x1 (((Int.toNat x5) * (5 : Nat)) + (1 : Nat))) = (Option.some (sel x1 (((Int.toNat x5) * (5 : Nat)) + (1 : Nat)) (Kd.int .i64)))), ((GetElem?.getElem? x1 ((((Int.toNat x5) * (5 : Nat)) + (1 : Nat)) + (1 : Nat))) = (Option.some (sel x1 ((((Int.toNat x5) * (5 : Nat)) + (1 : Nat)) + (1 : Nat)) Kd.bool))), ((GetElem?.getElem? x1 (((((Int.toNat x5) * (5 : Nat)) + (1 : Nat)) + (1 : Nat)) + (1 : Nat))) = (Option.some (sel x1 (((((Int.toNat x5) * (5 : Nat)) + (1 : Nat)) + (1 : Nat)) + (1 : Nat)) Kd.bool))), (((GetElem?.getElem? x1 ((((((Int.toNat x5) * (5 : Nat)) + (1 : Nat)) + (1 : Nat)) + (1 : Nat)) + (1 : Nat))) = (Option.some (D.list 9 (selN x1 ((((((Int.toNat x5) * (5 : Nat)) + (1 : Nat)) + (1 : Nat)) + (1 : Nat)) + (1 : Nat))) (selL x1 ((((((Int.toNat x5) * (5 : Nat)) + (1 : Nat)) + (1 : Nat)) + (1 : Nat)) + (1 : Nat)))))) ∨ ((GetElem?.getElem? x1 ((((((Int.toNat x5) * (5 : Nat)) + (1 : Nat)) + (1 : Nat)) + (1 : Nat)) + (1 : Nat))) = (Option.some (D.list 0 (0 : Nat) []))))]) (Tree.call 17 [(D.str (selS x0 ((Int.toNat x5) * (5 : Nat)))), (D.int .i64 (selI x0 (((Int.toNat x5) * (5 : Nat)) + (1 : Nat)))), (D.bool (selB x0 ((((Int.toNat x5) * (5 : Nat)) + (1 : Nat)) + (1 : Nat)))), (D.bool (selB x0 (((((Int.toNat x5) * (5 : Nat)) + (1 : Nat)) + (1 : Nat)) + (1 : Nat)))), (D.list 9 (selN x0 ((((((Int.toNat x5) * (5 : Nat)) + (1 : Nat)) + (1 : Nat)) + (1 : Nat)) + (1 : Nat))) (selL x0 ((((((Int.toNat x5) * (5 : Nat)) + (1 : Nat)) + (1 : Nat)) + (1 : Nat)) + (1 : Nat)))), (D.str (selS x1 ((Int.toNat x5) * (5 : Nat)))), (D.int .i64 (selI x1 (((Int.toNat x5) * (5 : Nat)) + (1 : Nat)))), (D.bool (selB x1 ((((Int.toNat x5) * (5 : Nat)) + (1 : Nat)) + (1 : Nat)))), (D.bool (selB x1 (((((Int.toNat x5) * (5 : Nat)) + (1 : Nat)) + (1 : Nat)) + (1 : Nat)))), (D.list 9 (selN x1 ((((((Int.toNat x5) * (5 : Nat)) + (1 : Nat)) + (1 : Nat)) + (1 : Nat)) + (1 : Nat))) (selL x1 ((((((Int.toNat x5) * (5 : Nat)) + (1 : Nat)) + (1 : Nat)) + (1 : Nat)) + (1 : Nat))))] (fun y194 => (Tree.ite (Bool.not (selB y194 0)) (Tree.ret [(D.bool false)]) (Tree.need (all_ [(inK .i64 (x5 + (1 : Int)))]) (Tree.goto 0 [(D.list 25 x0n x0), (D.list 25 x1n x1), (D.int .i64 (x5 + (1 : Int)))]))))))))) (Tree.ret [(D.bool true)])) := by kernel_rfl
noncomputable def F_emv : Tb := tab [(15, s_szmed), (16, s_tomed), (12, s_imed), (13, s_smed), (17, s_eqmed)]
theorem F_emv_szmed : F_emv 15 = some s_szmed := rfl
theorem F_emv_tomed : F_emv 16 = some s_tomed := rfl
theorem F_emv_imed : F_emv 12 = some s_imed := rfl
theorem F_emv_smed : F_emv 13 = some s_smed := rfl
theorem F_emv_eqmed : F_emv 17 = some s_eqmed := rfl
noncomputable def hs_emv : Hds := []
set_option maxHeartbeats 4000000 in
theorem t_emv (a0 : ByteArray) (a1 : Int) (a2 : Bool) (a3 : Bool) (a4n : Nat) (a4 : List D) : fnT' Try.prog F_emv hs_emv .own Try.f4 [.str a0, .int IntKind.i64 a1, .bool a2, .bool a3, .list 9 a4n a4] = (Tree.call 15 [(D.str a0), (D.int .i64 a1), (D.bool a2), (D.bool a3), (D.list 9 a4n a4), (D.int .i64 (1048576 : Int))] (fun y199 => (Tree.ite (ltI (selI y199 0) (0 : Int)) (Tree.ret [(D.bool true)]) (Tree.call 16 [(D.str a0), (D.int .i64 a1), (D.bool a2), (D.bool a3), (D.list 9 a4n a4)] (fun y197 => (Tree.call 13 [(D.str (selS y197 0)), (D.int .i64 (selI y197 1)), (D.bool (selB y197 2)), (D.bool (selB y197 3)), (D.list 9 (selN y197 4) (selL y197 4))] (fun y196 => (Tree.call 16 [(D.str a0), (D.int .i64 a1), (D.bool a2), (D.bool a3), (D.list 9 a4n a4)] (fun y195 => (Tree.call 12 [(D.str (selS y195 0)), (D.int .i64 (selI y195 1)), (D.bool (selB y195 2)), (D.bool (selB y195 3)), (D.list 9 (selN y195 4) (selL y195 4))] (fun y194 => (Tree.ite (Bool.not ((selB y194 0) == (selB y196 0))) (Tree.ret [(D.bool false)]) (Tree.call 16 [(D.str a0), (D.int .i64 a1), (D.bool a2), (D.bool a3), (D.list 9 a4n a4)] (fun y192 => (Tree.call 17 [(D.str (selS y195 0)), (D.int .i64 (selI y195 1)), (D.bool (selB y195 2)), (D.bool (selB y195 3)), (D.list 9 (selN y195 4) (selL y195 4)), (D.str (selS y192 0)), (D.int .i64 (selI y192 1)), (D.bool (selB y192 2)), (D.bool (selB y192 3)), (D.list 9 (selN y192 4) (selL y192 4))] (fun y191 => (Tree.ite (Bool.not (selB y191 0)) (Tree.ret [(D.bool false)]) (Tree.ret [(D.bool true)])))))))))))))))))) := by kernel_rfl
noncomputable def F_eov : Tb := tab [(21, s_szoff), (22, s_tooff), (19, s_ioff), (20, s_soff), (23, s_eqoff)]
theorem F_eov_szoff : F_eov 21 = some s_szoff := rfl
theorem F_eov_tooff : F_eov 22 = some s_tooff := rfl
theorem F_eov_ioff : F_eov 19 = some s_ioff := rfl
theorem F_eov_soff : F_eov 20 = some s_soff := rfl
theorem F_eov_eqoff : F_eov 23 = some s_eqoff := rfl
noncomputable def hs_eov : Hds := []
set_option maxHeartbeats 4000000 in
theorem t_eov (a0n : Nat) (a0 : List D) : fnT' Try.prog F_eov hs_eov .own Try.f6 [.list 30 a0n a0] = (Tree.call 21 [(D.list 30 a0n a0), (D.int .i64 (1048576 : Int))] (fun y199 => (Tree.ite (ltI (selI y199 0) (0 : Int)) (Tree.ret [(D.bool true)]) (Tree.call 22 [(D.list 30 a0n a0)] (fun y197 => (Tree.call 20 [(D.list 25 (selN y197 0) (selL y197 0))] (fun y196 => (Tree.call 22 [(D.list 30 a0n a0)] (fun y195 => (Tree.call 19 [(D.list 25 (selN y195 0) (selL y195 0))] (fun y194 => (Tree.ite (Bool.not ((selB y194 0) == (selB y196 0))) (Tree.ret [(D.bool false)]) (Tree.call 22 [(D.list 30 a0n a0)] (fun y192 => (Tree.call 23 [(D.list 25 (selN y195 0) (selL y195 0)), (D.list 25 (selN y192 0) (selL y192 0))] (fun y191 => (Tree.ite (Bool.not (selB y191 0)) (Tree.ret [(D.bool false)]) (Tree.ret [(D.bool true)])))))))))))))))))) := by kernel_rfl
end Go.Proofs.Ytgoheolehnahkaa.Mini
end
section
/- Chapter 9: offers: the exact laws and their helpers: proofs. -/
namespace Go.Proofs.Ytgoheolehnahkaa.Mini
open Go Go.RowKit
set_option linter.unusedVariables false
set_option linter.unusedSimpArgs false
set_option maxRecDepth 20000
theorem texts_of : ∀ (cs : List D), (∀ x ∈ cs, ∃ s : ByteArray, x = .str s ∧ s.size ≤ maxLen) → ∃ ls, cs = textsD ls ∧ ls.length = cs.length ∧ ∀ x ∈ ls, x.size ≤ maxLen
  | [], _ => ⟨[], rfl, rfl, by simp⟩
  | c :: cs, h => by
    obtain ⟨s, rfl, hs⟩ := h c (by simp)
    obtain ⟨ls, rfl, h1, h2⟩ := texts_of cs (fun x hx => h x (by simp [hx]))
    refine ⟨s :: ls, rfl, by simp [h1], fun x hx => ?_⟩
    rcases List.mem_cons.mp hx with rfl | hx
    · exact hs
    · exact h2 x hx
theorem wf_texts {f : Nat} {d : D} (h : wfK Try.prog (f + 1) (.list 9) d) : ∃ ls, d = .list 9 ls.length (textsD ls) ∧ ls.length ≤ maxLen ∧ ∀ x ∈ ls, x.size ≤ maxLen := by
  obtain ⟨n, cs, ks, e, h1, h2, h3, h4⟩ := h
  have hk : ks = [.str] := by
    have : ksOf Try.prog 9 = some [.str] := by kernel_rfl
    rw [this] at h2; injection h2 with h2; exact h2.symm
  subst hk
  obtain ⟨ls, e1, e2, e3⟩ := texts_of cs (fun x hx => by
    obtain ⟨j, hj, rfl⟩ := List.getElem_of_mem hx
    obtain ⟨k, hk1, hk2⟩ := h4 j cs[j] (List.getElem?_eq_getElem hj)
    have : k = .str := by
      have e : j % 1 = 0 := Nat.mod_one j
      simp [e] at hk1; exact hk1.symm
    subst this
    obtain ⟨s, hs, hl⟩ : ∃ s : ByteArray, cs[j] = .str s ∧ s.size ≤ maxLen := by cases f <;> exact hk2
    exact ⟨s, hs, hl⟩)
  have hn : n = ls.length := by rw [e2, h3]; simp
  exact ⟨ls, by rw [e, e1, hn], by omega, e3⟩
theorem wf_media {f : Nat} {a b c d e : D} (ha : wfK Try.prog (f + 1) .str a) (hb : wfK Try.prog (f + 1) (.int .i64) b) (hc : wfK Try.prog (f + 1) .bool c) (hd : wfK Try.prog (f + 1) .bool d) (he : wfK Try.prog (f + 1) (.list 9) e) : ∃ m : Med, [a, b, c, d, e] = medD m ∧ wfM m := by
  obtain ⟨k, rfl, hk⟩ := ha
  obtain ⟨p, rfl, hp⟩ := hb
  obtain ⟨s, rfl⟩ := hc
  obtain ⟨h, rfl⟩ := hd
  obtain ⟨ls, rfl, h1, h2⟩ := wf_texts he
  exact ⟨⟨k, p, s, h, ls⟩, rfl, hk, h1, h2⟩
def kM : List Kd := [.str, .int .i64, .bool, .bool, .list 9]
theorem offs_of {f : Nat} : ∀ (n : Nat) (cs : List D), cs.length = n * 5 → (∀ (j : Nat) (x : D), cs[j]? = some x → ∃ k, kM[j % 5]? = some k ∧ wfK Try.prog (f + 1) k x) → ∃ l, cs = offD l ∧ l.length = n ∧ ∀ m ∈ l, wfM m
  | 0, cs, h, _ => ⟨[], List.eq_nil_of_length_eq_zero (by omega), rfl, by simp⟩
  | n + 1, cs, h, hw => by
    match cs, h, hw with
    | a :: b :: c :: d :: e :: r, h, hw =>
      have get : ∀ (j : Nat) (k : Kd) (x : D), kM[j % 5]? = some k → (a :: b :: c :: d :: e :: r)[j]? = some x → wfK Try.prog (f + 1) k x := fun j k x hk hx => by
        obtain ⟨k', g1, g2⟩ := hw j x hx
        rw [hk] at g1; injection g1 with g1; subst g1; exact g2
      obtain ⟨m, e1, e2⟩ := wf_media (get 0 .str a rfl rfl) (get 1 (.int .i64) b rfl rfl) (get 2 .bool c rfl rfl) (get 3 .bool d rfl rfl) (get 4 (.list 9) e rfl rfl)
      obtain ⟨l, g1, g2, g3⟩ := offs_of n r (by simp only [List.length_cons] at h; omega) (fun j x hx => by
        obtain ⟨k, k1, k2⟩ := hw (j + 5) x (by simpa using hx)
        exact ⟨k, by rw [Nat.add_mod_right] at k1; exact k1, k2⟩)
      refine ⟨m :: l, ?_, by simp [g2], fun x hx => ?_⟩
      · show [a, b, c, d, e] ++ r = medD m ++ offD l
        rw [e1, g1]
      · rcases List.mem_cons.mp hx with rfl | hx
        · exact e2
        · exact g3 x hx
    | [], h, _ => simp at h
    | [_], h, _ => simp at h; omega
    | [_, _], h, _ => simp at h; omega
    | [_, _, _], h, _ => simp at h; omega
    | [_, _, _, _], h, _ => simp at h; omega
theorem wf_offer {f : Nat} {d : D} (h : wfK Try.prog (f + 2) (.list 30) d) : ∃ l, [d] = lawD l ∧ l.length ≤ maxLen ∧ ∀ m ∈ l, wfM m := by
  obtain ⟨n, cs, ks, e, h1, h2, h3, h4⟩ := h
  have hk : ks = kM := by
    have : ksOf Try.prog 30 = some kM := by kernel_rfl
    rw [this] at h2; injection h2 with h2; exact h2.symm
  subst hk
  obtain ⟨l, e1, e2, e3⟩ := offs_of (f := f) n cs h3 h4
  exact ⟨l, by rw [e, e1, ← e2]; rfl, by omega, e3⟩
theorem okC_texts {ls : List ByteArray} (h : ∀ x ∈ ls, x.size ≤ maxLen) : okC [.str] ls.length (textsD ls) := by
  refine ⟨by rw [textsD_len]; simp, fun j x hx => ⟨.str, by simp [Nat.mod_one], ?_⟩⟩
  have hj := (List.getElem?_eq_some_iff.mp hx).1
  rw [textsD_len] at hj
  rw [textsD_at (List.getElem?_eq_getElem hj)] at hx
  injection hx with hx
  exact ⟨_, hx.symm, h _ (List.getElem_mem hj)⟩
theorem sm_max {m : Med} (h : smM m) : wfM m := ⟨m20 h.1, m20' h.2.1, fun x hx => m20 (h.2.2 x hx)⟩
  where m20' {n : Nat} (h : n ≤ 1048576) : n ≤ maxLen := by unfold maxLen; omega
theorem ok_szmed : FnOk Try.prog 15 s_szmed := by
  refine fnOk (fn := Try.f15) (F := F_szmed) (hs := hs_szmed) (tab_cons ok_szstr tab_nil) mixed rfl rfl rfl [.str, .int .i64, .bool, .bool, .list 9, .int .i64] (by kernel_rfl) (by simp) ?_
  rintro k p s h n cs a ⟨m, a', e, hm, h1, h2⟩
  simp only [medD, List.cons_append, List.nil_append, List.cons.injEq, D.str.injEq, D.int.injEq, D.bool.injEq, D.list.injEq, true_and, and_true] at e
  obtain ⟨rfl, rfl, rfl, rfl, ⟨rfl, rfl⟩, rfl⟩ := e
  refine ⟨fun _ _ => False, fun _ _ => 0, ?_, fun _ _ h => h.elim⟩
  rw [t_szmed]
  simp only [F_szmed_szstr, s_szstr, Tree.holds, ltI_t, ltI_f, leI_t, leI_f, all_cons, all_nil, and_true, true_and, forall_eq, decide_eq_true_eq, decide_eq_false_iff_not, beq_iff_eq, beq_eq_false_iff_ne, bne_iff_ne, bne_eq_false_iff_eq, ne_eq, Decidable.not_not, selI_z, selB_z, selS_z, selN_z, selL_z, selI_s, selB_s, selS_s, selN_s, selL_s, Int.toNat_natCast, Nat.mul_one, Nat.zero_add, Nat.div_one, List.drop_zero, Nat.zero_mul, Nat.le_refl, Bool.not_eq_true', Bool.not_eq_false', Bool.false_eq_true, Bool.true_eq_false, not_true_eq_false, not_false_eq_true, false_imp_iff, true_imp_iff, if_true, if_false, sig, sigF, sigW, sigR, sigO, sigD, sigWD, List.map_cons, List.map_nil]
  obtain ⟨g1, g2, g3⟩ := hm
  have g1' := g1
  unfold maxLen at g1'
  have hu : unM [D.str m.k, .int .i64 m.p, .bool m.s, .bool m.h, .list 9 m.c.length (textsD m.c), .int .i64 a] = m := unM_med m
  refine ⟨by unfold inK; omega, fun e => ⟨-1, rfl, by omega, by omega, fun h => by omega⟩, fun e => ⟨⟨okC_texts g3, g2, by omega, by omega⟩, ?_⟩⟩
  rintro ys ⟨r, rfl, r0, r1, r2⟩
  simp only [F_szmed_szstr, s_szstr, Tree.holds, ltI_t, ltI_f, leI_t, leI_f, all_cons, all_nil, and_true, true_and, forall_eq, decide_eq_true_eq, decide_eq_false_iff_not, beq_iff_eq, beq_eq_false_iff_ne, bne_iff_ne, bne_eq_false_iff_eq, ne_eq, Decidable.not_not, selI_z, selB_z, selS_z, selN_z, selL_z, selI_s, selB_s, selS_s, selN_s, selL_s, Int.toNat_natCast, Nat.mul_one, Nat.zero_add, Nat.div_one, List.drop_zero, Nat.zero_mul, Nat.le_refl, Bool.not_eq_true', Bool.not_eq_false', Bool.false_eq_true, Bool.true_eq_false, not_true_eq_false, not_false_eq_true, false_imp_iff, true_imp_iff, if_true, if_false, sig, sigF, sigW, sigR, sigO, sigD, sigWD, List.map_cons, List.map_nil, hu]
  refine ⟨fun e => ⟨-1, rfl, by omega, by omega, fun h => by omega⟩, fun e => ⟨r, rfl, by omega, by omega, fun h ha => ?_⟩⟩
  obtain ⟨q1, q2⟩ := r2 h
  refine ⟨by omega, by omega, fun x hx => ?_⟩
  obtain ⟨j, hj, rfl⟩ := List.getElem_of_mem hx
  have := q2 j _ (textsD_at (List.getElem?_eq_getElem hj))
  omega
theorem ok_szoff : FnOk Try.prog 21 s_szoff := by
  refine fnOk (fn := Try.f21) (F := F_szoff) (hs := hs_szoff) (tab_cons ok_szmed tab_nil) mixed rfl rfl rfl [.list 30, .int .i64] (by kernel_rfl) (by simp) ?_
  rintro n cs a ⟨l, a', e, hl, hm, h1, h2⟩
  simp only [lawD, List.cons_append, List.nil_append, List.cons.injEq, D.int.injEq, D.list.injEq, true_and, and_true] at e
  obtain ⟨⟨rfl, rfl⟩, rfl⟩ := e
  refine ⟨fun h ys => h = 0 ∧ ∃ (i : Nat) (r : Int), ys = [.list 30 l.length (offD l), .int .i64 r, .int .i64 i] ∧ i ≤ l.length ∧ 0 ≤ r ∧ r ≤ a ∧ (l.length : Int) ≤ a ∧ (a ≤ 1048576 → ∀ (j : Nat) (m : Med), j < i → l[j]? = some m → smM m), fun h ys => l.length - (selI ys 2).toNat, ?_, ?_⟩
  · rw [t_szoff]
    simp only [F_szoff_szmed, s_szmed, Tree.holds, ltI_t, ltI_f, leI_t, leI_f, all_cons, all_nil, and_true, true_and, forall_eq, decide_eq_true_eq, decide_eq_false_iff_not, beq_iff_eq, beq_eq_false_iff_ne, bne_iff_ne, bne_eq_false_iff_eq, ne_eq, Decidable.not_not, selI_z, selB_z, selS_z, selN_z, selL_z, selI_s, selB_s, selS_s, selN_s, selL_s, Int.toNat_natCast, Nat.mul_one, Nat.zero_add, Nat.div_one, List.drop_zero, Nat.zero_mul, Nat.le_refl, Bool.not_eq_true', Bool.not_eq_false', Bool.false_eq_true, Bool.true_eq_false, not_true_eq_false, not_false_eq_true, false_imp_iff, true_imp_iff, if_true, if_false, sig, sigF, sigW, sigR, sigO, sigD, sigWD, List.map_cons, List.map_nil, unO_off]
    have hl' := hl
    unfold maxLen at hl'
    exact ⟨by unfold inK; omega, fun h => ⟨-1, rfl, by omega, by omega, fun h => by omega⟩, fun h => ⟨0, _, rfl, by omega, by omega, by omega, by omega, fun _ j m hj => by omega⟩⟩
  · rintro h ys ⟨rfl, i, r, rfl, hi, r0, r1, r2, r3⟩
    rw [t_szoff0]
    simp only [F_szoff_szmed, s_szmed, Tree.holds, ltI_t, ltI_f, leI_t, leI_f, all_cons, all_nil, and_true, true_and, forall_eq, decide_eq_true_eq, decide_eq_false_iff_not, beq_iff_eq, beq_eq_false_iff_ne, bne_iff_ne, bne_eq_false_iff_eq, ne_eq, Decidable.not_not, selI_z, selB_z, selS_z, selN_z, selL_z, selI_s, selB_s, selS_s, selN_s, selL_s, Int.toNat_natCast, Nat.mul_one, Nat.zero_add, Nat.div_one, List.drop_zero, Nat.zero_mul, Nat.le_refl, Bool.not_eq_true', Bool.not_eq_false', Bool.false_eq_true, Bool.true_eq_false, not_true_eq_false, not_false_eq_true, false_imp_iff, true_imp_iff, if_true, if_false, sig, sigF, sigW, sigR, sigO, sigD, sigWD, List.map_cons, List.map_nil, sel_kstr, sel_kint, sel_kbool, unO_off]
    refine ⟨fun hj => ?_, fun hj => ⟨r, rfl, by omega, by omega, fun _ ha => ⟨by omega, fun m hx => ?_⟩⟩⟩
    · obtain ⟨m, m1, m2⟩ := off_get (l := l) (i := i) (by omega)
      obtain ⟨c0, c1, c2, c3, c4⟩ := off_at m1
      rw [selS_of c0, selI_of c1, selB_of c2, selB_of c3, selN_of c4, selL_of c4]
      refine ⟨⟨by omega, by omega⟩, ⟨c0, c1, c2, c3, .inl c4⟩, ⟨m, r, rfl, hm m m2, by omega, by omega⟩, ?_⟩
      rintro ys ⟨q, rfl, q0, q1, q2⟩
      simp only [F_szoff_szmed, s_szmed, Tree.holds, ltI_t, ltI_f, leI_t, leI_f, all_cons, all_nil, and_true, true_and, forall_eq, decide_eq_true_eq, decide_eq_false_iff_not, beq_iff_eq, beq_eq_false_iff_ne, bne_iff_ne, bne_eq_false_iff_eq, ne_eq, Decidable.not_not, selI_z, selB_z, selS_z, selN_z, selL_z, selI_s, selB_s, selS_s, selN_s, selL_s, Int.toNat_natCast, Nat.mul_one, Nat.zero_add, Nat.div_one, List.drop_zero, Nat.zero_mul, Nat.le_refl, Bool.not_eq_true', Bool.not_eq_false', Bool.false_eq_true, Bool.true_eq_false, not_true_eq_false, not_false_eq_true, false_imp_iff, true_imp_iff, if_true, if_false, sig, sigF, sigW, sigR, sigO, sigD, sigWD, List.map_cons, List.map_nil]
      refine ⟨fun e => ⟨-1, rfl, by omega, by omega, fun h => by omega⟩, fun e => ⟨by unfold inK; unfold maxLen at hl; omega, ⟨i + 1, q, rfl, by omega, by omega, by omega, r2, fun ha j m' hj hm' => ?_⟩, by omega⟩⟩
      by_cases hji : j = i
      · rw [hji, m1] at hm'; injection hm' with hm'
        rw [← hm']
        have := q2 (by omega) (by omega)
        have hu : unM [D.str m.k, .int .i64 m.p, .bool m.s, .bool m.h, .list 9 m.c.length (textsD m.c), .int .i64 r] = m := unM_med m
        rw [hu] at this
        exact this
      · exact r3 ha j m' (by omega) hm'
    · obtain ⟨a', ha', rfl⟩ := List.getElem_of_mem hx
      exact r3 ha a' _ (by omega) (List.getElem?_eq_getElem ha')
theorem ok_tomed : FnOk Try.prog 16 s_tomed := by
  refine fnOk (fn := Try.f16) (F := F_tomed) (hs := hs_tomed) (tab_cons ok_tostr tab_nil) mixed rfl rfl rfl [.str, .int .i64, .bool, .bool, .list 9] (by kernel_rfl) (by simp) ?_
  rintro k p s h n cs ⟨m, e, hm⟩
  obtain ⟨rfl, rfl, rfl, rfl, rfl, rfl⟩ := med_open e
  obtain ⟨g1, g2, g3⟩ := sm_max hm
  have g4 := hm.2.1
  refine ⟨fun _ _ => False, fun _ _ => 0, ?_, fun _ _ h => h.elim⟩
  rw [t_tomed]
  have hu : unM [D.str m.k, .int .i64 m.p, .bool m.s, .bool m.h, .list 9 m.c.length (textsD m.c)] = m := unM_med m
  simp only [F_tomed_tostr, s_tostr, Tree.holds, ltI_t, ltI_f, leI_t, leI_f, all_cons, all_nil, and_true, true_and, forall_eq, decide_eq_true_eq, decide_eq_false_iff_not, beq_iff_eq, beq_eq_false_iff_ne, bne_iff_ne, bne_eq_false_iff_eq, ne_eq, Decidable.not_not, selI_z, selB_z, selS_z, selN_z, selL_z, selI_s, selB_s, selS_s, selN_s, selL_s, Int.toNat_natCast, Nat.mul_one, Nat.zero_add, Nat.div_one, List.drop_zero, Nat.zero_mul, Nat.le_refl, Bool.not_eq_true', Bool.not_eq_false', Bool.false_eq_true, Bool.true_eq_false, not_true_eq_false, not_false_eq_true, false_imp_iff, true_imp_iff, if_true, if_false, sig, sigF, sigW, sigR, sigO, sigD, sigWD, List.map_cons, List.map_nil, hu]
  refine ⟨⟨okC_texts g3, by omega⟩, by rw [textsD_len]; omega, ?_⟩
  rw [textsD_take]
  rfl
theorem unM_lit (m : Med) : unM [D.str m.k, .int .i64 m.p, .bool m.s, .bool m.h, .list 9 m.c.length (textsD m.c)] = m := unM_med m
theorem ok_tooff : FnOk Try.prog 22 s_tooff := by
  refine fnOk (fn := Try.f22) (F := F_tooff) (hs := hs_tooff) (tab_cons ok_tomed tab_nil) mixed rfl rfl rfl [.list 30] (by kernel_rfl) (by simp) ?_
  rintro n cs ⟨l, e, hl, hm⟩
  simp only [lawD, List.cons.injEq, D.list.injEq, true_and, and_true] at e
  obtain ⟨rfl, rfl⟩ := e
  refine ⟨fun h ys => h = 0 ∧ ∃ i : Nat, ys = [.list 30 l.length (offD l), .int .i64 (0 : Nat), .int .i64 l.length, .int .i64 i, .list 25 0 (medsK l.length (l.take i))] ∧ i ≤ l.length, fun h ys => l.length - (selI ys 3).toNat, ?_, ?_⟩
  · rw [t_tooff]
    simp only [F_tooff_tomed, s_tomed, Tree.holds, ltI_t, ltI_f, leI_t, leI_f, all_cons, all_nil, and_true, true_and, forall_eq, decide_eq_true_eq, decide_eq_false_iff_not, beq_iff_eq, beq_eq_false_iff_ne, bne_iff_ne, bne_eq_false_iff_eq, ne_eq, Decidable.not_not, selI_z, selB_z, selS_z, selN_z, selL_z, selI_s, selB_s, selS_s, selN_s, selL_s, Int.toNat_natCast, Nat.mul_one, Nat.zero_add, Nat.div_one, List.drop_zero, Nat.zero_mul, Nat.le_refl, Bool.not_eq_true', Bool.not_eq_false', Bool.false_eq_true, Bool.true_eq_false, not_true_eq_false, not_false_eq_true, false_imp_iff, true_imp_iff, if_true, if_false, sig, sigF, sigW, sigR, sigO, sigD, sigWD, List.map_cons, List.map_nil, unO_off]
    exact ⟨⟨by omega, by omega, by omega⟩, 0, rfl, by omega⟩
  · rintro h ys ⟨rfl, i, rfl, hi⟩
    rw [t_tooff0]
    simp only [F_tooff_tomed, s_tomed, Tree.holds, ltI_t, ltI_f, leI_t, leI_f, all_cons, all_nil, and_true, true_and, forall_eq, decide_eq_true_eq, decide_eq_false_iff_not, beq_iff_eq, beq_eq_false_iff_ne, bne_iff_ne, bne_eq_false_iff_eq, ne_eq, Decidable.not_not, selI_z, selB_z, selS_z, selN_z, selL_z, selI_s, selB_s, selS_s, selN_s, selL_s, Int.toNat_natCast, Nat.mul_one, Nat.zero_add, Nat.div_one, List.drop_zero, Nat.zero_mul, Nat.le_refl, Bool.not_eq_true', Bool.not_eq_false', Bool.false_eq_true, Bool.true_eq_false, not_true_eq_false, not_false_eq_true, false_imp_iff, true_imp_iff, if_true, if_false, sig, sigF, sigW, sigR, sigO, sigD, sigWD, List.map_cons, List.map_nil, sel_kstr, sel_kint, sel_kbool, unO_off]
    refine ⟨fun hj => ?_, fun hj => ?_⟩
    · obtain ⟨m, m1, m2⟩ := off_get (l := l) (i := i) (by omega)
      obtain ⟨c0, c1, c2, c3, c4⟩ := off_at m1
      have htk : (l.take i).length = i := by rw [List.length_take]; omega
      rw [selS_of c0, selI_of c1, selB_of c2, selB_of c3, selN_of c4, selL_of c4, unM_lit]
      refine ⟨⟨by omega, by omega⟩, ⟨c0, c1, c2, c3, .inl c4⟩, ⟨m, rfl, hm m m2⟩, ⟨by omega, by omega⟩, by rw [medsK_len (by omega)]; omega, by unfold inK; omega, ⟨i + 1, ?_, by omega⟩, by omega⟩
      have := medsK_step (n := l.length) (l := l.take i) m (by omega)
      rw [htk] at this
      rw [List.take_add_one, m1]
      show _ = [_, _, _, _, D.list 25 0 (medsK l.length (l.take i ++ [m]))]
      rw [← this]
      rfl
    · obtain rfl : i = l.length := by omega
      rw [List.take_of_length_le (Nat.le_refl _), medsK_all, offD_take]
      exact ⟨by rw [offD_len]; omega, rfl⟩
theorem ok_eqmed : FnOk Try.prog 17 s_eqmed := by
  refine fnOk (fn := Try.f17) (F := F_eqmed) (hs := hs_eqmed) (tab_cons ok_eqstr tab_nil) mixed rfl rfl rfl [.str, .int .i64, .bool, .bool, .list 9, .str, .int .i64, .bool, .bool, .list 9] (by kernel_rfl) (by simp) ?_
  rintro a0 a1 a2 a3 a4n a4 a5 a6 a7 a8 a9n a9 ⟨m, e, hm⟩
  simp only [medD, List.cons_append, List.nil_append, List.cons.injEq, D.str.injEq, D.int.injEq, D.bool.injEq, D.list.injEq, true_and, and_true] at e
  obtain ⟨rfl, rfl, rfl, rfl, ⟨rfl, rfl⟩, rfl, rfl, rfl, rfl, rfl, rfl⟩ := e
  obtain ⟨g1, g2, g3⟩ := sm_max hm
  refine ⟨fun _ _ => False, fun _ _ => 0, ?_, fun _ _ h => h.elim⟩
  rw [t_eqmed]
  simp only [F_eqmed_eqstr, s_eqstr, Tree.holds, ltI_t, ltI_f, leI_t, leI_f, all_cons, all_nil, and_true, true_and, forall_eq, decide_eq_true_eq, decide_eq_false_iff_not, beq_iff_eq, beq_eq_false_iff_ne, bne_iff_ne, bne_eq_false_iff_eq, ne_eq, Decidable.not_not, selI_z, selB_z, selS_z, selN_z, selL_z, selI_s, selB_s, selS_s, selN_s, selL_s, Int.toNat_natCast, Nat.mul_one, Nat.zero_add, Nat.div_one, List.drop_zero, Nat.zero_mul, Nat.le_refl, Bool.not_eq_true', Bool.not_eq_false', Bool.false_eq_true, Bool.true_eq_false, not_true_eq_false, not_false_eq_true, false_imp_iff, true_imp_iff, if_true, if_false, sig, sigF, sigW, sigR, sigO, sigD, sigWD, List.map_cons, List.map_nil]
  exact ⟨okC_texts g3, g2⟩
theorem ok_eqoff : FnOk Try.prog 23 s_eqoff := by
  refine fnOk (fn := Try.f23) (F := F_eqoff) (hs := hs_eqoff) (tab_cons ok_eqmed tab_nil) mixed rfl rfl rfl [.list 25, .list 25] (by kernel_rfl) (by simp) ?_
  rintro n cs n' cs' ⟨l, e, hl, hm⟩
  simp only [impD, List.cons_append, List.nil_append, List.cons.injEq, D.list.injEq, true_and, and_true] at e
  obtain ⟨⟨rfl, rfl⟩, rfl, rfl⟩ := e
  refine ⟨fun h ys => h = 0 ∧ ∃ i : Nat, ys = [.list 25 l.length (offD l), .list 25 l.length (offD l), .int .i64 i] ∧ i ≤ l.length, fun h ys => l.length - (selI ys 2).toNat, ?_, ?_⟩
  · rw [t_eqoff]
    simp only [F_eqoff_eqmed, s_eqmed, Tree.holds, ltI_t, ltI_f, leI_t, leI_f, all_cons, all_nil, and_true, true_and, forall_eq, decide_eq_true_eq, decide_eq_false_iff_not, beq_iff_eq, beq_eq_false_iff_ne, bne_iff_ne, bne_eq_false_iff_eq, ne_eq, Decidable.not_not, selI_z, selB_z, selS_z, selN_z, selL_z, selI_s, selB_s, selS_s, selN_s, selL_s, Int.toNat_natCast, Nat.mul_one, Nat.zero_add, Nat.div_one, List.drop_zero, Nat.zero_mul, Nat.le_refl, Bool.not_eq_true', Bool.not_eq_false', Bool.false_eq_true, Bool.true_eq_false, not_true_eq_false, not_false_eq_true, false_imp_iff, true_imp_iff, if_true, if_false, sig, sigF, sigW, sigR, sigO, sigD, sigWD, List.map_cons, List.map_nil]
    exact ⟨0, rfl, by omega⟩
  · rintro h ys ⟨rfl, i, rfl, hi⟩
    rw [t_eqoff0]
    simp only [F_eqoff_eqmed, s_eqmed, Tree.holds, ltI_t, ltI_f, leI_t, leI_f, all_cons, all_nil, and_true, true_and, forall_eq, decide_eq_true_eq, decide_eq_false_iff_not, beq_iff_eq, beq_eq_false_iff_ne, bne_iff_ne, bne_eq_false_iff_eq, ne_eq, Decidable.not_not, selI_z, selB_z, selS_z, selN_z, selL_z, selI_s, selB_s, selS_s, selN_s, selL_s, Int.toNat_natCast, Nat.mul_one, Nat.zero_add, Nat.div_one, List.drop_zero, Nat.zero_mul, Nat.le_refl, Bool.not_eq_true', Bool.not_eq_false', Bool.false_eq_true, Bool.true_eq_false, not_true_eq_false, not_false_eq_true, false_imp_iff, true_imp_iff, if_true, if_false, sig, sigF, sigW, sigR, sigO, sigD, sigWD, List.map_cons, List.map_nil, sel_kstr, sel_kint, sel_kbool]
    refine ⟨fun hj => ?_, fun hj => trivial⟩
    obtain ⟨m, m1, m2⟩ := off_get (l := l) (i := i) (by omega)
    obtain ⟨c0, c1, c2, c3, c4⟩ := off_at m1
    rw [selS_of c0, selI_of c1, selB_of c2, selB_of c3, selN_of c4, selL_of c4]
    exact ⟨⟨by omega, by omega⟩, ⟨c0, c1, c2, c3, .inl c4⟩, ⟨by omega, by omega⟩, ⟨c0, c1, c2, c3, .inl c4⟩, ⟨m, rfl, hm m m2⟩, by unfold inK; omega, ⟨i + 1, rfl, by omega⟩, by omega⟩
theorem ok_emv : FnOk Try.prog 4 s_emv := by
  refine fnOk (fn := Try.f4) (F := F_emv) (hs := hs_emv) (tab_cons ok_szmed (tab_cons ok_tomed (tab_cons ok_imed (tab_cons ok_smed (tab_cons ok_eqmed tab_nil))))) mixed rfl rfl rfl [.str, .int .i64, .bool, .bool, .list 9] (by kernel_rfl) (by simp) ?_
  intro a0 a1 a2 a3 a4n a4 hw
  obtain ⟨w0, w1, w2, w3, w4, -⟩ := hw
  obtain ⟨m, e, hm⟩ := wf_media w0 w1 w2 w3 w4
  obtain ⟨rfl, rfl, rfl, rfl, rfl, rfl⟩ := med_open e
  refine ⟨fun h ys => False, fun h ys => 0, ?_, fun _ _ h => h.elim⟩
  rw [t_emv]
  simp only [F_emv_szmed, F_emv_tomed, F_emv_imed, F_emv_smed, F_emv_eqmed, s_szmed, s_tomed, s_imed, s_smed, s_eqmed, Tree.holds, ltI_t, ltI_f, leI_t, leI_f, all_cons, all_nil, and_true, true_and, forall_eq, decide_eq_true_eq, decide_eq_false_iff_not, beq_iff_eq, beq_eq_false_iff_ne, bne_iff_ne, bne_eq_false_iff_eq, ne_eq, Decidable.not_not, selI_z, selB_z, selS_z, selN_z, selL_z, selI_s, selB_s, selS_s, selN_s, selL_s, Int.toNat_natCast, Nat.mul_one, Nat.zero_add, Nat.div_one, List.drop_zero, Nat.zero_mul, Nat.le_refl, Bool.not_eq_true', Bool.not_eq_false', Bool.false_eq_true, Bool.true_eq_false, not_true_eq_false, not_false_eq_true, false_imp_iff, true_imp_iff, if_true, if_false, sig, sigF, sigW, sigR, sigO, sigD, sigWD, List.map_cons, List.map_nil]
  refine ⟨⟨m, 1048576, rfl, hm, by omega, by omega⟩, ?_⟩
  rintro ys ⟨r, rfl, r0, r1, r2⟩
  simp only [F_emv_szmed, F_emv_tomed, F_emv_imed, F_emv_smed, F_emv_eqmed, s_szmed, s_tomed, s_imed, s_smed, s_eqmed, Tree.holds, ltI_t, ltI_f, leI_t, leI_f, all_cons, all_nil, and_true, true_and, forall_eq, decide_eq_true_eq, decide_eq_false_iff_not, beq_iff_eq, beq_eq_false_iff_ne, bne_iff_ne, bne_eq_false_iff_eq, ne_eq, Decidable.not_not, selI_z, selB_z, selS_z, selN_z, selL_z, selI_s, selB_s, selS_s, selN_s, selL_s, Int.toNat_natCast, Nat.mul_one, Nat.zero_add, Nat.div_one, List.drop_zero, Nat.zero_mul, Nat.le_refl, Bool.not_eq_true', Bool.not_eq_false', Bool.false_eq_true, Bool.true_eq_false, not_true_eq_false, not_false_eq_true, false_imp_iff, true_imp_iff, if_true, if_false, sig, sigF, sigW, sigR, sigO, sigD, sigWD, List.map_cons, List.map_nil, unM_lit]
  refine ⟨fun _ => trivial, fun h => ?_⟩
  have hs := r2 (by omega) (by omega)
  rw [show unM [D.str m.k, .int .i64 m.p, .bool m.s, .bool m.h, .list 9 m.c.length (textsD m.c), .int .i64 1048576] = m from unM_med m] at hs
  have e1 : [D.str (selS (medD m) 0), .int .i64 (selI (medD m) 1), .bool (selB (medD m) 2), .bool (selB (medD m) 3), .list 9 (selN (medD m) 4) (selL (medD m) 4)] = medD m := rfl
  simp only [e1, unM_med, F_emv_szmed, F_emv_tomed, F_emv_imed, F_emv_smed, F_emv_eqmed, s_szmed, s_tomed, s_imed, s_smed, s_eqmed, Tree.holds, ltI_t, ltI_f, leI_t, leI_f, all_cons, all_nil, and_true, true_and, forall_eq, decide_eq_true_eq, decide_eq_false_iff_not, beq_iff_eq, beq_eq_false_iff_ne, bne_iff_ne, bne_eq_false_iff_eq, ne_eq, Decidable.not_not, selI_z, selB_z, selS_z, selN_z, selL_z, selI_s, selB_s, selS_s, selN_s, selL_s, Int.toNat_natCast, Nat.mul_one, Nat.zero_add, Nat.div_one, List.drop_zero, Nat.zero_mul, Nat.le_refl, Bool.not_eq_true', Bool.not_eq_false', Bool.false_eq_true, Bool.true_eq_false, not_true_eq_false, not_false_eq_true, false_imp_iff, true_imp_iff, if_true, if_false, sig, sigF, sigW, sigR, sigO, sigD, sigWD, List.map_cons, List.map_nil]
  exact ⟨⟨m, rfl, hs⟩, ⟨m, rfl, hs⟩, ⟨m, rfl, hs⟩, ⟨m, rfl, hs⟩, ⟨m, rfl, hs⟩, m, rfl, hs⟩
theorem ok_eov : FnOk Try.prog 6 s_eov := by
  refine fnOk (fn := Try.f6) (F := F_eov) (hs := hs_eov) (tab_cons ok_szoff (tab_cons ok_tooff (tab_cons ok_ioff (tab_cons ok_soff (tab_cons ok_eqoff tab_nil))))) mixed rfl rfl rfl [.list 30] (by kernel_rfl) (by simp) ?_
  intro n cs hw
  obtain ⟨w0, -⟩ := hw
  obtain ⟨l, e, hl, hm⟩ := wf_offer w0
  simp only [lawD, List.cons.injEq, D.list.injEq, true_and, and_true] at e
  obtain ⟨rfl, rfl⟩ := e
  refine ⟨fun h ys => False, fun h ys => 0, ?_, fun _ _ h => h.elim⟩
  rw [t_eov]
  simp only [F_eov_szoff, F_eov_tooff, F_eov_ioff, F_eov_soff, F_eov_eqoff, s_szoff, s_tooff, s_ioff, s_soff, s_eqoff, Tree.holds, ltI_t, ltI_f, leI_t, leI_f, all_cons, all_nil, and_true, true_and, forall_eq, decide_eq_true_eq, decide_eq_false_iff_not, beq_iff_eq, beq_eq_false_iff_ne, bne_iff_ne, bne_eq_false_iff_eq, ne_eq, Decidable.not_not, selI_z, selB_z, selS_z, selN_z, selL_z, selI_s, selB_s, selS_s, selN_s, selL_s, Int.toNat_natCast, Nat.mul_one, Nat.zero_add, Nat.div_one, List.drop_zero, Nat.zero_mul, Nat.le_refl, Bool.not_eq_true', Bool.not_eq_false', Bool.false_eq_true, Bool.true_eq_false, not_true_eq_false, not_false_eq_true, false_imp_iff, true_imp_iff, if_true, if_false, sig, sigF, sigW, sigR, sigO, sigD, sigWD, List.map_cons, List.map_nil]
  refine ⟨⟨l, 1048576, rfl, hl, hm, by omega, by omega⟩, ?_⟩
  rintro ys ⟨r, rfl, r0, r1, r2⟩
  simp only [F_eov_szoff, F_eov_tooff, F_eov_ioff, F_eov_soff, F_eov_eqoff, s_szoff, s_tooff, s_ioff, s_soff, s_eqoff, Tree.holds, ltI_t, ltI_f, leI_t, leI_f, all_cons, all_nil, and_true, true_and, forall_eq, decide_eq_true_eq, decide_eq_false_iff_not, beq_iff_eq, beq_eq_false_iff_ne, bne_iff_ne, bne_eq_false_iff_eq, ne_eq, Decidable.not_not, selI_z, selB_z, selS_z, selN_z, selL_z, selI_s, selB_s, selS_s, selN_s, selL_s, Int.toNat_natCast, Nat.mul_one, Nat.zero_add, Nat.div_one, List.drop_zero, Nat.zero_mul, Nat.le_refl, Bool.not_eq_true', Bool.not_eq_false', Bool.false_eq_true, Bool.true_eq_false, not_true_eq_false, not_false_eq_true, false_imp_iff, true_imp_iff, if_true, if_false, sig, sigF, sigW, sigR, sigO, sigD, sigWD, List.map_cons, List.map_nil]
  refine ⟨fun _ => trivial, fun h => ?_⟩
  have hs := r2 (by omega) (by omega)
  have e1 : D.list 25 (selN (impD l) 0) (selL (impD l) 0) = .list 25 l.length (offD l) := rfl
  obtain ⟨hs1, hs2⟩ := hs
  rw [unO_off] at hs2
  have e2 : selL (impD l) 0 = offD l := rfl
  simp only [unO_off, e1, e2]
  exact ⟨⟨l, rfl, hs1, hs2⟩, ⟨l, rfl, hs1, hs2⟩, ⟨l, rfl, hs1, hs2⟩, ⟨l, rfl, hs1, hs2⟩, ⟨l, rfl, hs1, hs2⟩, l, rfl, hs1, hs2⟩
end Go.Proofs.Ytgoheolehnahkaa.Mini
end
