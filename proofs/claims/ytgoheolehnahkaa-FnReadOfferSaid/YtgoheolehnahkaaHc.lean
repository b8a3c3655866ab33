/- Parts of the proof in one text: OffL, OffLP. -/
import Derived.Test.YtgoheolehnahkaaHb
import Derived.Test.YtgoheolehnahkaaHelp
section
namespace Go.Proofs.Ytgoheolehnahkaa.Mini
open Go Go.RowKit
set_option linter.unusedVariables false
set_option linter.unusedSimpArgs false
set_option maxRecDepth 20000
/-- A media that came in. -/
def wfM (m : Med) : Prop := m.k.size ≤ maxLen ∧ m.c.length ≤ maxLen ∧ ∀ x ∈ m.c, x.size ≤ maxLen
def lawD (l : List Med) : List D := [.list 30 l.length (offD l)]
def impD (l : List Med) : List D := [.list 25 l.length (offD l)]
/-- The cells of an offer, empty lists of whatever kind. -/
def offE : List Med → List D → Prop
  | [], cs => cs = []
  | m :: l, cs => ∃ t r, cs = .str m.k :: .int .i64 m.p :: .bool m.s :: .bool m.h :: t :: r ∧ (t = .list 9 m.c.length (textsD m.c) ∨ t = .list 0 0 [] ∧ m.c = []) ∧ offE l r
def sameB (a b : List ByteArray) : Bool := decide (a = b)
noncomputable def s_ioffz : Sig := sig Try.f19 (fun xs => ∃ (l : List Med) (cs : List D), xs = [.list 25 l.length cs] ∧ offE l cs ∧ l.length ≤ 1048576 ∧ ∀ m ∈ l, smM m) (fun xs ys => ys = [.bool (offB (unO (selL xs 0)))])
noncomputable def s_samet : Sig := sig Try.f26 (fun xs => ∃ a b : List ByteArray, xs = [.list 9 a.length (textsD a), .list 9 b.length (textsD b)] ∧ a.length ≤ 1048576) (fun xs ys => ys = [.bool (sameB (unS (selL xs 0)) (unS (selL xs 1)))])
noncomputable def s_samem : Sig := sig Try.f50 (fun xs => ∃ m : Med, xs = medD m ++ medD m ∧ m.c.length ≤ 1048576) (fun xs ys => ys = [.bool true])
noncomputable def s_sameo : Sig := sig Try.f29 (fun xs => ∃ l : List Med, xs = impD l ++ impD l ∧ l.length ≤ 1048576 ∧ ∀ m ∈ l, m.c.length ≤ 1048576) (fun xs ys => ys = [.bool true])
noncomputable def s_szmed : Sig := sig Try.f15 (fun xs => ∃ (m : Med) (a : Int), xs = medD m ++ [.int .i64 a] ∧ wfM m ∧ -1 ≤ a ∧ a ≤ 2147483647) (fun xs ys => ∃ r : Int, ys = [.int .i64 r] ∧ -1 ≤ r ∧ r ≤ selI xs 5 ∧ (0 ≤ r → selI xs 5 ≤ 1048576 → smM (unM xs)))
noncomputable def s_szoff : Sig := sig Try.f21 (fun xs => ∃ (l : List Med) (a : Int), xs = lawD l ++ [.int .i64 a] ∧ l.length ≤ maxLen ∧ (∀ m ∈ l, wfM m) ∧ -1 ≤ a ∧ a ≤ 2147483647) (fun xs ys => ∃ r : Int, ys = [.int .i64 r] ∧ -1 ≤ r ∧ r ≤ selI xs 1 ∧ (0 ≤ r → selI xs 1 ≤ 1048576 → selN xs 0 ≤ 1048576 ∧ ∀ m ∈ unO (selL xs 0), smM m))
noncomputable def s_tomed : Sig := sigF Try.f16 (fun xs => ∃ m : Med, xs = medD m ∧ smM m) (fun xs ys => ys = medD (unM xs))
noncomputable def s_tooff : Sig := sigF Try.f22 (fun xs => ∃ l : List Med, xs = lawD l ∧ l.length ≤ 1048576 ∧ ∀ m ∈ l, smM m) (fun xs ys => ys = impD (unO (selL xs 0)))
noncomputable def s_eqmed : Sig := sig Try.f17 (fun xs => ∃ m : Med, xs = medD m ++ medD m ∧ smM m) (fun xs ys => ys = [.bool true])
noncomputable def s_eqoff : Sig := sig Try.f23 (fun xs => ∃ l : List Med, xs = impD l ++ impD l ∧ l.length ≤ 1048576 ∧ ∀ m ∈ l, smM m) (fun xs ys => ys = [.bool true])
noncomputable def s_emv : Sig := sig Try.f4 (fun xs => wfXs Try.prog 4 [.str, .int .i64, .bool, .bool, .list 9] xs) (fun xs ys => ys = [.bool true])
noncomputable def s_eov : Sig := sig Try.f6 (fun xs => wfXs Try.prog 4 [.list 30] xs) (fun xs ys => ys = [.bool true])
noncomputable def s_lmv : Sig := sig Try.f3 (fun xs => wfXs Try.prog 4 [.list 5] xs) (fun xs ys => ys = [.bool true])
noncomputable def s_lov : Sig := sig Try.f5 (fun xs => wfXs Try.prog 4 [.list 5] xs) (fun xs ys => ys = [.bool true])
noncomputable def s_lol : Sig := sig Try.f7 (fun xs => wfXs Try.prog 4 [.list 5] xs) (fun xs ys => ys = [.bool true])
noncomputable def s_lro : Sig := sig Try.f9 (fun xs => wfXs Try.prog 4 [.list 5] xs) (fun xs ys => ys = [.bool true])
noncomputable def F_ioffz : Tb := tab [(12, s_imed)]
theorem F_ioffz_imed : F_ioffz 12 = some s_imed := rfl
noncomputable def hs_ioffz : Hds := [([false, true, false, true, true], shapeW Try.f19 0 [(0, .one (.kd (.list 25))), (3, .one (.kd (.int .i64)))] [])]
set_option maxHeartbeats 4000000 in
theorem t_ioffz (a0n : Nat) (a0 : List D) : fnT' Try.prog F_ioffz hs_ioffz .own Try.f19 [.list 25 a0n a0] = (Tree.ite (ltI (4 : Int) (Nat.cast a0n : Int)) (Tree.ret [(D.bool false)]) (Tree.goto 0 [(D.list 25 a0n a0), (D.int .i64 (0 : Int))])) := by kernel_rfl
set_option maxHeartbeats 4000000 in
theorem t_ioffz0 (x0n : Nat) (x0 : List D) (x3 : Int) : plT' Try.prog F_ioffz hs_ioffz .own Try.f19 0 [.list 25 x0n x0, .int .i64 x3] = (Tree.ite (ltI x3 (Nat.cast x0n : Int)) (Tree.need (all_ [(((0 : Int) ≤ x3) ∧ (x3 < (Nat.cast x0n : Int)))]) (Tree.need (all_ [((GetElem?.getElem? x0 ((Int.toNat x3) * (5 : Nat))) = (Option.some (sel x0 ((Int.toNat x3) * (5 : Nat)) Kd.str))), ((GetElem?.getElem? x0 (((Int.toNat x3) * (5 : Nat)) + (1 : Nat))) = (Option.some (sel x0 (((Int.toNat x3) * (5 : Nat)) + (1 : Nat)) (Kd.int .i64)))), ((GetElem?.getElem? x0 ((((Int.toNat x3) * (5 : Nat)) + (1 : Nat)) + (1 : Nat))) = (Option.some (sel x0 ((((Int.toNat x3) * (5 : Nat)) + (1 : Nat)) + (1 : Nat)) Kd.bool))), ((GetElem?.getElem? x0 (((((Int.toNat x3) * (5 : Nat)) + (1 : Nat)) + (1 : Nat)) + (1 : Nat))) = (Option.some (sel x0 (((((Int.toNat x3) * (5 : Nat)) + (1 : Nat)) + (1 : Nat)) + (1 : Nat)) Kd.bool))), (((GetElem?.getElem? x0 ((((((Int.toNat x3) * (5 : Nat)) + (1 : Nat)) + (1 : Nat)) + (1 : Nat)) + (1 : Nat))) = (Option.some (D.list 9 (selN x0 ((((((Int.toNat x3) * (5 : Nat)) + (1 : Nat)) + (1 : Nat)) + (1 : Nat)) + (1 : Nat))) (selL x0 ((((((Int.toNat x3) * (5 : Nat)) + (1 : Nat)) + (1 : Nat)) + (1 : Nat)) + (1 : Nat)))))) ∨ ((GetElem?.getElem? x0 ((((((Int.toNat x3) * (5 : Nat)) + (1 : Nat)) + (1 : Nat)) + (1 : Nat)) + (1 : Nat))) = (Option.some (D.list 0 (0 : Nat) []))))]) (Tree.call 12 [(D.str (selS x0 ((Int.toNat x3) * (5 : Nat)))), (D.int .i64 (selI x0 (((Int.toNat x3) * (5 : Nat)) + (1 : Nat)))), (D.bool (selB x0 ((((Int.toNat x3) * (5 : Nat)) + (1 : Nat)) + (1 : Nat)))), (D.bool (selB x0 (((((Int.toNat x3) * (5 : Nat)) + (1 : Nat)) + (1 : Nat)) + (1 : Nat)))), (D.list 9 (selN x0 ((((((Int.toNat x3) * (5 : Nat)) + (1 : Nat)) + (1 : Nat)) + (1 : Nat)) + (1 : Nat))) (selL x0 ((((((Int.toNat x3) * (5 : Nat)) + (1 : Nat)) + (1 : Nat)) + (1 : Nat)) + (1 : Nat))))] (fun y196 => (Tree.ite (Bool.not (selB y196 0)) (Tree.ret [(D.bool false)]) (Tree.need (all_ [(inK .i64 (x3 + (1 : Int)))]) (Tree.goto 0 [(D.list 25 x0n x0), (D.int .i64 (x3 + (1 : Int)))]))))))) (Tree.ret [(D.bool true)])) := by kernel_rfl
noncomputable def F_samet : Tb := tab []
noncomputable def hs_samet : Hds := [([false, true, false, true, true], shapeW Try.f26 0 [(0, .one (.kd (.list 9))), (1, .one (.kd (.list 9))), (5, .one (.kd (.int .i64)))] [])]
set_option maxHeartbeats 4000000 in
theorem t_samet (a0n : Nat) (a0 : List D) (a1n : Nat) (a1 : List D) : fnT' Try.prog F_samet hs_samet .own Try.f26 [.list 9 a0n a0, .list 9 a1n a1] = (Tree.ite ((Nat.cast a0n : Int) != (Nat.cast a1n : Int)) (Tree.ret [(D.bool false)]) (Tree.goto 0 [(D.list 9 a0n a0), (D.list 9 a1n a1), (D.int .i64 (0 : Int))])) := by kernel_rfl
set_option maxHeartbeats 4000000 in
theorem t_samet0 (x0n : Nat) (x0 : List D) (x1n : Nat) (x1 : List D) (x5 : Int) : plT' Try.prog F_samet hs_samet .own Try.f26 0 [.list 9 x0n x0, .list 9 x1n x1, .int .i64 x5] = (Tree.ite (ltI x5 (Nat.cast x0n : Int)) (Tree.need (all_ [(((0 : Int) ≤ x5) ∧ (x5 < (Nat.cast x0n : Int)))]) (Tree.need (all_ [((GetElem?.getElem? x0 ((Int.toNat x5) * (1 : Nat))) = (Option.some (sel x0 ((Int.toNat x5) * (1 : Nat)) Kd.str)))]) (Tree.need (all_ [(((0 : Int) ≤ x5) ∧ (x5 < (Nat.cast x1n : Int)))]) (Tree.need (all_ [((GetElem?.getElem? x1 ((Int.toNat x5) * (1 : Nat))) = (Option.some (sel x1 ((Int.toNat x5) * (1 : Nat)) Kd.str)))]) (Tree.ite (Bool.not ((ByteArray.toList (selS x0 ((Int.toNat x5) * (1 : Nat)))) == (ByteArray.toList (selS x1 ((Int.toNat x5) * (1 : Nat)))))) (Tree.ret [(D.bool false)]) (Tree.need (all_ [(inK .i64 (x5 + (1 : Int)))]) (Tree.goto 0 [(D.list 9 x0n x0), (D.list 9 x1n x1), (D.int .i64 (x5 + (1 : Int)))]))))))) (Tree.ret [(D.bool true)])) := by kernel_rfl
noncomputable def F_samem : Tb := tab [(26, s_samet)]
theorem F_samem_samet : F_samem 26 = some s_samet := rfl
noncomputable def hs_samem : Hds := []
set_option maxHeartbeats 4000000 in
theorem t_samem (a0 : ByteArray) (a1 : Int) (a2 : Bool) (a3 : Bool) (a4n : Nat) (a4 : List D) (a5 : ByteArray) (a6 : Int) (a7 : Bool) (a8 : Bool) (a9n : Nat) (a9 : List D) : fnT' Try.prog F_samem hs_samem .own Try.f50 [.str a0, .int IntKind.i64 a1, .bool a2, .bool a3, .list 9 a4n a4, .str a5, .int IntKind.i64 a6, .bool a7, .bool a8, .list 9 a9n a9] = (Tree.ite ((ByteArray.toList a0) == (ByteArray.toList a5)) (Tree.ite (a1 == a6) (Tree.ite (a2 == a7) (Tree.ite (a3 == a8) (Tree.call 26 [(D.list 9 a4n a4), (D.list 9 a9n a9)] (fun y195 => (Tree.ret [(D.bool (selB y195 0))]))) (Tree.ret [(D.bool false)])) (Tree.ret [(D.bool false)])) (Tree.ret [(D.bool false)])) (Tree.ret [(D.bool false)])) := by kernel_rfl
noncomputable def F_sameo : Tb := tab [(50, s_samem)]
theorem F_sameo_samem : F_sameo 50 = some s_samem := rfl
noncomputable def hs_sameo : Hds := [([false, true, false, true, true], shapeW Try.f29 0 [(0, .one (.kd (.list 25))), (1, .one (.kd (.list 25))), (5, .one (.kd (.int .i64)))] [])]
set_option maxHeartbeats 4000000 in
theorem t_sameo (a0n : Nat) (a0 : List D) (a1n : Nat) (a1 : List D) : fnT' Try.prog F_sameo hs_sameo .own Try.f29 [.list 25 a0n a0, .list 25 a1n a1] = (Tree.ite ((Nat.cast a0n : Int) != (Nat.cast a1n : Int)) (Tree.ret [(D.bool false)]) (Tree.goto 0 [(D.list 25 a0n a0), (D.list 25 a1n a1), (D.int .i64 (0 : Int))])) := by kernel_rfl
set_option maxHeartbeats 4000000 in
theorem t_sameo0 (x0n : Nat) (x0 : List D) (x1n : Nat) (x1 : List D) (x5 : Int) : plT' Try.prog F_sameo hs_sameo .own Try.f29 0 [.list 25 x0n x0, .list 25 x1n x1, .int .i64 x5] = (Tree.ite (ltI x5 (Nat.cast x0n : Int)) (Tree.need (all_ [(((0 : Int) ≤ x5) ∧ (x5 < (Nat.cast x0n : Int)))]) (Tree.need (all_ [((GetElem?.getElem? x0 ((Int.toNat x5) * (5 : Nat))) = (Option.some (sel x0 ((Int.toNat x5) * (5 : Nat)) Kd.str))), ((GetElem?.getElem? x0 (((Int.toNat x5) * (5 : Nat)) + (1 : Nat))) = (Option.some (sel x0 (((Int.toNat x5) * (5 : Nat)) + (1 : Nat)) (Kd.int .i64)))), ((GetElem?.getElem? x0 ((((Int.toNat x5) * (5 : Nat)) + (1 : Nat)) + (1 : Nat))) = (Option.some (sel x0 ((((Int.toNat x5) * (5 : Nat)) + (1 : Nat)) + (1 : Nat)) Kd.bool))), ((GetElem?.getElem? x0 (((((Int.toNat x5) * (5 : Nat)) + (1 : Nat)) + (1 : Nat)) + (1 : Nat))) = (Option.some (sel x0 (((((Int.toNat x5) * (5 : Nat)) + (1 : Nat)) + (1 : Nat)) + (1 : Nat)) Kd.bool))), (((GetElem?.getElem? x0 ((((((Int.toNat x5) * (5 : Nat)) + (1 : Nat)) + (1 : Nat)) + (1 : Nat)) + (1 : Nat))) = (Option.some (D.list 9 (selN x0 ((((((Int.toNat x5) * (5 : Nat)) + (1 : Nat)) + (1 : Nat)) + (1 : Nat)) + (1 : Nat))) (selL x0 ((((((Int.toNat x5) * (5 : Nat)) + (1 : Nat)) + (1 : Nat)) + (1 : Nat)) + (1 : Nat)))))) ∨ ((GetElem?.getElem? x0 ((((((Int.toNat x5) * (5 : Nat)) + (1 : Nat)) + (1 : Nat)) + (1 : Nat)) + (1 : Nat))) = (Option.some (D.list 0 (0 : Nat) []))))]) (Tree.need (all_ [(((0 : Int) ≤ x5) ∧ (x5 < (Nat.cast x1n : Int)))]) (Tree.need (all_ [((GetElem?.getElem? x1 ((Int.toNat x5) * (5 : Nat))) = (Option.some (sel x1 ((Int.toNat x5) * (5 : Nat)) Kd.str))), ((GetElem?.getElem? x1 (((Int.toNat x5) * (5 : Nat)) + (1 : Nat))) = (Option.some (sel x1 (((Int.toNat x5) * (5 : Nat)) + (1 : Nat)) (Kd.int .i64)))), ((GetElem?.getElem? x1 ((((Int.toNat x5) * (5 : Nat)) + (1 : Nat)) + (1 : Nat))) = (Option.some (sel x1 ((((Int.toNat x5) * (5 : Nat)) + (1 : Nat)) + (1 : Nat)) Kd.bool))), ((GetElem?.getElem? x1 (((((Int.toNat x5) * (5 : Nat)) + (1 : Nat)) + (1 : Nat)) + (1 : Nat))) = (Option.some (sel x1 (((((Int.toNat x5) * (5 : Nat)) + (1 : Nat)) + (1 : Nat)) + (1 : Nat)) Kd.bool))), (((GetElem?.getElem? x1 ((((((Int.toNat x5) * (5 : Nat)) + (1 : Nat)) + (1 : Nat)) + (1 : Nat)) + (1 : Nat))) = (Option.some (D.list 9 (selN x1 ((((((Int.toNat x5) * (5 : Nat)) + (1 : Nat)) + (1 : Nat)) + (1 : Nat)) + (1 : Nat))) (selL x1 ((((((Int.toNat x5) * (5 : Nat)) + (1 : Nat)) + (1 : Nat)) + (1 : Nat)) + (1 : Nat)))))) ∨ ((GetElem?.getElem? x1 ((((((Int.toNat x5) * (5 : Nat)) + (1 : Nat)) + (1 : Nat)) + (1 : Nat)) + (1 : Nat))) = (Option.some (D.list 0 (0 : Nat) []))))]) (Tree.call 50 [(D.str (selS x0 ((Int.toNat x5) * (5 : Nat)))), (D.int .i64 (selI x0 (((Int.toNat x5) * (5 : Nat)) + (1 : Nat)))), (D.bool (selB x0 ((((Int.toNat x5) * (5 : Nat)) + (1 : Nat)) + (1 : Nat)))), (D.bool (selB x0 (((((Int.toNat x5) * (5 : Nat)) + (1 : Nat)) + (1 : Nat)) + (1 : Nat)))), (D.list 9 (selN x0 ((((((Int.toNat x5) * (5 : Nat)) + (1 : Nat)) + (1 : Nat)) + (1 : Nat)) + (1 : Nat))) (selL x0 ((((((Int.toNat x5) * (5 : Nat)) + (1 : Nat)) + (1 : Nat)) + (1 : Nat)) + (1 : Nat)))), (D.str (selS x1 ((Int.toNat x5) * (5 : Nat)))), (D.int .i64 (selI x1 (((Int.toNat x5) * (5 : Nat)) + (1 : Nat)))), (D.bool (selB x1 ((((Int.toNat x5) * (5 : Nat)) + (1 : Nat)) + (1 : Nat)))), (D.bool (selB x1 (((((Int.toNat x5) * (5 : Nat)) + (1 : Nat)) + (1 : Nat)) + (1 : Nat)))), (D.list 9 (selN x1 ((((((Int.toNat x5) * (5 : Nat)) + (1 : Nat)) + (1 : Nat)) + (1 : Nat)) + (1 : Nat))) (selL x1 ((((((Int.toNat x5) * (5 : Nat)) + (1 : Nat)) + (1 : Nat)) + (1 : Nat)) + (1 : Nat))))] (fun y194 => (Tree.ite (Bool.not (selB y194 0)) (Tree.ret [(D.bool false)]) (Tree.need (all_ [(inK .i64 (x5 + (1 : Int)))]) (Tree.goto 0 [(D.list 25 x0n x0), (D.list 25 x1n x1), (D.int .i64 (x5 + (1 : Int)))]))))))))) (Tree.ret [(D.bool true)])) := by kernel_rfl
noncomputable def F_szmed : Tb := tab [(36, s_szstr)]
theorem F_szmed_szstr : F_szmed 36 = some s_szstr := rfl
noncomputable def hs_szmed : Hds := []
set_option maxHeartbeats 4000000 in
theorem t_szmed (a0 : ByteArray) (a1 : Int) (a2 : Bool) (a3 : Bool) (a4n : Nat) (a4 : List D) (a5 : Int) : fnT' Try.prog F_szmed hs_szmed .own Try.f15 [.str a0, .int IntKind.i64 a1, .bool a2, .bool a3, .list 9 a4n a4, .int IntKind.i64 a5] = (Tree.need (all_ [(inK .i64 (a5 - (Nat.cast (ByteArray.size a0) : Int)))]) (Tree.ite (ltI (a5 - (Nat.cast (ByteArray.size a0) : Int)) (0 : Int)) (Tree.ret [(D.int .i64 (-(1 : Int)))]) (Tree.call 36 [(D.list 9 a4n a4), (D.int .i64 (a5 - (Nat.cast (ByteArray.size a0) : Int)))] (fun y197 => (Tree.ite (ltI (selI y197 0) (0 : Int)) (Tree.ret [(D.int .i64 (-(1 : Int)))]) (Tree.ret [(D.int .i64 (selI y197 0))])))))) := by kernel_rfl
noncomputable def F_szoff : Tb := tab [(15, s_szmed)]
theorem F_szoff_szmed : F_szoff 15 = some s_szmed := rfl
noncomputable def hs_szoff : Hds := [([false, true, false, true, true, true], shapeW Try.f21 0 [(0, .one (.kd (.list 30))), (1, .one (.kd (.int .i64))), (5, .one (.kd (.int .i64)))] [])]
set_option maxHeartbeats 4000000 in
theorem t_szoff (a0n : Nat) (a0 : List D) (a1 : Int) : fnT' Try.prog F_szoff hs_szoff .own Try.f21 [.list 30 a0n a0, .int IntKind.i64 a1] = (Tree.need (all_ [(inK .i64 (a1 - (Nat.cast a0n : Int)))]) (Tree.ite (ltI (a1 - (Nat.cast a0n : Int)) (0 : Int)) (Tree.ret [(D.int .i64 (-(1 : Int)))]) (Tree.goto 0 [(D.list 30 a0n a0), (D.int .i64 (a1 - (Nat.cast a0n : Int))), (D.int .i64 (0 : Int))]))) := by kernel_rfl
set_option maxHeartbeats 4000000 in
theorem t_szoff0 (x0n : Nat) (x0 : List D) (x1 : Int) (x5 : Int) : plT' Try.prog F_szoff hs_szoff .own Try.f21 0 [.list 30 x0n x0, .int .i64 x1, .int .i64 x5] = (Tree.ite (ltI x5 (Nat.cast x0n : Int)) (Tree.need (all_ [(((0 : Int) ≤ x5) ∧ (x5 < (Nat.cast x0n : Int)))]) (Tree.need (all_ [((GetElem?.getElem? x0 ((Int.toNat x5) * (5 : Nat))) = (Option.some (sel x0 ((Int.toNat x5) * (5 : Nat)) Kd.str))), ((GetElem?.getElem? x0 (((Int.toNat x5) * (5 : Nat)) + (1 : Nat))) = (Option.some (sel x0 (((Int.toNat x5) * (5 : Nat)) + (1 : Nat)) (Kd.int .i64)))), ((GetElem?.getElem? x0 ((((Int.toNat x5) * (5 : Nat)) + (1 : Nat)) + (1 : Nat))) = (Option.some (sel x0 ((((Int.toNat x5) * (5 : Nat)) + (1 : Nat)) + (1 : Nat)) Kd.bool))), ((GetElem?.getElem? x0 (((((Int.toNat x5) * (5 : Nat)) + (1 : Nat)) + (1 : Nat)) + (1 : Nat))) = (Option.some (sel x0 (((((Int.toNat x5) * (5 : Nat)) + (1 : Nat)) + (1 : Nat)) + (1 : Nat)) Kd.bool))), (((GetElem?.getElem? x0 ((((((Int.toNat x5) * (5 : Nat)) + (1 : Nat)) + (1 : Nat)) + (1 : Nat)) + (1 : Nat))) = (Option.some (D.list 9 (selN x0 ((((((Int.toNat x5) * (5 : Nat)) + (1 : Nat)) + (1 : Nat)) + (1 : Nat)) + (1 : Nat))) (selL x0 ((((((Int.toNat x5) * (5 : Nat)) + (1 : Nat)) + (1 : Nat)) + (1 : Nat)) + (1 : Nat)))))) ∨ ((GetElem?.getElem? x0 ((((((Int.toNat x5) * (5 : Nat)) + (1 : Nat)) + (1 : Nat)) + (1 : Nat)) + (1 : Nat))) = (Option.some (D.list 0 (0 : Nat) []))))]) (Tree.call 15 [(D.str (selS x0 ((Int.toNat x5) * (5 : Nat)))), (D.int .i64 (selI x0 (((Int.toNat x5) * (5 : Nat)) + (1 : Nat)))), (D.bool (selB x0 ((((Int.toNat x5) * (5 : Nat)) + (1 : Nat)) + (1 : Nat)))), (D.bool (selB x0 (((((Int.toNat x5) * (5 : Nat)) + (1 : Nat)) + (1 : Nat)) + (1 : Nat)))), (D.list 9 (selN x0 ((((((Int.toNat x5) * (5 : Nat)) + (1 : Nat)) + (1 : Nat)) + (1 : Nat)) + (1 : Nat))) (selL x0 ((((((Int.toNat x5) * (5 : Nat)) + (1 : Nat)) + (1 : Nat)) + (1 : Nat)) + (1 : Nat)))), (D.int .i64 x1)] (fun y196 => (Tree.ite (ltI (selI y196 0) (0 : Int)) (Tree.ret [(D.int .i64 (-(1 : Int)))]) (Tree.need (all_ [(inK .i64 (x5 + (1 : Int)))]) (Tree.goto 0 [(D.list 30 x0n x0), (D.int .i64 (selI y196 0)), (D.int .i64 (x5 + (1 : Int)))]))))))) (Tree.ret [(D.int .i64 x1)])) := by kernel_rfl
noncomputable def F_tomed : Tb := tab [(37, s_tostr)]
theorem F_tomed_tostr : F_tomed 37 = some s_tostr := rfl
noncomputable def hs_tomed : Hds := []
set_option maxHeartbeats 4000000 in
theorem t_tomed (a0 : ByteArray) (a1 : Int) (a2 : Bool) (a3 : Bool) (a4n : Nat) (a4 : List D) : fnT' Try.prog F_tomed hs_tomed .fz Try.f16 [.str a0, .int IntKind.i64 a1, .bool a2, .bool a3, .list 9 a4n a4] = (Tree.call 37 [(D.list 9 a4n a4)] (fun y199 => (Tree.need (all_ [((((0 : Nat) + (selN y199 0)) * (1 : Nat)) ≤ (List.length (selL y199 0)))]) (Tree.ret [(D.str a0), (D.int .i64 a1), (D.bool a2), (D.bool a3), (D.list 9 (selN y199 0) (List.take ((selN y199 0) * (1 : Nat)) (List.drop ((0 : Nat) * (1 : Nat)) (selL y199 0))))])))) := by kernel_rfl
noncomputable def F_tooff : Tb := tab [(16, s_tomed)]
theorem F_tooff_tomed : F_tooff 16 = some s_tomed := rfl
noncomputable def hs_tooff : Hds := [([false, true, false, true, true], shapeW Try.f22 0 [(0, .one (.kd (.list 30))), (3, .one (.sl 25 0)), (4, .one (.kd (.int .i64)))] [.sym 25])]
set_option maxHeartbeats 4000000 in
theorem t_tooff (a0n : Nat) (a0 : List D) : fnT' Try.prog F_tooff hs_tooff .fz Try.f22 [.list 30 a0n a0] = (Tree.need (all_ [(((Nat.cast a0n : Int) = (Nat.cast a0n : Int)) ∧ (((0 : Int) ≤ (Nat.cast a0n : Int)) ∧ ((((Nat.cast a0n : Int) * (Nat.cast (5 : Nat) : Int)) ≤ (16777216 : Int)) ∧ (((Nat.cast (56 : Nat) : Int) * (Nat.cast a0n : Int)) ≤ (281474976710656 : Int)))))]) (Tree.goto 0 [(D.list 30 a0n a0), (D.int .i64 (Nat.cast (0 : Nat) : Int)), (D.int .i64 (Nat.cast a0n : Int)), (D.int .i64 (0 : Int)), (D.list 25 (0 : Nat) (rep a0n [(D.str (ByteArray.mk (List.toArray []))), (D.int .i64 (0 : Int)), (D.bool false), (D.bool false), (D.list 0 (0 : Nat) [])]))])) := by kernel_rfl
set_option maxHeartbeats 4000000 in
theorem t_tooff0 (x0n : Nat) (x0 : List D) (x3o x3n : Nat) (x4 : Int) (r0 : List D) : plT' Try.prog F_tooff hs_tooff .fz Try.f22 0 [.list 30 x0n x0, .int .i64 (x3o : Nat), .int .i64 (x3n : Nat), .int .i64 x4, .list 25 0 r0] = (Tree.ite (ltI x4 (Nat.cast x0n : Int)) (Tree.need (all_ [(((0 : Int) ≤ x4) ∧ (x4 < (Nat.cast x0n : Int)))]) (Tree.need (all_ [((GetElem?.getElem? x0 ((Int.toNat x4) * (5 : Nat))) = (Option.some (sel x0 ((Int.toNat x4) * (5 : Nat)) Kd.str))), ((GetElem?.getElem? x0 (((Int.toNat x4) * (5 : Nat)) + (1 : Nat))) = (Option.some (sel x0 (((Int.toNat x4) * (5 : Nat)) + (1 : Nat)) (Kd.int .i64)))), ((GetElem?.getElem? x0 ((((Int.toNat x4) * (5 : Nat)) + (1 : Nat)) + (1 : Nat))) = (Option.some (sel x0 ((((Int.toNat x4) * (5 : Nat)) + (1 : Nat)) + (1 : Nat)) Kd.bool))), ((GetElem?.getElem? x0 (((((Int.toNat x4) * (5 : Nat)) + (1 : Nat)) + (1 : Nat)) + (1 : Nat))) = (Option.some (sel x0 (((((Int.toNat x4) * (5 : Nat)) + (1 : Nat)) + (1 : Nat)) + (1 : Nat)) Kd.bool))), (((GetElem?.getElem? x0 ((((((Int.toNat x4) * (5 : Nat)) + (1 : Nat)) + (1 : Nat)) + (1 : Nat)) + (1 : Nat))) = (Option.some (D.list 9 (selN x0 ((((((Int.toNat x4) * (5 : Nat)) + (1 : Nat)) + (1 : Nat)) + (1 : Nat)) + (1 : Nat))) (selL x0 ((((((Int.toNat x4) * (5 : Nat)) + (1 : Nat)) + (1 : Nat)) + (1 : Nat)) + (1 : Nat)))))) ∨ ((GetElem?.getElem? x0 ((((((Int.toNat x4) * (5 : Nat)) + (1 : Nat)) + (1 : Nat)) + (1 : Nat)) + (1 : Nat))) = (Option.some (D.list 0 (0 : Nat) []))))]) (Tree.call 16 [(D.str (selS x0 ((Int.toNat x4) * (5 : Nat)))), (D.int .i64 (selI x0 (((Int.toNat x4) * (5 : Nat)) + (1 : Nat)))), (D.bool (selB x0 ((((Int.toNat x4) * (5 : Nat)) + (1 : Nat)) + (1 : Nat)))), (D.bool (selB x0 (((((Int.toNat x4) * (5 : Nat)) + (1 : Nat)) + (1 : Nat)) + (1 : Nat)))), (D.list 9 (selN x0 ((((((Int.toNat x4) * (5 : Nat)) + (1 : Nat)) + (1 : Nat)) + (1 : Nat)) + (1 : Nat))) (selL x0 ((((((Int.toNat x4) * (5 : Nat)) + (1 : Nat)) + (1 : Nat)) + (1 : Nat)) + (1 : Nat))))] (fun y196 => (Tree.need (all_ [(((0 : Int) ≤ x4) ∧ (x4 < (Nat.cast x3n : Int)))]) (Tree.need (all_ [((((x3o + (Int.toNat x4)) * (5 : Nat)) + (5 : Nat)) ≤ (List.length r0))]) (Tree.need (all_ [(inK .i64 (x4 + (1 : Int)))]) (Tree.goto 0 [(D.list 30 x0n x0), (D.int .i64 (Nat.cast x3o : Int)), (D.int .i64 (Nat.cast x3n : Int)), (D.int .i64 (x4 + (1 : Int))), (D.list 25 (0 : Nat) (setL r0 ((x3o + (Int.toNat x4)) * (5 : Nat)) [(sel y196 (0 : Nat) Kd.str), (sel y196 ((0 : Nat) + (1 : Nat)) (Kd.int .i64)), (sel y196 (((0 : Nat) + (1 : Nat)) + (1 : Nat)) Kd.bool), (sel y196 ((((0 : Nat) + (1 : Nat)) + (1 : Nat)) + (1 : Nat)) Kd.bool), (sel y196 (((((0 : Nat) + (1 : Nat)) + (1 : Nat)) + (1 : Nat)) + (1 : Nat)) (Kd.list (9 : Nat)))]))])))))))) (Tree.need (all_ [(((x3o + x3n) * (5 : Nat)) ≤ (List.length r0))]) (Tree.ret [(D.list 25 x3n (List.take (x3n * (5 : Nat)) (List.drop (x3o * (5 : Nat)) r0)))]))) := by kernel_rfl
noncomputable def F_eqmed : Tb := tab [(30, s_eqstr)]
theorem F_eqmed_eqstr : F_eqmed 30 = some s_eqstr := rfl
noncomputable def hs_eqmed : Hds := []
set_option maxHeartbeats 4000000 in
theorem t_eqmed (a0 : ByteArray) (a1 : Int) (a2 : Bool) (a3 : Bool) (a4n : Nat) (a4 : List D) (a5 : ByteArray) (a6 : Int) (a7 : Bool) (a8 : Bool) (a9n : Nat) (a9 : List D) : fnT' Try.prog F_eqmed hs_eqmed .own Try.f17 [.str a0, .int IntKind.i64 a1, .bool a2, .bool a3, .list 9 a4n a4, .str a5, .int IntKind.i64 a6, .bool a7, .bool a8, .list 9 a9n a9] = (Tree.ite (Bool.not ((ByteArray.toList a0) == (ByteArray.toList a5))) (Tree.ret [(D.bool false)]) (Tree.ite (a1 != a6) (Tree.ret [(D.bool false)]) (Tree.ite (Bool.not (a2 == a7)) (Tree.ret [(D.bool false)]) (Tree.ite (Bool.not (a3 == a8)) (Tree.ret [(D.bool false)]) (Tree.call 30 [(D.list 9 a4n a4), (D.list 9 a9n a9)] (fun y195 => (Tree.ite (Bool.not (selB y195 0)) (Tree.ret [(D.bool false)]) (Tree.ret [(D.bool true)])))))))) := by kernel_rfl
noncomputable def F_eqoff : Tb := tab [(17, s_eqmed)]
theorem F_eqoff_eqmed : F_eqoff 17 = some s_eqmed := rfl
noncomputable def hs_eqoff : Hds := [([false, true, false, true, true], shapeW Try.f23 0 [(0, .one (.kd (.list 25))), (1, .one (.kd (.list 25))), (5, .one (.kd (.int .i64)))] [])]
set_option maxHeartbeats 4000000 in
theorem t_eqoff (a0n : Nat) (a0 : List D) (a1n : Nat) (a1 : List D) : fnT' Try.prog F_eqoff hs_eqoff .own Try.f23 [.list 25 a0n a0, .list 25 a1n a1] = (Tree.ite ((Nat.cast a0n : Int) != (Nat.cast a1n : Int)) (Tree.ret [(D.bool false)]) (Tree.goto 0 [(D.list 25 a0n a0), (D.list 25 a1n a1), (D.int .i64 (0 : Int))])) := by kernel_rfl
set_option maxHeartbeats 4000000 in
theorem t_eqoff0 (x0n : Nat) (x0 : List D) (x1n : Nat) (x1 : List D) (x5 : Int) : plT' Try.prog F_eqoff hs_eqoff .own Try.f23 0 [.list 25 x0n x0, .list 25 x1n x1, .int .i64 x5] = (Tree.ite (ltI x5 (Nat.cast x0n : Int)) (Tree.need (all_ [(((0 : Int) ≤ x5) ∧ (x5 < (Nat.cast x0n : Int)))]) (Tree.need (all_ [((GetElem?.getElem? x0 ((Int.toNat x5) * (5 : Nat))) = (Option.some (sel x0 ((Int.toNat x5) * (5 : Nat)) Kd.str))), ((GetElem?.getElem? x0 (((Int.toNat x5) * (5 : Nat)) + (1 : Nat))) = (Option.some (sel x0 (((Int.toNat x5) * (5 : Nat)) + (1 : Nat)) (Kd.int .i64)))), ((GetElem?.getElem? x0 ((((Int.toNat x5) * (5 : Nat)) + (1 : Nat)) + (1 : Nat))) = (Option.some (sel x0 ((((Int.toNat x5) * (5 : Nat)) + (1 : Nat)) + (1 : Nat)) Kd.bool))), ((GetElem?.getElem? x0 (((((Int.toNat x5) * (5 : Nat)) + (1 : Nat)) + (1 : Nat)) + (1 : Nat))) = (Option.some (sel x0 (((((Int.toNat x5) * (5 : Nat)) + (1 : Nat)) + (1 : Nat)) + (1 : Nat)) Kd.bool))), (((GetElem?.getElem? x0 ((((((Int.toNat x5) * (5 : Nat)) + (1 : Nat)) + (1 : Nat)) + (1 : Nat)) + (1 : Nat))) = (Option.some (D.list 9 (selN x0 ((((((Int.toNat x5) * (5 : Nat)) + (1 : Nat)) + (1 : Nat)) + (1 : Nat)) + (1 : Nat))) (selL x0 ((((((Int.toNat x5) * (5 : Nat)) + (1 : Nat)) + (1 : Nat)) + (1 : Nat)) + (1 : Nat)))))) ∨ ((GetElem?.getElem? x0 ((((((Int.toNat x5) * (5 : Nat)) + (1 : Nat)) + (1 : Nat)) + (1 : Nat)) + (1 : Nat))) = (Option.some (D.list 0 (0 : Nat) []))))]) (Tree.need (all_ [(((0 : Int) ≤ x5) ∧ (x5 < (Nat.cast x1n : Int)))]) (Tree.need (all_ [((GetElem?.getElem? x1 ((Int.toNat x5) * (5 : Nat))) = (Option.some (sel x1 ((Int.toNat x5) * (5 : Nat)) Kd.str))), ((GetElem?.getElem? x1 (((Int.toNat x5) * (5 : Nat)) + (1 : Nat))) = (Option.some (sel x1 (((Int.toNat x5) * (5 : Nat)) + (1 : Nat)) (Kd.int .i64)))), ((GetElem?.getElem? x1 ((((Int.toNat x5) * (5 : Nat)) + (1 : Nat)) + (1 : Nat))) = (Option.some (sel x1 ((((Int.toNat x5) * (5 : Nat)) + (1 : Nat)) + (1 : Nat)) Kd.bool))), ((GetElem?.getElem? x1 (((((Int.toNat x5) * (5 : Nat)) + (1 : Nat)) + (1 : Nat)) + (1 : Nat))) = (Option.some (sel x1 (((((Int.toNat x5) * (5 : Nat)) + (1 : Nat)) + (1 : Nat)) + (1 : Nat)) Kd.bool))), (((GetElem?.getElem? x1 ((((((Int.toNat x5) * (5 : Nat)) + (1 : Nat)) + (1 : Nat)) + (1 : Nat)) + (1 : Nat))) = (Option.some (D.list 9 (selN x1 ((((((Int.toNat x5) * (5 : Nat)) + (1 : Nat)) + (1 : Nat)) + (1 : Nat)) + (1 : Nat))) (selL x1 ((((((Int.toNat x5) * (5 : Nat)) + (1 : Nat)) + (1 : Nat)) + (1 : Nat)) + (1 : Nat)))))) ∨ ((GetElem?.getElem? x1 ((((((Int.toNat x5) * (5 : Nat)) + (1 : Nat)) + (1 : Nat)) + (1 : Nat)) + (1 : Nat))) = (Option.some (D.list 0 (0 : Nat) []))))]) (Tree.call 17 [(D.str (selS x0 ((Int.toNat x5) * (5 : Nat)))), (D.int .i64 (selI x0 (((Int.toNat x5) * (5 : Nat)) + (1 : Nat)))), (D.bool (selB x0 ((((Int.toNat x5) * (5 : Nat)) + (1 : Nat)) + (1 : Nat)))), (D.bool (selB x0 (((((Int.toNat x5) * (5 : Nat)) + (1 : Nat)) + (1 : Nat)) + (1 : Nat)))), (D.list 9 (selN x0 ((((((Int.toNat x5) * (5 : Nat)) + (1 : Nat)) + (1 : Nat)) + (1 : Nat)) + (1 : Nat))) (selL x0 ((((((Int.toNat x5) * (5 : Nat)) + (1 : Nat)) + (1 : Nat)) + (1 : Nat)) + (1 : Nat)))), (D.str (selS x1 ((Int.toNat x5) * (5 : Nat)))), (D.int .i64 (selI x1 (((Int.toNat x5) * (5 : Nat)) + (1 : Nat)))), (D.bool (selB x1 ((((Int.toNat x5) * (5 : Nat)) + (1 : Nat)) + (1 : Nat)))), (D.bool (selB x1 (((((Int.toNat x5) * (5 : Nat)) + (1 : Nat)) + (1 : Nat)) + (1 : Nat)))), (D.list 9 (selN x1 ((((((Int.toNat x5) * (5 : Nat)) + (1 : Nat)) + (1 : Nat)) + (1 : Nat)) + (1 : Nat))) (selL x1 ((((((Int.toNat x5) * (5 : Nat)) + (1 : Nat)) + (1 : Nat)) + (1 : Nat)) + (1 : Nat))))] (fun y194 => (Tree.ite (Bool.not (selB y194 0)) (Tree.ret [(D.bool false)]) (Tree.need (all_ [(inK .i64 (x5 + (1 : Int)))]) (Tree.goto 0 [(D.list 25 x0n x0), (D.list 25 x1n x1), (D.int .i64 (x5 + (1 : Int)))]))))))))) (Tree.ret [(D.bool true)])) := by kernel_rfl
noncomputable def F_emv : Tb := tab [(15, s_szmed), (16, s_tomed), (12, s_imed), (13, s_smed), (17, s_eqmed)]
theorem F_emv_szmed : F_emv 15 = some s_szmed := rfl
theorem F_emv_tomed : F_emv 16 = some s_tomed := rfl
theorem F_emv_imed : F_emv 12 = some s_imed := rfl
theorem F_emv_smed : F_emv 13 = some s_smed := rfl
theorem F_emv_eqmed : F_emv 17 = some s_eqmed := rfl
noncomputable def hs_emv : Hds := []
set_option maxHeartbeats 4000000 in
theorem t_emv (a0 : ByteArray) (a1 : Int) (a2 : Bool) (a3 : Bool) (a4n : Nat) (a4 : List D) : fnT' Try.prog F_emv hs_emv .own Try.f4 [.str a0, .int IntKind.i64 a1, .bool a2, .bool a3, .list 9 a4n a4] = (Tree.call 15 [(D.str a0), (D.int .i64 a1), (D.bool a2), (D.bool a3), (D.list 9 a4n a4), (D.int .i64 (1048576 : Int))] (fun y199 => (Tree.ite (ltI (selI y199 0) (0 : Int)) (Tree.ret [(D.bool true)]) (Tree.call 16 [(D.str a0), (D.int .i64 a1), (D.bool a2), (D.bool a3), (D.list 9 a4n a4)] (fun y197 => (Tree.call 13 [(D.str (selS y197 0)), (D.int .i64 (selI y197 1)), (D.bool (selB y197 2)), (D.bool (selB y197 3)), (D.list 9 (selN y197 4) (selL y197 4))] (fun y196 => (Tree.call 16 [(D.str a0), (D.int .i64 a1), (D.bool a2), (D.bool a3), (D.list 9 a4n a4)] (fun y195 => (Tree.call 12 [(D.str (selS y195 0)), (D.int .i64 (selI y195 1)), (D.bool (selB y195 2)), (D.bool (selB y195 3)), (D.list 9 (selN y195 4) (selL y195 4))] (fun y194 => (Tree.ite (Bool.not ((selB y194 0) == (selB y196 0))) (Tree.ret [(D.bool false)]) (Tree.call 16 [(D.str a0), (D.int .i64 a1), (D.bool a2), (D.bool a3), (D.list 9 a4n a4)] (fun y192 => (Tree.call 17 [(D.str (selS y195 0)), (D.int .i64 (selI y195 1)), (D.bool (selB y195 2)), (D.bool (selB y195 3)), (D.list 9 (selN y195 4) (selL y195 4)), (D.str (selS y192 0)), (D.int .i64 (selI y192 1)), (D.bool (selB y192 2)), (D.bool (selB y192 3)), (D.list 9 (selN y192 4) (selL y192 4))] (fun y191 => (Tree.ite (Bool.not (selB y191 0)) (Tree.ret [(D.bool false)]) (Tree.ret [(D.bool true)])))))))))))))))))) := by kernel_rfl
noncomputable def F_eov : Tb := tab [(21, s_szoff), (22, s_tooff), (19, s_ioff), (20, s_soff), (23, s_eqoff)]
theorem F_eov_szoff : F_eov 21 = some s_szoff := rfl
theorem F_eov_tooff : F_eov 22 = some s_tooff := rfl
theorem F_eov_ioff : F_eov 19 = some s_ioff := rfl
theorem F_eov_soff : F_eov 20 = some s_soff := rfl
theorem F_eov_eqoff : F_eov 23 = some s_eqoff := rfl
noncomputable def hs_eov : Hds := []
set_option maxHeartbeats 4000000 in
theorem t_eov (a0n : Nat) (a0 : List D) : fnT' Try.prog F_eov hs_eov .own Try.f6 [.list 30 a0n a0] = (Tree.call 21 [(D.list 30 a0n a0), (D.int .i64 (1048576 : Int))] (fun y199 => (Tree.ite (ltI (selI y199 0) (0 : Int)) (Tree.ret [(D.bool true)]) (Tree.call 22 [(D.list 30 a0n a0)] (fun y197 => (Tree.call 20 [(D.list 25 (selN y197 0) (selL y197 0))] (fun y196 => (Tree.call 22 [(D.list 30 a0n a0)] (fun y195 => (Tree.call 19 [(D.list 25 (selN y195 0) (selL y195 0))] (fun y194 => (Tree.ite (Bool.not ((selB y194 0) == (selB y196 0))) (Tree.ret [(D.bool false)]) (Tree.call 22 [(D.list 30 a0n a0)] (fun y192 => (Tree.call 23 [(D.list 25 (selN y195 0) (selL y195 0)), (D.list 25 (selN y192 0) (selL y192 0))] (fun y191 => (Tree.ite (Bool.not (selB y191 0)) (Tree.ret [(D.bool false)]) (Tree.ret [(D.bool true)])))))))))))))))))) := by kernel_rfl
noncomputable def F_lmv : Tb := tab [(11, s_dmv), (12, s_imed), (13, s_smed), (14, s_alive)]
theorem F_lmv_dmv : F_lmv 11 = some s_dmv := rfl
theorem F_lmv_imed : F_lmv 12 = some s_imed := rfl
theorem F_lmv_smed : F_lmv 13 = some s_smed := rfl
theorem F_lmv_alive : F_lmv 14 = some s_alive := rfl
noncomputable def hs_lmv : Hds := []
set_option maxHeartbeats 4000000 in
theorem t_lmv (a0n : Nat) (a0 : List D) : fnT' Try.prog F_lmv hs_lmv .own Try.f3 [.list 5 a0n a0] = (Tree.ite (ltI (1048576 : Int) (Nat.cast a0n : Int)) (Tree.ret [(D.bool true)]) (Tree.call 11 [(D.list 5 a0n a0)] (fun y198 => (Tree.call 12 [(D.str (selS y198 0)), (D.int .i64 (selI y198 1)), (D.bool (selB y198 2)), (D.bool (selB y198 3)), (D.list 9 (selN y198 4) (selL y198 4))] (fun y197 => (Tree.call 13 [(D.str (selS y198 0)), (D.int .i64 (selI y198 1)), (D.bool (selB y198 2)), (D.bool (selB y198 3)), (D.list 9 (selN y198 4) (selL y198 4))] (fun y196 => (Tree.ite (Bool.not ((selB y197 0) == (selB y196 0))) (Tree.ret [(D.bool false)]) (Tree.call 12 [(D.str (selS y198 0)), (D.int .i64 (selI y198 1)), (D.bool false), (D.bool false), (D.list 9 (0 : Nat) [])] (fun y194 => (Tree.ite (Bool.not (selB y194 0)) (Tree.ite (Bool.not (selB y197 0)) (Tree.call 14 [] (fun y191 => (Tree.ret [(D.bool (selB y191 0))]))) (Tree.call 12 [(D.str (selS y198 0)), (D.int .i64 (0 : Int)), (D.bool false), (D.bool false), (D.list 9 (selN y198 4) (selL y198 4))] (fun y191 => (Tree.ite (selB y191 0) (Tree.call 14 [] (fun y189 => (Tree.ret [(D.bool (selB y189 0))]))) (Tree.ret [(D.bool false)]))))) (Tree.ret [(D.bool false)])))))))))))) := by kernel_rfl
noncomputable def F_lov : Tb := tab [(18, s_dov), (19, s_ioffz), (20, s_soff), (14, s_alive)]
theorem F_lov_dov : F_lov 18 = some s_dov := rfl
theorem F_lov_ioffz : F_lov 19 = some s_ioffz := rfl
theorem F_lov_soff : F_lov 20 = some s_soff := rfl
theorem F_lov_alive : F_lov 14 = some s_alive := rfl
noncomputable def hs_lov : Hds := []
set_option maxHeartbeats 4000000 in
theorem t_lov (a0n : Nat) (a0 : List D) : fnT' Try.prog F_lov hs_lov .own Try.f5 [.list 5 a0n a0] = (Tree.ite (ltI (1048576 : Int) (Nat.cast a0n : Int)) (Tree.ret [(D.bool true)]) (Tree.call 18 [(D.list 5 a0n a0)] (fun y198 => (Tree.call 19 [(D.list 25 (selN y198 0) (selL y198 0))] (fun y197 => (Tree.call 20 [(D.list 25 (selN y198 0) (selL y198 0))] (fun y196 => (Tree.ite (Bool.not ((selB y197 0) == (selB y196 0))) (Tree.ret [(D.bool false)]) (Tree.need (all_ [((((0 : Nat) + (1 : Nat)) * (5 : Nat)) ≤ (5 : Nat)), (((1 : Nat) + (selN y198 0)) ≤ (1048576 : Nat))]) (Tree.need (all_ [((((0 : Nat) + ((1 : Nat) + (selN y198 0))) * (5 : Nat)) ≤ (List.length ((List.take ((1 : Nat) * (5 : Nat)) (List.drop ((0 : Nat) * (5 : Nat)) [(D.str (ByteArray.mk (List.toArray []))), (D.int .i64 (0 : Int)), (D.bool false), (D.bool false), (D.list 0 (0 : Nat) [])])) ++ (selL y198 0))))]) (Tree.call 19 [(D.list 25 ((1 : Nat) + (selN y198 0)) (List.take (((1 : Nat) + (selN y198 0)) * (5 : Nat)) (List.drop ((0 : Nat) * (5 : Nat)) ((List.take ((1 : Nat) * (5 : Nat)) (List.drop ((0 : Nat) * (5 : Nat)) [(D.str (ByteArray.mk (List.toArray []))), (D.int .i64 (0 : Int)), (D.bool false), (D.bool false), (D.list 0 (0 : Nat) [])])) ++ (selL y198 0)))))] (fun y192 => (Tree.ite (Bool.not (selB y192 0)) (Tree.ite (Bool.not (selB y197 0)) (Tree.call 14 [] (fun y189 => (Tree.ret [(D.bool (selB y189 0))]))) (Tree.need (all_ [((2 : Int) ≠ (0 : Int)), (inK .i64 (Int.tdiv (Nat.cast (selN y198 0) : Int) (2 : Int)))]) (Tree.need (all_ [(((0 : Int) ≤ (Option.getD (Option.some (Int.tdiv (Nat.cast (selN y198 0) : Int) (2 : Int))) (0 : Int))) ∧ (((Option.getD (Option.some (Int.tdiv (Nat.cast (selN y198 0) : Int) (2 : Int))) (0 : Int)) ≤ (Option.getD (Option.none) (Nat.cast (selN y198 0) : Int))) ∧ ((Option.getD (Option.none) (Nat.cast (selN y198 0) : Int)) ≤ (Nat.cast (selN y198 0) : Int))))]) (Tree.call 19 [(D.list 25 (Int.toNat ((Option.getD (Option.none) (Nat.cast (selN y198 0) : Int)) - (Option.getD (Option.some (Int.tdiv (Nat.cast (selN y198 0) : Int) (2 : Int))) (0 : Int)))) (List.take ((Int.toNat ((Option.getD (Option.none) (Nat.cast (selN y198 0) : Int)) - (Option.getD (Option.some (Int.tdiv (Nat.cast (selN y198 0) : Int) (2 : Int))) (0 : Int)))) * (5 : Nat)) (List.drop ((Int.toNat (Option.getD (Option.some (Int.tdiv (Nat.cast (selN y198 0) : Int) (2 : Int))) (0 : Int))) * (5 : Nat)) (selL y198 0))))] (fun y187 => (Tree.ite (selB y187 0) (Tree.call 14 [] (fun y185 => (Tree.ret [(D.bool (selB y185 0))]))) (Tree.ret [(D.bool false)]))))))) (Tree.ret [(D.bool false)])))))))))))))) := by kernel_rfl
noncomputable def F_lol : Tb := tab [(24, s_dol), (25, s_iol), (27, s_soli), (26, s_samet), (20, s_soff), (28, s_iro), (29, s_sameo), (14, s_alive)]
theorem F_lol_dol : F_lol 24 = some s_dol := rfl
theorem F_lol_iol : F_lol 25 = some s_iol := rfl
theorem F_lol_soli : F_lol 27 = some s_soli := rfl
theorem F_lol_samet : F_lol 26 = some s_samet := rfl
theorem F_lol_soff : F_lol 20 = some s_soff := rfl
theorem F_lol_iro : F_lol 28 = some s_iro := rfl
theorem F_lol_sameo : F_lol 29 = some s_sameo := rfl
theorem F_lol_alive : F_lol 14 = some s_alive := rfl
noncomputable def hs_lol : Hds := []
set_option maxHeartbeats 4000000 in
theorem t_lol (a0n : Nat) (a0 : List D) : fnT' Try.prog F_lol hs_lol .own Try.f7 [.list 5 a0n a0] = (Tree.ite (ltI (1048576 : Int) (Nat.cast a0n : Int)) (Tree.ret [(D.bool true)]) (Tree.call 24 [(D.list 5 a0n a0)] (fun y198 => (Tree.call 25 [(D.list 25 (selN y198 0) (selL y198 0))] (fun y197 => (Tree.call 27 [(D.list 25 (selN y198 0) (selL y198 0))] (fun y196 => (Tree.need (all_ [((((0 : Nat) + (selN y197 0)) * (1 : Nat)) ≤ (List.length (selL y197 0))), ((((0 : Nat) + (selN y196 0)) * (1 : Nat)) ≤ (List.length (selL y196 0)))]) (Tree.call 26 [(D.list 9 (selN y197 0) (List.take ((selN y197 0) * (1 : Nat)) (List.drop ((0 : Nat) * (1 : Nat)) (selL y197 0)))), (D.list 9 (selN y196 0) (List.take ((selN y196 0) * (1 : Nat)) (List.drop ((0 : Nat) * (1 : Nat)) (selL y196 0))))] (fun y194 => (Tree.ite (Bool.not (selB y194 0)) (Tree.ret [(D.bool false)]) (Tree.call 20 [(D.list 25 (selN y198 0) (selL y198 0))] (fun y192 => (Tree.ite (Bool.not (selB y192 0)) (Tree.ite ((Nat.cast (selN y197 0) : Int) == (0 : Int)) (Tree.call 14 [] (fun y189 => (Tree.ret [(D.bool (selB y189 0))]))) (Tree.ret [(D.bool false)])) (Tree.need (all_ [((((0 : Nat) + (selN y197 0)) * (1 : Nat)) ≤ (List.length (selL y197 0)))]) (Tree.call 28 [(D.list 9 (selN y197 0) (List.take ((selN y197 0) * (1 : Nat)) (List.drop ((0 : Nat) * (1 : Nat)) (selL y197 0))))] (fun y189 => (Tree.ite (selB y189 1) (Tree.call 29 [(D.list 25 (selN y189 0) (selL y189 0)), (D.list 25 (selN y198 0) (selL y198 0))] (fun y187 => (Tree.ret [(D.bool (selB y187 0))]))) (Tree.ret [(D.bool false)]))))))))))))))))))) := by kernel_rfl
noncomputable def F_lro : Tb := tab [(34, s_dro), (28, s_iro), (35, s_srof), (29, s_sameo), (19, s_ioff), (25, s_iol), (26, s_samet), (14, s_alive)]
theorem F_lro_dro : F_lro 34 = some s_dro := rfl
theorem F_lro_iro : F_lro 28 = some s_iro := rfl
theorem F_lro_srof : F_lro 35 = some s_srof := rfl
theorem F_lro_sameo : F_lro 29 = some s_sameo := rfl
theorem F_lro_ioff : F_lro 19 = some s_ioff := rfl
theorem F_lro_iol : F_lro 25 = some s_iol := rfl
theorem F_lro_samet : F_lro 26 = some s_samet := rfl
theorem F_lro_alive : F_lro 14 = some s_alive := rfl
noncomputable def hs_lro : Hds := []
set_option maxHeartbeats 4000000 in
theorem t_lro (a0n : Nat) (a0 : List D) : fnT' Try.prog F_lro hs_lro .own Try.f9 [.list 5 a0n a0] = (Tree.ite (ltI (1048576 : Int) (Nat.cast a0n : Int)) (Tree.ret [(D.bool true)]) (Tree.call 34 [(D.list 5 a0n a0)] (fun y198 => (Tree.call 28 [(D.list 9 (selN y198 0) (selL y198 0))] (fun y197 => (Tree.call 35 [(D.list 9 (selN y198 0) (selL y198 0))] (fun y196 => (Tree.call 29 [(D.list 25 (selN y197 0) (selL y197 0)), (D.list 25 (selN y196 0) (selL y196 0))] (fun y195 => (Tree.ite (Bool.not (selB y195 0)) (Tree.ret [(D.bool false)]) (Tree.ite (Bool.not ((selB y197 1) == (selB y196 1))) (Tree.ret [(D.bool false)]) (Tree.ite (Bool.not (selB y197 1)) (Tree.ite ((Nat.cast (selN y197 0) : Int) == (0 : Int)) (Tree.call 14 [] (fun y190 => (Tree.ret [(D.bool (selB y190 0))]))) (Tree.ret [(D.bool false)])) (Tree.call 19 [(D.list 25 (selN y197 0) (selL y197 0))] (fun y191 => (Tree.ite (selB y191 0) (Tree.call 25 [(D.list 25 (selN y197 0) (selL y197 0))] (fun y189 => (Tree.need (all_ [((((0 : Nat) + (selN y189 0)) * (1 : Nat)) ≤ (List.length (selL y189 0)))]) (Tree.call 26 [(D.list 9 (selN y189 0) (List.take ((selN y189 0) * (1 : Nat)) (List.drop ((0 : Nat) * (1 : Nat)) (selL y189 0)))), (D.list 9 (selN y198 0) (selL y198 0))] (fun y187 => (Tree.ret [(D.bool (selB y187 0))])))))) (Tree.ret [(D.bool false)])))))))))))))))) := by kernel_rfl
end Go.Proofs.Ytgoheolehnahkaa.Mini
end
section
/- Chapter 9: offers: the laws and their helpers: proofs. -/
namespace Go.Proofs.Ytgoheolehnahkaa.Mini
open Go Go.RowKit
set_option linter.unusedVariables false
set_option linter.unusedSimpArgs false
set_option maxRecDepth 20000
theorem texts_of : ∀ (cs : List D), (∀ x ∈ cs, ∃ s : ByteArray, x = .str s ∧ s.size ≤ maxLen) → ∃ ls, cs = textsD ls ∧ ls.length = cs.length ∧ ∀ x ∈ ls, x.size ≤ maxLen
  | [], _ => ⟨[], rfl, rfl, by simp⟩
  | c :: cs, h => by
    obtain ⟨s, rfl, hs⟩ := h c (by simp)
    obtain ⟨ls, rfl, h1, h2⟩ := texts_of cs (fun x hx => h x (by simp [hx]))
    refine ⟨s :: ls, rfl, by simp [h1], fun x hx => ?_⟩
    rcases List.mem_cons.mp hx with rfl | hx
    · exact hs
    · exact h2 x hx
theorem wf_texts {f : Nat} {d : D} (h : wfK Try.prog (f + 1) (.list 9) d) : ∃ ls, d = .list 9 ls.length (textsD ls) ∧ ls.length ≤ maxLen ∧ ∀ x ∈ ls, x.size ≤ maxLen := by
  obtain ⟨n, cs, ks, e, h1, h2, h3, h4⟩ := h
  have hk : ks = [.str] := by
    have : ksOf Try.prog 9 = some [.str] := by kernel_rfl
    rw [this] at h2; injection h2 with h2; exact h2.symm
  subst hk
  obtain ⟨ls, e1, e2, e3⟩ := texts_of cs (fun x hx => by
    obtain ⟨j, hj, rfl⟩ := List.getElem_of_mem hx
    obtain ⟨k, hk1, hk2⟩ := h4 j cs[j] (List.getElem?_eq_getElem hj)
    have : k = .str := by
      have e : j % 1 = 0 := Nat.mod_one j
      simp [e] at hk1; exact hk1.symm
    subst this
    obtain ⟨s, hs, hl⟩ : ∃ s : ByteArray, cs[j] = .str s ∧ s.size ≤ maxLen := by cases f <;> exact hk2
    exact ⟨s, hs, hl⟩)
  have hn : n = ls.length := by rw [e2, h3]; simp
  exact ⟨ls, by rw [e, e1, hn], by omega, e3⟩
theorem wf_media {f : Nat} {a b c d e : D} (ha : wfK Try.prog (f + 1) .str a) (hb : wfK Try.prog (f + 1) (.int .i64) b) (hc : wfK Try.prog (f + 1) .bool c) (hd : wfK Try.prog (f + 1) .bool d) (he : wfK Try.prog (f + 1) (.list 9) e) : ∃ m : Med, [a, b, c, d, e] = medD m ∧ wfM m := by
  obtain ⟨k, rfl, hk⟩ := ha
  obtain ⟨p, rfl, hp⟩ := hb
  obtain ⟨s, rfl⟩ := hc
  obtain ⟨h, rfl⟩ := hd
  obtain ⟨ls, rfl, h1, h2⟩ := wf_texts he
  exact ⟨⟨k, p, s, h, ls⟩, rfl, hk, h1, h2⟩
def kM : List Kd := [.str, .int .i64, .bool, .bool, .list 9]
theorem offs_of {f : Nat} : ∀ (n : Nat) (cs : List D), cs.length = n * 5 → (∀ (j : Nat) (x : D), cs[j]? = some x → ∃ k, kM[j % 5]? = some k ∧ wfK Try.prog (f + 1) k x) → ∃ l, cs = offD l ∧ l.length = n ∧ ∀ m ∈ l, wfM m
  | 0, cs, h, _ => ⟨[], List.eq_nil_of_length_eq_zero (by omega), rfl, by simp⟩
  | n + 1, cs, h, hw => by
    match cs, h, hw with
    | a :: b :: c :: d :: e :: r, h, hw =>
      have get : ∀ (j : Nat) (k : Kd) (x : D), kM[j % 5]? = some k → (a :: b :: c :: d :: e :: r)[j]? = some x → wfK Try.prog (f + 1) k x := fun j k x hk hx => by
        obtain ⟨k', g1, g2⟩ := hw j x hx
        rw [hk] at g1; injection g1 with g1; subst g1; exact g2
      obtain ⟨m, e1, e2⟩ := wf_media (get 0 .str a rfl rfl) (get 1 (.int .i64) b rfl rfl) (get 2 .bool c rfl rfl) (get 3 .bool d rfl rfl) (get 4 (.list 9) e rfl rfl)
      obtain ⟨l, g1, g2, g3⟩ := offs_of n r (by simp only [List.length_cons] at h; omega) (fun j x hx => by
        obtain ⟨k, k1, k2⟩ := hw (j + 5) x (by simpa using hx)
        exact ⟨k, by rw [Nat.add_mod_right] at k1; exact k1, k2⟩)
      refine ⟨m :: l, ?_, by simp [g2], fun x hx => ?_⟩
      · show [a, b, c, d, e] ++ r = medD m ++ offD l
        rw [e1, g1]
      · rcases List.mem_cons.mp hx with rfl | hx
        · exact e2
        · exact g3 x hx
    | [], h, _ => simp at h
    | [_], h, _ => simp at h; omega
    | [_, _], h, _ => simp at h; omega
    | [_, _, _], h, _ => simp at h; omega
    | [_, _, _, _], h, _ => simp at h; omega
theorem wf_offer {f : Nat} {d : D} (h : wfK Try.prog (f + 2) (.list 30) d) : ∃ l, [d] = lawD l ∧ l.length ≤ maxLen ∧ ∀ m ∈ l, wfM m := by
  obtain ⟨n, cs, ks, e, h1, h2, h3, h4⟩ := h
  have hk : ks = kM := by
    have : ksOf Try.prog 30 = some kM := by kernel_rfl
    rw [this] at h2; injection h2 with h2; exact h2.symm
  subst hk
  obtain ⟨l, e1, e2, e3⟩ := offs_of (f := f) n cs h3 h4
  exact ⟨l, by rw [e, e1, ← e2]; rfl, by omega, e3⟩
theorem okC_texts {ls : List ByteArray} (h : ∀ x ∈ ls, x.size ≤ maxLen) : okC [.str] ls.length (textsD ls) := by
  refine ⟨by rw [textsD_len]; simp, fun j x hx => ⟨.str, by simp [Nat.mod_one], ?_⟩⟩
  have hj := (List.getElem?_eq_some_iff.mp hx).1
  rw [textsD_len] at hj
  rw [textsD_at (List.getElem?_eq_getElem hj)] at hx
  injection hx with hx
  exact ⟨_, hx.symm, h _ (List.getElem_mem hj)⟩
theorem sm_max {m : Med} (h : smM m) : wfM m := ⟨m20 h.1, m20' h.2.1, fun x hx => m20 (h.2.2 x hx)⟩
  where m20' {n : Nat} (h : n ≤ 1048576) : n ≤ maxLen := by unfold maxLen; omega
theorem ok_samet : FnOk Try.prog 26 s_samet := by
  refine fnOk (fn := Try.f26) (F := F_samet) (hs := hs_samet) tab_nil mixed rfl rfl rfl [.list 9, .list 9] (by kernel_rfl) (by simp) ?_
  rintro n cs n' cs' ⟨a, b, e, ha⟩
  simp only [List.cons.injEq, D.list.injEq, true_and, and_true] at e
  obtain ⟨⟨rfl, rfl⟩, rfl, rfl⟩ := e
  refine ⟨fun h ys => h = 0 ∧ ∃ i : Nat, ys = [.list 9 a.length (textsD a), .list 9 b.length (textsD b), .int .i64 i] ∧ a.length = b.length ∧ i ≤ a.length ∧ ∀ (j : Nat) (x y : ByteArray), j < i → a[j]? = some x → b[j]? = some y → x = y, fun h ys => a.length - (selI ys 2).toNat, ?_, ?_⟩
  · rw [t_samet]
    simp only [Tree.holds, ltI_t, ltI_f, leI_t, leI_f, all_cons, all_nil, and_true, true_and, forall_eq, decide_eq_true_eq, decide_eq_false_iff_not, beq_iff_eq, beq_eq_false_iff_ne, bne_iff_ne, bne_eq_false_iff_eq, ne_eq, Decidable.not_not, selI_z, selB_z, selS_z, selN_z, selL_z, selI_s, selB_s, selS_s, selN_s, selL_s, Int.toNat_natCast, Nat.mul_one, Nat.zero_add, Nat.div_one, List.drop_zero, Nat.zero_mul, Nat.le_refl, Bool.not_eq_true', Bool.not_eq_false', Bool.false_eq_true, Bool.true_eq_false, not_true_eq_false, not_false_eq_true, false_imp_iff, true_imp_iff, if_true, if_false, sig, sigF, sigW, sigR, sigO, unS_texts]
    refine ⟨fun h => ret_bool' ?_, fun h => ⟨0, rfl, by omega, by omega, fun j x y h => by omega⟩⟩
    unfold sameB
    rw [eq_comm, decide_eq_false_iff_not]
    intro e; rw [e] at h; exact h rfl
  · rintro h ys ⟨rfl, i, rfl, hl, hi, hv⟩
    rw [t_samet0]
    simp only [Tree.holds, ltI_t, ltI_f, leI_t, leI_f, all_cons, all_nil, and_true, true_and, forall_eq, decide_eq_true_eq, decide_eq_false_iff_not, beq_iff_eq, beq_eq_false_iff_ne, bne_iff_ne, bne_eq_false_iff_eq, ne_eq, Decidable.not_not, selI_z, selB_z, selS_z, selN_z, selL_z, selI_s, selB_s, selS_s, selN_s, selL_s, Int.toNat_natCast, Nat.mul_one, Nat.zero_add, Nat.div_one, List.drop_zero, Nat.zero_mul, Nat.le_refl, Bool.not_eq_true', Bool.not_eq_false', Bool.false_eq_true, Bool.true_eq_false, not_true_eq_false, not_false_eq_true, false_imp_iff, true_imp_iff, if_true, if_false, sig, sigF, sigW, sigR, sigO, sel_kstr, unS_texts, ByteArray.toList_eq]
    refine ⟨fun hj => ?_, fun hj => ret_bool' ?_⟩
    · obtain ⟨x, x1, x2, x3⟩ := textsD_get (ls := a) (i := i) (by omega)
      obtain ⟨y, y1, y2, y3⟩ := textsD_get (ls := b) (i := i) (by omega)
      rw [selS_of x2, selS_of y2]
      refine ⟨⟨by omega, by omega⟩, x2, ⟨by omega, by omega⟩, y2, fun e => ret_bool' ?_, fun e => ⟨by unfold inK; omega, ⟨i + 1, rfl, hl, by omega, fun j u v ju hu hv' => ?_⟩, by omega⟩⟩
      · unfold sameB
        rw [eq_comm, decide_eq_false_iff_not]
        intro h; subst h
        rw [x1] at y1; injection y1 with y1; subst y1; exact e rfl
      · by_cases hji : j = i
        · rw [hji, x1] at hu; rw [hji, y1] at hv'
          injection hu with hu; injection hv' with hv'
          rw [← hu, ← hv']; exact text_eq e
        · exact hv j u v (by omega) hu hv'
    · unfold sameB
      rw [eq_comm, decide_eq_true_eq]
      apply List.ext_getElem hl
      intro j h1 h2
      exact hv j _ _ (by omega) (List.getElem?_eq_getElem h1) (List.getElem?_eq_getElem h2)
theorem sameB_rfl (a : List ByteArray) : sameB a a = true := decide_eq_true rfl
theorem med_two {xs : List D} {m m' : Med} (h : medD m ++ medD m' = xs) : xs = medD m ++ medD m' := h.symm
theorem ok_samem : FnOk Try.prog 50 s_samem := by
  refine fnOk (fn := Try.f50) (F := F_samem) (hs := hs_samem) (tab_cons ok_samet tab_nil) mixed rfl rfl rfl [.str, .int .i64, .bool, .bool, .list 9, .str, .int .i64, .bool, .bool, .list 9] (by kernel_rfl) (by simp) ?_
  rintro a0 a1 a2 a3 a4n a4 a5 a6 a7 a8 a9n a9 ⟨m, e, hm⟩
  simp only [medD, List.cons_append, List.nil_append, List.cons.injEq, D.str.injEq, D.int.injEq, D.bool.injEq, D.list.injEq, true_and, and_true] at e
  obtain ⟨rfl, rfl, rfl, rfl, ⟨rfl, rfl⟩, rfl, rfl, rfl, rfl, rfl, rfl⟩ := e
  refine ⟨fun _ _ => False, fun _ _ => 0, ?_, fun _ _ h => h.elim⟩
  rw [t_samem]
  simp only [F_samem_samet, s_samet, Tree.holds, ltI_t, ltI_f, leI_t, leI_f, all_cons, all_nil, and_true, true_and, forall_eq, decide_eq_true_eq, decide_eq_false_iff_not, beq_iff_eq, beq_eq_false_iff_ne, bne_iff_ne, bne_eq_false_iff_eq, ne_eq, Decidable.not_not, selI_z, selB_z, selS_z, selN_z, selL_z, selI_s, selB_s, selS_s, selN_s, selL_s, Int.toNat_natCast, Nat.mul_one, Nat.zero_add, Nat.div_one, List.drop_zero, Nat.zero_mul, Nat.le_refl, Bool.not_eq_true', Bool.not_eq_false', Bool.false_eq_true, Bool.true_eq_false, not_true_eq_false, not_false_eq_true, false_imp_iff, true_imp_iff, if_true, if_false, sig, sigF, sigW, sigR, sigO, unS_texts, sameB_rfl]
  exact ⟨m.c, m.c, rfl, hm⟩
theorem ok_sameo : FnOk Try.prog 29 s_sameo := by
  refine fnOk (fn := Try.f29) (F := F_sameo) (hs := hs_sameo) (tab_cons ok_samem tab_nil) mixed rfl rfl rfl [.list 25, .list 25] (by kernel_rfl) (by simp) ?_
  rintro n cs n' cs' ⟨l, e, hl, hm⟩
  simp only [impD, List.cons_append, List.nil_append, List.cons.injEq, D.list.injEq, true_and, and_true] at e
  obtain ⟨⟨rfl, rfl⟩, rfl, rfl⟩ := e
  refine ⟨fun h ys => h = 0 ∧ ∃ i : Nat, ys = [.list 25 l.length (offD l), .list 25 l.length (offD l), .int .i64 i] ∧ i ≤ l.length, fun h ys => l.length - (selI ys 2).toNat, ?_, ?_⟩
  · rw [t_sameo]
    simp only [F_sameo_samem, s_samem, Tree.holds, ltI_t, ltI_f, leI_t, leI_f, all_cons, all_nil, and_true, true_and, forall_eq, decide_eq_true_eq, decide_eq_false_iff_not, beq_iff_eq, beq_eq_false_iff_ne, bne_iff_ne, bne_eq_false_iff_eq, ne_eq, Decidable.not_not, selI_z, selB_z, selS_z, selN_z, selL_z, selI_s, selB_s, selS_s, selN_s, selL_s, Int.toNat_natCast, Nat.mul_one, Nat.zero_add, Nat.div_one, List.drop_zero, Nat.zero_mul, Nat.le_refl, Bool.not_eq_true', Bool.not_eq_false', Bool.false_eq_true, Bool.true_eq_false, not_true_eq_false, not_false_eq_true, false_imp_iff, true_imp_iff, if_true, if_false, sig, sigF, sigW, sigR, sigO]
    exact ⟨0, rfl, by omega⟩
  · rintro h ys ⟨rfl, i, rfl, hi⟩
    rw [t_sameo0]
    simp only [F_sameo_samem, s_samem, Tree.holds, ltI_t, ltI_f, leI_t, leI_f, all_cons, all_nil, and_true, true_and, forall_eq, decide_eq_true_eq, decide_eq_false_iff_not, beq_iff_eq, beq_eq_false_iff_ne, bne_iff_ne, bne_eq_false_iff_eq, ne_eq, Decidable.not_not, selI_z, selB_z, selS_z, selN_z, selL_z, selI_s, selB_s, selS_s, selN_s, selL_s, Int.toNat_natCast, Nat.mul_one, Nat.zero_add, Nat.div_one, List.drop_zero, Nat.zero_mul, Nat.le_refl, Bool.not_eq_true', Bool.not_eq_false', Bool.false_eq_true, Bool.true_eq_false, not_true_eq_false, not_false_eq_true, false_imp_iff, true_imp_iff, if_true, if_false, sig, sigF, sigW, sigR, sigO, sel_kstr, sel_kint, sel_kbool]
    refine ⟨fun hj => ?_, fun hj => trivial⟩
    obtain ⟨m, m1, m2⟩ := off_get (l := l) (i := i) (by omega)
    obtain ⟨c0, c1, c2, c3, c4⟩ := off_at m1
    rw [selS_of c0, selI_of c1, selB_of c2, selB_of c3, selN_of c4, selL_of c4]
    exact ⟨⟨by omega, by omega⟩, ⟨c0, c1, c2, c3, .inl c4⟩, ⟨by omega, by omega⟩, ⟨c0, c1, c2, c3, .inl c4⟩, ⟨m, rfl, hm m m2⟩, by unfold inK; omega, ⟨i + 1, rfl, by omega⟩, by omega⟩
theorem ok_szmed : FnOk Try.prog 15 s_szmed := by
  refine fnOk (fn := Try.f15) (F := F_szmed) (hs := hs_szmed) (tab_cons ok_szstr tab_nil) mixed rfl rfl rfl [.str, .int .i64, .bool, .bool, .list 9, .int .i64] (by kernel_rfl) (by simp) ?_
  rintro k p s h n cs a ⟨m, a', e, hm, h1, h2⟩
  simp only [medD, List.cons_append, List.nil_append, List.cons.injEq, D.str.injEq, D.int.injEq, D.bool.injEq, D.list.injEq, true_and, and_true] at e
  obtain ⟨rfl, rfl, rfl, rfl, ⟨rfl, rfl⟩, rfl⟩ := e
  refine ⟨fun _ _ => False, fun _ _ => 0, ?_, fun _ _ h => h.elim⟩
  rw [t_szmed]
  simp only [F_szmed_szstr, s_szstr, Tree.holds, ltI_t, ltI_f, leI_t, leI_f, all_cons, all_nil, and_true, true_and, forall_eq, decide_eq_true_eq, decide_eq_false_iff_not, beq_iff_eq, beq_eq_false_iff_ne, bne_iff_ne, bne_eq_false_iff_eq, ne_eq, Decidable.not_not, selI_z, selB_z, selS_z, selN_z, selL_z, selI_s, selB_s, selS_s, selN_s, selL_s, Int.toNat_natCast, Nat.mul_one, Nat.zero_add, Nat.div_one, List.drop_zero, Nat.zero_mul, Nat.le_refl, Bool.not_eq_true', Bool.not_eq_false', Bool.false_eq_true, Bool.true_eq_false, not_true_eq_false, not_false_eq_true, false_imp_iff, true_imp_iff, if_true, if_false, sig, sigF, sigW, sigR, sigO]
  obtain ⟨g1, g2, g3⟩ := hm
  have g1' := g1
  unfold maxLen at g1'
  have hu : unM [D.str m.k, .int .i64 m.p, .bool m.s, .bool m.h, .list 9 m.c.length (textsD m.c), .int .i64 a] = m := unM_med m
  refine ⟨by unfold inK; omega, fun e => ⟨-1, rfl, by omega, by omega, fun h => by omega⟩, fun e => ⟨⟨okC_texts g3, g2, by omega, by omega⟩, ?_⟩⟩
  rintro ys ⟨r, rfl, r0, r1, r2⟩
  simp only [F_szmed_szstr, s_szstr, Tree.holds, ltI_t, ltI_f, leI_t, leI_f, all_cons, all_nil, and_true, true_and, forall_eq, decide_eq_true_eq, decide_eq_false_iff_not, beq_iff_eq, beq_eq_false_iff_ne, bne_iff_ne, bne_eq_false_iff_eq, ne_eq, Decidable.not_not, selI_z, selB_z, selS_z, selN_z, selL_z, selI_s, selB_s, selS_s, selN_s, selL_s, Int.toNat_natCast, Nat.mul_one, Nat.zero_add, Nat.div_one, List.drop_zero, Nat.zero_mul, Nat.le_refl, Bool.not_eq_true', Bool.not_eq_false', Bool.false_eq_true, Bool.true_eq_false, not_true_eq_false, not_false_eq_true, false_imp_iff, true_imp_iff, if_true, if_false, sig, sigF, sigW, sigR, sigO, hu]
  refine ⟨fun e => ⟨-1, rfl, by omega, by omega, fun h => by omega⟩, fun e => ⟨r, rfl, by omega, by omega, fun h ha => ?_⟩⟩
  obtain ⟨q1, q2⟩ := r2 h
  refine ⟨by omega, by omega, fun x hx => ?_⟩
  obtain ⟨j, hj, rfl⟩ := List.getElem_of_mem hx
  have := q2 j _ (textsD_at (List.getElem?_eq_getElem hj))
  omega
theorem ok_szoff : FnOk Try.prog 21 s_szoff := by
  refine fnOk (fn := Try.f21) (F := F_szoff) (hs := hs_szoff) (tab_cons ok_szmed tab_nil) mixed rfl rfl rfl [.list 30, .int .i64] (by kernel_rfl) (by simp) ?_
  rintro n cs a ⟨l, a', e, hl, hm, h1, h2⟩
  simp only [lawD, List.cons_append, List.nil_append, List.cons.injEq, D.int.injEq, D.list.injEq, true_and, and_true] at e
  obtain ⟨⟨rfl, rfl⟩, rfl⟩ := e
  refine ⟨fun h ys => h = 0 ∧ ∃ (i : Nat) (r : Int), ys = [.list 30 l.length (offD l), .int .i64 r, .int .i64 i] ∧ i ≤ l.length ∧ 0 ≤ r ∧ r ≤ a ∧ (l.length : Int) ≤ a ∧ (a ≤ 1048576 → ∀ (j : Nat) (m : Med), j < i → l[j]? = some m → smM m), fun h ys => l.length - (selI ys 2).toNat, ?_, ?_⟩
  · rw [t_szoff]
    simp only [F_szoff_szmed, s_szmed, Tree.holds, ltI_t, ltI_f, leI_t, leI_f, all_cons, all_nil, and_true, true_and, forall_eq, decide_eq_true_eq, decide_eq_false_iff_not, beq_iff_eq, beq_eq_false_iff_ne, bne_iff_ne, bne_eq_false_iff_eq, ne_eq, Decidable.not_not, selI_z, selB_z, selS_z, selN_z, selL_z, selI_s, selB_s, selS_s, selN_s, selL_s, Int.toNat_natCast, Nat.mul_one, Nat.zero_add, Nat.div_one, List.drop_zero, Nat.zero_mul, Nat.le_refl, Bool.not_eq_true', Bool.not_eq_false', Bool.false_eq_true, Bool.true_eq_false, not_true_eq_false, not_false_eq_true, false_imp_iff, true_imp_iff, if_true, if_false, sig, sigF, sigW, sigR, sigO, unO_off]
    have hl' := hl
    unfold maxLen at hl'
    exact ⟨by unfold inK; omega, fun h => ⟨-1, rfl, by omega, by omega, fun h => by omega⟩, fun h => ⟨0, _, rfl, by omega, by omega, by omega, by omega, fun _ j m hj => by omega⟩⟩
  · rintro h ys ⟨rfl, i, r, rfl, hi, r0, r1, r2, r3⟩
    rw [t_szoff0]
    simp only [F_szoff_szmed, s_szmed, Tree.holds, ltI_t, ltI_f, leI_t, leI_f, all_cons, all_nil, and_true, true_and, forall_eq, decide_eq_true_eq, decide_eq_false_iff_not, beq_iff_eq, beq_eq_false_iff_ne, bne_iff_ne, bne_eq_false_iff_eq, ne_eq, Decidable.not_not, selI_z, selB_z, selS_z, selN_z, selL_z, selI_s, selB_s, selS_s, selN_s, selL_s, Int.toNat_natCast, Nat.mul_one, Nat.zero_add, Nat.div_one, List.drop_zero, Nat.zero_mul, Nat.le_refl, Bool.not_eq_true', Bool.not_eq_false', Bool.false_eq_true, Bool.true_eq_false, not_true_eq_false, not_false_eq_true, false_imp_iff, true_imp_iff, if_true, if_false, sig, sigF, sigW, sigR, sigO, sel_kstr, sel_kint, sel_kbool, unO_off]
    refine ⟨fun hj => ?_, fun hj => ⟨r, rfl, by omega, by omega, fun _ ha => ⟨by omega, fun m hx => ?_⟩⟩⟩
    · obtain ⟨m, m1, m2⟩ := off_get (l := l) (i := i) (by omega)
      obtain ⟨c0, c1, c2, c3, c4⟩ := off_at m1
      rw [selS_of c0, selI_of c1, selB_of c2, selB_of c3, selN_of c4, selL_of c4]
      refine ⟨⟨by omega, by omega⟩, ⟨c0, c1, c2, c3, .inl c4⟩, ⟨m, r, rfl, hm m m2, by omega, by omega⟩, ?_⟩
      rintro ys ⟨q, rfl, q0, q1, q2⟩
      simp only [F_szoff_szmed, s_szmed, Tree.holds, ltI_t, ltI_f, leI_t, leI_f, all_cons, all_nil, and_true, true_and, forall_eq, decide_eq_true_eq, decide_eq_false_iff_not, beq_iff_eq, beq_eq_false_iff_ne, bne_iff_ne, bne_eq_false_iff_eq, ne_eq, Decidable.not_not, selI_z, selB_z, selS_z, selN_z, selL_z, selI_s, selB_s, selS_s, selN_s, selL_s, Int.toNat_natCast, Nat.mul_one, Nat.zero_add, Nat.div_one, List.drop_zero, Nat.zero_mul, Nat.le_refl, Bool.not_eq_true', Bool.not_eq_false', Bool.false_eq_true, Bool.true_eq_false, not_true_eq_false, not_false_eq_true, false_imp_iff, true_imp_iff, if_true, if_false, sig, sigF, sigW, sigR, sigO]
      refine ⟨fun e => ⟨-1, rfl, by omega, by omega, fun h => by omega⟩, fun e => ⟨by unfold inK; unfold maxLen at hl; omega, ⟨i + 1, q, rfl, by omega, by omega, by omega, r2, fun ha j m' hj hm' => ?_⟩, by omega⟩⟩
      by_cases hji : j = i
      · rw [hji, m1] at hm'; injection hm' with hm'
        rw [← hm']
        have := q2 (by omega) (by omega)
        have hu : unM [D.str m.k, .int .i64 m.p, .bool m.s, .bool m.h, .list 9 m.c.length (textsD m.c), .int .i64 r] = m := unM_med m
        rw [hu] at this
        exact this
      · exact r3 ha j m' (by omega) hm'
    · obtain ⟨a', ha', rfl⟩ := List.getElem_of_mem hx
      exact r3 ha a' _ (by omega) (List.getElem?_eq_getElem ha')
theorem ok_tomed : FnOk Try.prog 16 s_tomed := by
  refine fnOk (fn := Try.f16) (F := F_tomed) (hs := hs_tomed) (tab_cons ok_tostr tab_nil) mixed rfl rfl rfl [.str, .int .i64, .bool, .bool, .list 9] (by kernel_rfl) (by simp) ?_
  rintro k p s h n cs ⟨m, e, hm⟩
  obtain ⟨rfl, rfl, rfl, rfl, rfl, rfl⟩ := med_open e
  obtain ⟨g1, g2, g3⟩ := sm_max hm
  have g4 := hm.2.1
  refine ⟨fun _ _ => False, fun _ _ => 0, ?_, fun _ _ h => h.elim⟩
  rw [t_tomed]
  have hu : unM [D.str m.k, .int .i64 m.p, .bool m.s, .bool m.h, .list 9 m.c.length (textsD m.c)] = m := unM_med m
  simp only [F_tomed_tostr, s_tostr, Tree.holds, ltI_t, ltI_f, leI_t, leI_f, all_cons, all_nil, and_true, true_and, forall_eq, decide_eq_true_eq, decide_eq_false_iff_not, beq_iff_eq, beq_eq_false_iff_ne, bne_iff_ne, bne_eq_false_iff_eq, ne_eq, Decidable.not_not, selI_z, selB_z, selS_z, selN_z, selL_z, selI_s, selB_s, selS_s, selN_s, selL_s, Int.toNat_natCast, Nat.mul_one, Nat.zero_add, Nat.div_one, List.drop_zero, Nat.zero_mul, Nat.le_refl, Bool.not_eq_true', Bool.not_eq_false', Bool.false_eq_true, Bool.true_eq_false, not_true_eq_false, not_false_eq_true, false_imp_iff, true_imp_iff, if_true, if_false, sig, sigF, sigW, sigR, sigO, hu]
  refine ⟨⟨okC_texts g3, by omega⟩, by rw [textsD_len]; omega, ?_⟩
  rw [textsD_take]
  rfl
theorem unM_lit (m : Med) : unM [D.str m.k, .int .i64 m.p, .bool m.s, .bool m.h, .list 9 m.c.length (textsD m.c)] = m := unM_med m
theorem ok_tooff : FnOk Try.prog 22 s_tooff := by
  refine fnOk (fn := Try.f22) (F := F_tooff) (hs := hs_tooff) (tab_cons ok_tomed tab_nil) mixed rfl rfl rfl [.list 30] (by kernel_rfl) (by simp) ?_
  rintro n cs ⟨l, e, hl, hm⟩
  simp only [lawD, List.cons.injEq, D.list.injEq, true_and, and_true] at e
  obtain ⟨rfl, rfl⟩ := e
  refine ⟨fun h ys => h = 0 ∧ ∃ i : Nat, ys = [.list 30 l.length (offD l), .int .i64 (0 : Nat), .int .i64 l.length, .int .i64 i, .list 25 0 (medsK l.length (l.take i))] ∧ i ≤ l.length, fun h ys => l.length - (selI ys 3).toNat, ?_, ?_⟩
  · rw [t_tooff]
    simp only [F_tooff_tomed, s_tomed, Tree.holds, ltI_t, ltI_f, leI_t, leI_f, all_cons, all_nil, and_true, true_and, forall_eq, decide_eq_true_eq, decide_eq_false_iff_not, beq_iff_eq, beq_eq_false_iff_ne, bne_iff_ne, bne_eq_false_iff_eq, ne_eq, Decidable.not_not, selI_z, selB_z, selS_z, selN_z, selL_z, selI_s, selB_s, selS_s, selN_s, selL_s, Int.toNat_natCast, Nat.mul_one, Nat.zero_add, Nat.div_one, List.drop_zero, Nat.zero_mul, Nat.le_refl, Bool.not_eq_true', Bool.not_eq_false', Bool.false_eq_true, Bool.true_eq_false, not_true_eq_false, not_false_eq_true, false_imp_iff, true_imp_iff, if_true, if_false, sig, sigF, sigW, sigR, sigO, unO_off]
    exact ⟨⟨by omega, by omega, by omega⟩, 0, rfl, by omega⟩
  · rintro h ys ⟨rfl, i, rfl, hi⟩
    rw [t_tooff0]
    simp only [F_tooff_tomed, s_tomed, Tree.holds, ltI_t, ltI_f, leI_t, leI_f, all_cons, all_nil, and_true, true_and, forall_eq, decide_eq_true_eq, decide_eq_false_iff_not, beq_iff_eq, beq_eq_false_iff_ne, bne_iff_ne, bne_eq_false_iff_eq, ne_eq, Decidable.not_not, selI_z, selB_z, selS_z, selN_z, selL_z, selI_s, selB_s, selS_s, selN_s, selL_s, Int.toNat_natCast, Nat.mul_one, Nat.zero_add, Nat.div_one, List.drop_zero, Nat.zero_mul, Nat.le_refl, Bool.not_eq_true', Bool.not_eq_false', Bool.false_eq_true, Bool.true_eq_false, not_true_eq_false, not_false_eq_true, false_imp_iff, true_imp_iff, if_true, if_false, sig, sigF, sigW, sigR, sigO, sel_kstr, sel_kint, sel_kbool, unO_off]
    refine ⟨fun hj => ?_, fun hj => ?_⟩
    · obtain ⟨m, m1, m2⟩ := off_get (l := l) (i := i) (by omega)
      obtain ⟨c0, c1, c2, c3, c4⟩ := off_at m1
      have htk : (l.take i).length = i := by rw [List.length_take]; omega
      rw [selS_of c0, selI_of c1, selB_of c2, selB_of c3, selN_of c4, selL_of c4, unM_lit]
      refine ⟨⟨by omega, by omega⟩, ⟨c0, c1, c2, c3, .inl c4⟩, ⟨m, rfl, hm m m2⟩, ⟨by omega, by omega⟩, by rw [medsK_len (by omega)]; omega, by unfold inK; omega, ⟨i + 1, ?_, by omega⟩, by omega⟩
      have := medsK_step (n := l.length) (l := l.take i) m (by omega)
      rw [htk] at this
      rw [List.take_add_one, m1]
      show _ = [_, _, _, _, D.list 25 0 (medsK l.length (l.take i ++ [m]))]
      rw [← this]
      rfl
    · obtain rfl : i = l.length := by omega
      rw [List.take_of_length_le (Nat.le_refl _), medsK_all, offD_take]
      exact ⟨by rw [offD_len]; omega, rfl⟩
theorem ok_eqmed : FnOk Try.prog 17 s_eqmed := by
  refine fnOk (fn := Try.f17) (F := F_eqmed) (hs := hs_eqmed) (tab_cons ok_eqstr tab_nil) mixed rfl rfl rfl [.str, .int .i64, .bool, .bool, .list 9, .str, .int .i64, .bool, .bool, .list 9] (by kernel_rfl) (by simp) ?_
  rintro a0 a1 a2 a3 a4n a4 a5 a6 a7 a8 a9n a9 ⟨m, e, hm⟩
  simp only [medD, List.cons_append, List.nil_append, List.cons.injEq, D.str.injEq, D.int.injEq, D.bool.injEq, D.list.injEq, true_and, and_true] at e
  obtain ⟨rfl, rfl, rfl, rfl, ⟨rfl, rfl⟩, rfl, rfl, rfl, rfl, rfl, rfl⟩ := e
  obtain ⟨g1, g2, g3⟩ := sm_max hm
  refine ⟨fun _ _ => False, fun _ _ => 0, ?_, fun _ _ h => h.elim⟩
  rw [t_eqmed]
  simp only [F_eqmed_eqstr, s_eqstr, Tree.holds, ltI_t, ltI_f, leI_t, leI_f, all_cons, all_nil, and_true, true_and, forall_eq, decide_eq_true_eq, decide_eq_false_iff_not, beq_iff_eq, beq_eq_false_iff_ne, bne_iff_ne, bne_eq_false_iff_eq, ne_eq, Decidable.not_not, selI_z, selB_z, selS_z, selN_z, selL_z, selI_s, selB_s, selS_s, selN_s, selL_s, Int.toNat_natCast, Nat.mul_one, Nat.zero_add, Nat.div_one, List.drop_zero, Nat.zero_mul, Nat.le_refl, Bool.not_eq_true', Bool.not_eq_false', Bool.false_eq_true, Bool.true_eq_false, not_true_eq_false, not_false_eq_true, false_imp_iff, true_imp_iff, if_true, if_false, sig, sigF, sigW, sigR, sigO]
  exact ⟨okC_texts g3, g2⟩
theorem ok_eqoff : FnOk Try.prog 23 s_eqoff := by
  refine fnOk (fn := Try.f23) (F := F_eqoff) (hs := hs_eqoff) (tab_cons ok_eqmed tab_nil) mixed rfl rfl rfl [.list 25, .list 25] (by kernel_rfl) (by simp) ?_
  rintro n cs n' cs' ⟨l, e, hl, hm⟩
  simp only [impD, List.cons_append, List.nil_append, List.cons.injEq, D.list.injEq, true_and, and_true] at e
  obtain ⟨⟨rfl, rfl⟩, rfl, rfl⟩ := e
  refine ⟨fun h ys => h = 0 ∧ ∃ i : Nat, ys = [.list 25 l.length (offD l), .list 25 l.length (offD l), .int .i64 i] ∧ i ≤ l.length, fun h ys => l.length - (selI ys 2).toNat, ?_, ?_⟩
  · rw [t_eqoff]
    simp only [F_eqoff_eqmed, s_eqmed, Tree.holds, ltI_t, ltI_f, leI_t, leI_f, all_cons, all_nil, and_true, true_and, forall_eq, decide_eq_true_eq, decide_eq_false_iff_not, beq_iff_eq, beq_eq_false_iff_ne, bne_iff_ne, bne_eq_false_iff_eq, ne_eq, Decidable.not_not, selI_z, selB_z, selS_z, selN_z, selL_z, selI_s, selB_s, selS_s, selN_s, selL_s, Int.toNat_natCast, Nat.mul_one, Nat.zero_add, Nat.div_one, List.drop_zero, Nat.zero_mul, Nat.le_refl, Bool.not_eq_true', Bool.not_eq_false', Bool.false_eq_true, Bool.true_eq_false, not_true_eq_false, not_false_eq_true, false_imp_iff, true_imp_iff, if_true, if_false, sig, sigF, sigW, sigR, sigO]
    exact ⟨0, rfl, by omega⟩
  · rintro h ys ⟨rfl, i, rfl, hi⟩
    rw [t_eqoff0]
    simp only [F_eqoff_eqmed, s_eqmed, Tree.holds, ltI_t, ltI_f, leI_t, leI_f, all_cons, all_nil, and_true, true_and, forall_eq, decide_eq_true_eq, decide_eq_false_iff_not, beq_iff_eq, beq_eq_false_iff_ne, bne_iff_ne, bne_eq_false_iff_eq, ne_eq, Decidable.not_not, selI_z, selB_z, selS_z, selN_z, selL_z, selI_s, selB_s, selS_s, selN_s, selL_s, Int.toNat_natCast, Nat.mul_one, Nat.zero_add, Nat.div_one, List.drop_zero, Nat.zero_mul, Nat.le_refl, Bool.not_eq_true', Bool.not_eq_false', Bool.false_eq_true, Bool.true_eq_false, not_true_eq_false, not_false_eq_true, false_imp_iff, true_imp_iff, if_true, if_false, sig, sigF, sigW, sigR, sigO, sel_kstr, sel_kint, sel_kbool]
    refine ⟨fun hj => ?_, fun hj => trivial⟩
    obtain ⟨m, m1, m2⟩ := off_get (l := l) (i := i) (by omega)
    obtain ⟨c0, c1, c2, c3, c4⟩ := off_at m1
    rw [selS_of c0, selI_of c1, selB_of c2, selB_of c3, selN_of c4, selL_of c4]
    exact ⟨⟨by omega, by omega⟩, ⟨c0, c1, c2, c3, .inl c4⟩, ⟨by omega, by omega⟩, ⟨c0, c1, c2, c3, .inl c4⟩, ⟨m, rfl, hm m m2⟩, by unfold inK; omega, ⟨i + 1, rfl, by omega⟩, by omega⟩
theorem ok_emv : FnOk Try.prog 4 s_emv := by
  refine fnOk (fn := Try.f4) (F := F_emv) (hs := hs_emv) (tab_cons ok_szmed (tab_cons ok_tomed (tab_cons ok_imed (tab_cons ok_smed (tab_cons ok_eqmed tab_nil))))) mixed rfl rfl rfl [.str, .int .i64, .bool, .bool, .list 9] (by kernel_rfl) (by simp) ?_
  intro a0 a1 a2 a3 a4n a4 hw
  obtain ⟨w0, w1, w2, w3, w4, -⟩ := hw
  obtain ⟨m, e, hm⟩ := wf_media w0 w1 w2 w3 w4
  obtain ⟨rfl, rfl, rfl, rfl, rfl, rfl⟩ := med_open e
  refine ⟨fun h ys => False, fun h ys => 0, ?_, fun _ _ h => h.elim⟩
  rw [t_emv]
  simp only [F_emv_szmed, F_emv_tomed, F_emv_imed, F_emv_smed, F_emv_eqmed, s_szmed, s_tomed, s_imed, s_smed, s_eqmed, Tree.holds, ltI_t, ltI_f, leI_t, leI_f, all_cons, all_nil, and_true, true_and, forall_eq, decide_eq_true_eq, decide_eq_false_iff_not, beq_iff_eq, beq_eq_false_iff_ne, bne_iff_ne, bne_eq_false_iff_eq, ne_eq, Decidable.not_not, selI_z, selB_z, selS_z, selN_z, selL_z, selI_s, selB_s, selS_s, selN_s, selL_s, Int.toNat_natCast, Nat.mul_one, Nat.zero_add, Nat.div_one, List.drop_zero, Nat.zero_mul, Nat.le_refl, Bool.not_eq_true', Bool.not_eq_false', Bool.false_eq_true, Bool.true_eq_false, not_true_eq_false, not_false_eq_true, false_imp_iff, true_imp_iff, if_true, if_false, sig, sigF, sigW, sigR, sigO]
  refine ⟨⟨m, 1048576, rfl, hm, by omega, by omega⟩, ?_⟩
  rintro ys ⟨r, rfl, r0, r1, r2⟩
  simp only [F_emv_szmed, F_emv_tomed, F_emv_imed, F_emv_smed, F_emv_eqmed, s_szmed, s_tomed, s_imed, s_smed, s_eqmed, Tree.holds, ltI_t, ltI_f, leI_t, leI_f, all_cons, all_nil, and_true, true_and, forall_eq, decide_eq_true_eq, decide_eq_false_iff_not, beq_iff_eq, beq_eq_false_iff_ne, bne_iff_ne, bne_eq_false_iff_eq, ne_eq, Decidable.not_not, selI_z, selB_z, selS_z, selN_z, selL_z, selI_s, selB_s, selS_s, selN_s, selL_s, Int.toNat_natCast, Nat.mul_one, Nat.zero_add, Nat.div_one, List.drop_zero, Nat.zero_mul, Nat.le_refl, Bool.not_eq_true', Bool.not_eq_false', Bool.false_eq_true, Bool.true_eq_false, not_true_eq_false, not_false_eq_true, false_imp_iff, true_imp_iff, if_true, if_false, sig, sigF, sigW, sigR, sigO, unM_lit]
  refine ⟨fun _ => trivial, fun h => ?_⟩
  have hs := r2 (by omega) (by omega)
  rw [show unM [D.str m.k, .int .i64 m.p, .bool m.s, .bool m.h, .list 9 m.c.length (textsD m.c), .int .i64 1048576] = m from unM_med m] at hs
  have e1 : [D.str (selS (medD m) 0), .int .i64 (selI (medD m) 1), .bool (selB (medD m) 2), .bool (selB (medD m) 3), .list 9 (selN (medD m) 4) (selL (medD m) 4)] = medD m := rfl
  simp only [e1, unM_med, F_emv_szmed, F_emv_tomed, F_emv_imed, F_emv_smed, F_emv_eqmed, s_szmed, s_tomed, s_imed, s_smed, s_eqmed, Tree.holds, ltI_t, ltI_f, leI_t, leI_f, all_cons, all_nil, and_true, true_and, forall_eq, decide_eq_true_eq, decide_eq_false_iff_not, beq_iff_eq, beq_eq_false_iff_ne, bne_iff_ne, bne_eq_false_iff_eq, ne_eq, Decidable.not_not, selI_z, selB_z, selS_z, selN_z, selL_z, selI_s, selB_s, selS_s, selN_s, selL_s, Int.toNat_natCast, Nat.mul_one, Nat.zero_add, Nat.div_one, List.drop_zero, Nat.zero_mul, Nat.le_refl, Bool.not_eq_true', Bool.not_eq_false', Bool.false_eq_true, Bool.true_eq_false, not_true_eq_false, not_false_eq_true, false_imp_iff, true_imp_iff, if_true, if_false, sig, sigF, sigW, sigR, sigO]
  exact ⟨⟨m, rfl, hs⟩, ⟨m, rfl, hs⟩, ⟨m, rfl, hs⟩, ⟨m, rfl, hs⟩, ⟨m, rfl, hs⟩, m, rfl, hs⟩
theorem ok_eov : FnOk Try.prog 6 s_eov := by
  refine fnOk (fn := Try.f6) (F := F_eov) (hs := hs_eov) (tab_cons ok_szoff (tab_cons ok_tooff (tab_cons ok_ioff (tab_cons ok_soff (tab_cons ok_eqoff tab_nil))))) mixed rfl rfl rfl [.list 30] (by kernel_rfl) (by simp) ?_
  intro n cs hw
  obtain ⟨w0, -⟩ := hw
  obtain ⟨l, e, hl, hm⟩ := wf_offer w0
  simp only [lawD, List.cons.injEq, D.list.injEq, true_and, and_true] at e
  obtain ⟨rfl, rfl⟩ := e
  refine ⟨fun h ys => False, fun h ys => 0, ?_, fun _ _ h => h.elim⟩
  rw [t_eov]
  simp only [F_eov_szoff, F_eov_tooff, F_eov_ioff, F_eov_soff, F_eov_eqoff, s_szoff, s_tooff, s_ioff, s_soff, s_eqoff, Tree.holds, ltI_t, ltI_f, leI_t, leI_f, all_cons, all_nil, and_true, true_and, forall_eq, decide_eq_true_eq, decide_eq_false_iff_not, beq_iff_eq, beq_eq_false_iff_ne, bne_iff_ne, bne_eq_false_iff_eq, ne_eq, Decidable.not_not, selI_z, selB_z, selS_z, selN_z, selL_z, selI_s, selB_s, selS_s, selN_s, selL_s, Int.toNat_natCast, Nat.mul_one, Nat.zero_add, Nat.div_one, List.drop_zero, Nat.zero_mul, Nat.le_refl, Bool.not_eq_true', Bool.not_eq_false', Bool.false_eq_true, Bool.true_eq_false, not_true_eq_false, not_false_eq_true, false_imp_iff, true_imp_iff, if_true, if_false, sig, sigF, sigW, sigR, sigO]
  refine ⟨⟨l, 1048576, rfl, hl, hm, by omega, by omega⟩, ?_⟩
  rintro ys ⟨r, rfl, r0, r1, r2⟩
  simp only [F_eov_szoff, F_eov_tooff, F_eov_ioff, F_eov_soff, F_eov_eqoff, s_szoff, s_tooff, s_ioff, s_soff, s_eqoff, Tree.holds, ltI_t, ltI_f, leI_t, leI_f, all_cons, all_nil, and_true, true_and, forall_eq, decide_eq_true_eq, decide_eq_false_iff_not, beq_iff_eq, beq_eq_false_iff_ne, bne_iff_ne, bne_eq_false_iff_eq, ne_eq, Decidable.not_not, selI_z, selB_z, selS_z, selN_z, selL_z, selI_s, selB_s, selS_s, selN_s, selL_s, Int.toNat_natCast, Nat.mul_one, Nat.zero_add, Nat.div_one, List.drop_zero, Nat.zero_mul, Nat.le_refl, Bool.not_eq_true', Bool.not_eq_false', Bool.false_eq_true, Bool.true_eq_false, not_true_eq_false, not_false_eq_true, false_imp_iff, true_imp_iff, if_true, if_false, sig, sigF, sigW, sigR, sigO]
  refine ⟨fun _ => trivial, fun h => ?_⟩
  have hs := r2 (by omega) (by omega)
  have e1 : D.list 25 (selN (impD l) 0) (selL (impD l) 0) = .list 25 l.length (offD l) := rfl
  obtain ⟨hs1, hs2⟩ := hs
  rw [unO_off] at hs2
  have e2 : selL (impD l) 0 = offD l := rfl
  simp only [unO_off, e1, e2]
  exact ⟨⟨l, rfl, hs1, hs2⟩, ⟨l, rfl, hs1, hs2⟩, ⟨l, rfl, hs1, hs2⟩, ⟨l, rfl, hs1, hs2⟩, ⟨l, rfl, hs1, hs2⟩, l, rfl, hs1, hs2⟩
theorem med_nil (k : ByteArray) (p : Int) (s h : Bool) : medB ⟨k, p, s, h, []⟩ = false := by
  cases e : medB ⟨k, p, s, h, []⟩ with
  | false => rfl
  | true =>
    have := (med_parts e).2.2.2.2.2.1
    simp at this
theorem med_zero {m : Med} (h : medB m = true) : medB ⟨m.k, 0, false, false, m.c⟩ = true := by
  unfold medB at h ⊢
  simp only [Bool.and_eq_true, inB_iff] at h ⊢
  exact ⟨h.1, h.2.1, ⟨by omega, by omega⟩, h.2.2.2⟩
theorem ok_lmv : FnOk Try.prog 3 s_lmv := by
  refine fnOk (fn := Try.f3) (F := F_lmv) (hs := hs_lmv) (tab_cons ok_dmv (tab_cons ok_imed (tab_cons ok_smed (tab_cons ok_alive tab_nil)))) mixed rfl rfl rfl [.list 5] (by kernel_rfl) (by simp) ?_
  intro n l hw
  refine ⟨fun _ _ => False, fun _ _ => 0, ?_, fun _ _ h => h.elim⟩
  rw [t_lmv]
  simp only [F_lmv_dmv, F_lmv_imed, F_lmv_smed, F_lmv_alive, s_dmv, s_imed, s_smed, s_alive, Tree.holds, ltI_t, ltI_f, leI_t, leI_f, all_cons, all_nil, and_true, true_and, forall_eq, decide_eq_true_eq, decide_eq_false_iff_not, beq_iff_eq, beq_eq_false_iff_ne, bne_iff_ne, bne_eq_false_iff_eq, ne_eq, Decidable.not_not, selI_z, selB_z, selS_z, selN_z, selL_z, selI_s, selB_s, selS_s, selN_s, selL_s, Int.toNat_natCast, Nat.mul_one, Nat.zero_add, Nat.div_one, List.drop_zero, Nat.zero_mul, Nat.le_refl, Bool.not_eq_true', Bool.not_eq_false', Bool.false_eq_true, Bool.true_eq_false, not_true_eq_false, not_false_eq_true, false_imp_iff, true_imp_iff, if_true, if_false, sig, sigF, sigW, sigR, sigO]
  refine ⟨fun _ => trivial, fun _ => ⟨bytes_wf hw, ?_⟩⟩
  rintro ys ⟨m, rfl, hm⟩
  have hs := drM_sm hm
  have hs0 : smM ⟨m.k, m.p, false, false, []⟩ := ⟨hs.1, by simp, by simp⟩
  have hs1 : smM ⟨m.k, 0, false, false, m.c⟩ := ⟨hs.1, hs.2.1, hs.2.2⟩
  have u0 : unM [D.str m.k, .int .i64 m.p, .bool false, .bool false, .list 9 0 []] = ⟨m.k, m.p, false, false, []⟩ := rfl
  have u1 : unM [D.str m.k, .int .i64 0, .bool false, .bool false, .list 9 m.c.length (textsD m.c)] = ⟨m.k, 0, false, false, m.c⟩ := unM_med ⟨m.k, 0, false, false, m.c⟩
  simp only [medD, F_lmv_dmv, F_lmv_imed, F_lmv_smed, F_lmv_alive, s_dmv, s_imed, s_smed, s_alive, Tree.holds, ltI_t, ltI_f, leI_t, leI_f, all_cons, all_nil, and_true, true_and, forall_eq, decide_eq_true_eq, decide_eq_false_iff_not, beq_iff_eq, beq_eq_false_iff_ne, bne_iff_ne, bne_eq_false_iff_eq, ne_eq, Decidable.not_not, selI_z, selB_z, selS_z, selN_z, selL_z, selI_s, selB_s, selS_s, selN_s, selL_s, Int.toNat_natCast, Nat.mul_one, Nat.zero_add, Nat.div_one, List.drop_zero, Nat.zero_mul, Nat.le_refl, Bool.not_eq_true', Bool.not_eq_false', Bool.false_eq_true, Bool.true_eq_false, not_true_eq_false, not_false_eq_true, false_imp_iff, true_imp_iff, if_true, if_false, sig, sigF, sigW, sigR, sigO, unM_lit, u0, u1, med_nil]
  exact ⟨⟨m, rfl, hs⟩, ⟨m, rfl, hs⟩, ⟨_, rfl, hs0⟩, fun _ => trivial, fun h => ⟨⟨_, rfl, hs1⟩, fun _ => trivial, fun h2 => by rw [med_zero h] at h2; cases h2⟩⟩
theorem offE_of : ∀ l : List Med, offE l (offD l)
  | [] => rfl
  | m :: l => ⟨_, _, rfl, .inl rfl, offE_of l⟩
theorem offE_un : ∀ {l : List Med} {cs : List D}, offE l cs → unO cs = l
  | [], cs, h => by rw [show cs = [] from h]; rfl
  | m :: l, cs, h => by
    obtain ⟨t, r, rfl, h1, h2⟩ := h
    rcases h1 with rfl | ⟨rfl, h1⟩
    · show Med.mk m.k m.p m.s m.h (unS (textsD m.c)) :: unO r = m :: l
      rw [unS_texts, offE_un h2]
    · show Med.mk m.k m.p m.s m.h [] :: unO r = m :: l
      rw [← h1, offE_un h2]
theorem offE_at : ∀ {l : List Med} {cs : List D} {i : Nat} {m : Med}, offE l cs → l[i]? = some m → cs[i * 5]? = some (.str m.k) ∧ cs[i * 5 + 1]? = some (.int .i64 m.p) ∧ cs[i * 5 + 1 + 1]? = some (.bool m.s) ∧ cs[i * 5 + 1 + 1 + 1]? = some (.bool m.h) ∧ (cs[i * 5 + 1 + 1 + 1 + 1]? = some (.list 9 m.c.length (textsD m.c)) ∨ cs[i * 5 + 1 + 1 + 1 + 1]? = some (.list 0 0 []) ∧ m.c = [])
  | [], _, _, _, _, h => by simp at h
  | m' :: l, cs, 0, m, h, hm => by
    obtain ⟨t, r, rfl, h1, h2⟩ := h
    simp at hm
    subst hm
    rcases h1 with rfl | ⟨rfl, h1⟩
    · exact ⟨rfl, rfl, rfl, rfl, .inl rfl⟩
    · exact ⟨rfl, rfl, rfl, rfl, .inr ⟨rfl, h1⟩⟩
  | m' :: l, cs, i + 1, m, h, hm => by
    obtain ⟨t, r, rfl, h1, h2⟩ := h
    have := offE_at h2 (i := i) (m := m) (by simpa using hm)
    rw [Nat.add_mul, Nat.one_mul]
    exact this
theorem offE_take : ∀ {l : List Med} {cs : List D}, offE l cs → cs.length = l.length * 5
  | [], cs, h => by rw [show cs = [] from h]; rfl
  | m :: l, cs, h => by
    obtain ⟨t, r, rfl, h1, h2⟩ := h
    simp only [List.length_cons, offE_take h2]
    omega
theorem offD_drop (l : List Med) (i : Nat) : List.drop (i * 5) (offD l) = offD (l.drop i) := by
  by_cases h : i ≤ l.length
  · have e : offD l = offD (l.take i) ++ offD (l.drop i) := by
      unfold offD; rw [← flatD_append, List.take_append_drop]
    rw [e, List.drop_append, List.drop_of_length_le (by rw [offD_len, List.length_take]; omega), offD_len, List.length_take, Nat.min_eq_left h]
    simp
  · rw [List.drop_of_length_le (by rw [offD_len]; omega), List.drop_of_length_le (by omega)]
    rfl
theorem ok_ioffz : FnOk Try.prog 19 s_ioffz := by
  refine fnOk (fn := Try.f19) (F := F_ioffz) (hs := hs_ioffz) (tab_cons ok_imed tab_nil) mixed rfl rfl rfl [.list 25] (by kernel_rfl) (by simp) ?_
  rintro n cs ⟨l, cs', e, he, hl, hm⟩
  simp only [List.cons.injEq, D.list.injEq, true_and, and_true] at e
  obtain ⟨rfl, rfl⟩ := e
  have hun := offE_un he
  refine ⟨fun h ys => h = 0 ∧ ∃ i : Nat, ys = [.list 25 l.length cs, .int .i64 i] ∧ i ≤ l.length ∧ l.length ≤ 4 ∧ (∀ (a : Nat) (m : Med), a < i → l[a]? = some m → medB m = true), fun h ys => l.length - (selI ys 1).toNat, ?_, ?_⟩
  · rw [t_ioffz]
    simp only [F_ioffz_imed, s_imed, Tree.holds, ltI_t, ltI_f, leI_t, leI_f, all_cons, all_nil, and_true, true_and, forall_eq, decide_eq_true_eq, decide_eq_false_iff_not, beq_iff_eq, beq_eq_false_iff_ne, bne_iff_ne, bne_eq_false_iff_eq, ne_eq, Decidable.not_not, selI_z, selB_z, selS_z, selN_z, selL_z, selI_s, selB_s, selS_s, selN_s, selL_s, Int.toNat_natCast, Nat.mul_one, Nat.zero_add, Nat.div_one, List.drop_zero, Nat.zero_mul, Nat.le_refl, Bool.not_eq_true', Bool.not_eq_false', Bool.false_eq_true, Bool.true_eq_false, not_true_eq_false, not_false_eq_true, false_imp_iff, true_imp_iff, if_true, if_false, sig, sigF, sigW, sigR, sigO, hun]
    refine ⟨fun h => ret_bool' ?_, fun h => ⟨0, rfl, by omega, by omega, fun a m h => by omega⟩⟩
    unfold offB
    rw [show decide (l.length ≤ 4) = false from decide_eq_false (by omega)]
    simp
  · rintro h ys ⟨rfl, i, rfl, hi, l4, hv⟩
    rw [t_ioffz0]
    simp only [F_ioffz_imed, s_imed, Tree.holds, ltI_t, ltI_f, leI_t, leI_f, all_cons, all_nil, and_true, true_and, forall_eq, decide_eq_true_eq, decide_eq_false_iff_not, beq_iff_eq, beq_eq_false_iff_ne, bne_iff_ne, bne_eq_false_iff_eq, ne_eq, Decidable.not_not, selI_z, selB_z, selS_z, selN_z, selL_z, selI_s, selB_s, selS_s, selN_s, selL_s, Int.toNat_natCast, Nat.mul_one, Nat.zero_add, Nat.div_one, List.drop_zero, Nat.zero_mul, Nat.le_refl, Bool.not_eq_true', Bool.not_eq_false', Bool.false_eq_true, Bool.true_eq_false, not_true_eq_false, not_false_eq_true, false_imp_iff, true_imp_iff, if_true, if_false, sig, sigF, sigW, sigR, sigO, sel_kstr, sel_kint, sel_kbool, hun]
    refine ⟨fun hj => ?_, fun hj => ret_bool' ?_⟩
    · obtain ⟨m, m1, m2⟩ := off_get (l := l) (i := i) (by omega)
      obtain ⟨c0, c1, c2, c3, c4⟩ := offE_at he m1
      have h4 : D.list 9 (selN cs (i * 5 + 1 + 1 + 1 + 1)) (selL cs (i * 5 + 1 + 1 + 1 + 1)) = .list 9 m.c.length (textsD m.c) := by
        rcases c4 with c4 | ⟨c4, e4⟩
        · rw [selN_of c4, selL_of c4]
        · rw [selN_of c4, selL_of c4, e4]; rfl
      have c4' : cs[i * 5 + 1 + 1 + 1 + 1]? = some (D.list 9 (selN cs (i * 5 + 1 + 1 + 1 + 1)) (selL cs (i * 5 + 1 + 1 + 1 + 1))) ∨ cs[i * 5 + 1 + 1 + 1 + 1]? = some (.list 0 0 []) := by
        rcases c4 with c4 | ⟨c4, e4⟩
        · exact .inl (by rw [h4]; exact c4)
        · exact .inr c4
      rw [selS_of c0, selI_of c1, selB_of c2, selB_of c3]
      simp only [h4] at c4' ⊢
      rw [unM_lit]
      refine ⟨⟨by omega, by omega⟩, ⟨c0, c1, c2, c3, c4'⟩, ⟨m, rfl, hm m m2⟩, fun e0 => ret_bool' ?_, fun e0 => ⟨by unfold inK; omega, ⟨i + 1, rfl, by omega, l4, fun a m' ha hm' => ?_⟩, by omega⟩⟩
      · rw [med_no m2 e0]
      · by_cases hai : a = i
        · rw [hai, m1] at hm'; injection hm' with hm'; rw [← hm']; exact e0
        · exact hv a m' (by omega) hm'
    · have ha : l.all medB = true := List.all_eq_true.mpr (fun x hx => by
        obtain ⟨a, ha, rfl⟩ := List.getElem_of_mem hx
        exact hv a _ (by omega) (List.getElem?_eq_getElem ha))
      unfold offB
      rw [ha]
      simp [l4]
theorem ok_lov : FnOk Try.prog 5 s_lov := by
  refine fnOk (fn := Try.f5) (F := F_lov) (hs := hs_lov) (tab_cons ok_dov (tab_cons ok_ioffz (tab_cons ok_soff (tab_cons ok_alive tab_nil)))) mixed rfl rfl rfl [.list 5] (by kernel_rfl) (by simp) ?_
  intro n l hw
  refine ⟨fun _ _ => False, fun _ _ => 0, ?_, fun _ _ h => h.elim⟩
  rw [t_lov]
  simp only [F_lov_dov, F_lov_ioffz, F_lov_soff, F_lov_alive, s_dov, s_ioffz, s_soff, s_alive, Tree.holds, ltI_t, ltI_f, leI_t, leI_f, all_cons, all_nil, and_true, true_and, forall_eq, decide_eq_true_eq, decide_eq_false_iff_not, beq_iff_eq, beq_eq_false_iff_ne, bne_iff_ne, bne_eq_false_iff_eq, ne_eq, Decidable.not_not, selI_z, selB_z, selS_z, selN_z, selL_z, selI_s, selB_s, selS_s, selN_s, selL_s, Int.toNat_natCast, Nat.mul_one, Nat.zero_add, Nat.div_one, List.drop_zero, Nat.zero_mul, Nat.le_refl, Bool.not_eq_true', Bool.not_eq_false', Bool.false_eq_true, Bool.true_eq_false, not_true_eq_false, not_false_eq_true, false_imp_iff, true_imp_iff, if_true, if_false, sig, sigF, sigW, sigR, sigO]
  refine ⟨fun _ => trivial, fun _ => ⟨bytes_wf hw, ?_⟩⟩
  rintro ys ⟨l, rfl, h1, hm⟩
  have hs := fun m hx => drM_sm (hm m hx)
  let z : Med := ⟨⟨#[]⟩, 0, false, false, []⟩
  have hz : smM z := ⟨by decide, by simp [z], by simp [z]⟩
  have ez : List.take (1 * 5) [D.str ⟨#[]⟩, .int .i64 0, .bool false, .bool false, .list 0 0 []] = [D.str ⟨#[]⟩, .int .i64 0, .bool false, .bool false, .list 0 0 []] := rfl
  have hE : offE (z :: l) ([D.str ⟨#[]⟩, .int .i64 0, .bool false, .bool false, .list 0 0 []] ++ offD l) := ⟨_, _, rfl, .inr ⟨rfl, rfl⟩, offE_of l⟩
  have hzl : ([D.str ⟨#[]⟩, .int .i64 0, .bool false, .bool false, .list 0 0 []] ++ offD l).length = (1 + l.length) * 5 := by rw [offE_take hE]; simp; omega
  have htk : List.take ((1 + l.length) * 5) ([D.str ⟨#[]⟩, .int .i64 0, .bool false, .bool false, .list 0 0 []] ++ offD l) = [D.str ⟨#[]⟩, .int .i64 0, .bool false, .bool false, .list 0 0 []] ++ offD l := List.take_of_length_le (by omega)
  have hno : offB (z :: l) = false := med_no (m := z) (by simp) (by show medB ⟨⟨#[]⟩, 0, false, false, []⟩ = false; exact med_nil _ _ _ _)
  have hun := offE_un hE
  have h2 : ((l.length : Int)).tdiv 2 = ((l.length / 2 : Nat) : Int) := by rw [Int.tdiv_eq_ediv_of_nonneg (by omega)]; omega
  have h3 : ((l.length : Int) - ((l.length / 2 : Nat) : Int)).toNat = l.length - l.length / 2 := by omega
  have hdl : (l.drop (l.length / 2)).length = l.length - l.length / 2 := by rw [List.length_drop]
  have hd : List.take ((l.length - l.length / 2) * 5) (offD (l.drop (l.length / 2))) = offD (l.drop (l.length / 2)) := List.take_of_length_le (by rw [offD_len, hdl]; omega)
  simp only [F_lov_dov, F_lov_ioffz, F_lov_soff, F_lov_alive, s_dov, s_ioffz, s_soff, s_alive, Tree.holds, ltI_t, ltI_f, leI_t, leI_f, all_cons, all_nil, and_true, true_and, forall_eq, decide_eq_true_eq, decide_eq_false_iff_not, beq_iff_eq, beq_eq_false_iff_ne, bne_iff_ne, bne_eq_false_iff_eq, ne_eq, Decidable.not_not, selI_z, selB_z, selS_z, selN_z, selL_z, selI_s, selB_s, selS_s, selN_s, selL_s, Int.toNat_natCast, Nat.mul_one, Nat.zero_add, Nat.div_one, List.drop_zero, Nat.zero_mul, Nat.le_refl, Bool.not_eq_true', Bool.not_eq_false', Bool.false_eq_true, Bool.true_eq_false, not_true_eq_false, not_false_eq_true, false_imp_iff, true_imp_iff, if_true, if_false, sig, sigF, sigW, sigR, sigO, unO_off, ez, htk, hun, hno, h2, Option.getD_some, Option.getD_none, h3, Int.toNat_natCast, offD_drop, hd]
  refine ⟨⟨l, _, rfl, offE_of l, by omega, hs⟩, ⟨l, rfl, by omega, hs⟩, by omega, by omega, ⟨z :: l, _, by rw [List.length_cons, Nat.add_comm 1], hE, by simp; omega, fun m hx => ?_⟩, fun _ => trivial, fun hv => ⟨⟨by omega, by unfold inK; omega⟩, ⟨by omega, by omega, by omega⟩, ⟨l.drop (l.length / 2), _, by rw [hdl], offE_of _, by omega, fun m hx => hs m (List.mem_of_mem_drop hx)⟩, fun _ => trivial, fun hf => ?_⟩⟩
  · rcases List.mem_cons.mp hx with rfl | hx
    · exact hz
    · exact hs m hx
  · exfalso
    have : offB (l.drop (l.length / 2)) = true := by
      obtain ⟨v1, v2⟩ := off_parts hv
      unfold offB
      rw [Bool.and_eq_true, List.all_eq_true, decide_eq_true_eq]
      exact ⟨fun m hx => v1 m (List.mem_of_mem_drop hx), by omega⟩
    rw [this] at hf; cases hf
theorem ok_lol : FnOk Try.prog 7 s_lol := by
  refine fnOk (fn := Try.f7) (F := F_lol) (hs := hs_lol) (tab_cons ok_dol (tab_cons ok_iol (tab_cons ok_soli (tab_cons ok_samet (tab_cons ok_soff (tab_cons ok_iro (tab_cons ok_sameo (tab_cons ok_alive tab_nil)))))))) mixed rfl rfl rfl [.list 5] (by kernel_rfl) (by simp) ?_
  intro n l hw
  refine ⟨fun _ _ => False, fun _ _ => 0, ?_, fun _ _ h => h.elim⟩
  rw [t_lol]
  simp only [F_lol_dol, F_lol_iol, F_lol_soli, F_lol_samet, F_lol_soff, F_lol_iro, F_lol_sameo, F_lol_alive, s_dol, s_iol, s_soli, s_samet, s_soff, s_iro, s_sameo, s_alive, Tree.holds, ltI_t, ltI_f, leI_t, leI_f, all_cons, all_nil, and_true, true_and, forall_eq, decide_eq_true_eq, decide_eq_false_iff_not, beq_iff_eq, beq_eq_false_iff_ne, bne_iff_ne, bne_eq_false_iff_eq, ne_eq, Decidable.not_not, selI_z, selB_z, selS_z, selN_z, selL_z, selI_s, selB_s, selS_s, selN_s, selL_s, Int.toNat_natCast, Nat.mul_one, Nat.zero_add, Nat.div_one, List.drop_zero, Nat.zero_mul, Nat.le_refl, Bool.not_eq_true', Bool.not_eq_false', Bool.false_eq_true, Bool.true_eq_false, not_true_eq_false, not_false_eq_true, false_imp_iff, true_imp_iff, if_true, if_false, sig, sigF, sigW, sigR, sigO]
  refine ⟨fun _ => trivial, fun _ => ⟨bytes_wf hw, ?_⟩⟩
  rintro ys ⟨l, rfl, h1, hm⟩
  have hs := fun m hx => drM_sm (hm m hx)
  have hll := linesO_len l
  have hls := linesO_size l
  simp only [F_lol_dol, F_lol_iol, F_lol_soli, F_lol_samet, F_lol_soff, F_lol_iro, F_lol_sameo, F_lol_alive, s_dol, s_iol, s_soli, s_samet, s_soff, s_iro, s_sameo, s_alive, Tree.holds, ltI_t, ltI_f, leI_t, leI_f, all_cons, all_nil, and_true, true_and, forall_eq, decide_eq_true_eq, decide_eq_false_iff_not, beq_iff_eq, beq_eq_false_iff_ne, bne_iff_ne, bne_eq_false_iff_eq, ne_eq, Decidable.not_not, selI_z, selB_z, selS_z, selN_z, selL_z, selI_s, selB_s, selS_s, selN_s, selL_s, Int.toNat_natCast, Nat.mul_one, Nat.zero_add, Nat.div_one, List.drop_zero, Nat.zero_mul, Nat.le_refl, Bool.not_eq_true', Bool.not_eq_false', Bool.false_eq_true, Bool.true_eq_false, not_true_eq_false, not_false_eq_true, false_imp_iff, true_imp_iff, if_true, if_false, sig, sigF, sigW, sigR, sigO, unO_off, unS_texts, sameB_rfl, textsD_take]
  have hp : ∃ l_1 : List Med, [D.list 25 l.length (offD l)] = [.list 25 l_1.length (offD l_1)] ∧ l_1.length ≤ 1048576 ∧ ∀ m ∈ l_1, smM m := ⟨l, rfl, by omega, hs⟩
  refine ⟨hp, hp, ⟨by rw [textsD_len]; omega, by rw [textsD_len]; omega⟩, ⟨linesO l, linesO l, rfl, by omega⟩, hp, fun h0 => ?_, fun h0 => ?_⟩
  · have e : linesO l = [] := by unfold linesO; rw [h0]; rfl
    rw [e]
    exact ⟨fun _ => trivial, fun h => absurd rfl h⟩
  · have e := rdOf_lines h0
    rw [e]
    refine ⟨by rw [textsD_len]; omega, ⟨linesO l, rfl, by omega, fun s hx => by have := hls s hx; omega⟩, fun _ => ⟨l, rfl, by omega, fun m hx => (hs m hx).2.1⟩, fun h => by cases h⟩
theorem ok_lro : FnOk Try.prog 9 s_lro := by
  refine fnOk (fn := Try.f9) (F := F_lro) (hs := hs_lro) (tab_cons ok_dro (tab_cons ok_iro (tab_cons ok_srof (tab_cons ok_sameo (tab_cons ok_ioff (tab_cons ok_iol (tab_cons ok_samet (tab_cons ok_alive tab_nil)))))))) mixed rfl rfl rfl [.list 5] (by kernel_rfl) (by simp) ?_
  intro n l hw
  refine ⟨fun _ _ => False, fun _ _ => 0, ?_, fun _ _ h => h.elim⟩
  rw [t_lro]
  simp only [F_lro_dro, F_lro_iro, F_lro_srof, F_lro_sameo, F_lro_ioff, F_lro_iol, F_lro_samet, F_lro_alive, s_dro, s_iro, s_srof, s_sameo, s_ioff, s_iol, s_samet, s_alive, Tree.holds, ltI_t, ltI_f, leI_t, leI_f, all_cons, all_nil, and_true, true_and, forall_eq, decide_eq_true_eq, decide_eq_false_iff_not, beq_iff_eq, beq_eq_false_iff_ne, bne_iff_ne, bne_eq_false_iff_eq, ne_eq, Decidable.not_not, selI_z, selB_z, selS_z, selN_z, selL_z, selI_s, selB_s, selS_s, selN_s, selL_s, Int.toNat_natCast, Nat.mul_one, Nat.zero_add, Nat.div_one, List.drop_zero, Nat.zero_mul, Nat.le_refl, Bool.not_eq_true', Bool.not_eq_false', Bool.false_eq_true, Bool.true_eq_false, not_true_eq_false, not_false_eq_true, false_imp_iff, true_imp_iff, if_true, if_false, sig, sigF, sigW, sigR, sigO]
  refine ⟨fun _ => trivial, fun _ => ⟨bytes_wf hw, ?_⟩⟩
  rintro ys ⟨ls, rfl, h1, hm⟩
  have hp : ∃ ls_1 : List ByteArray, [D.list 9 ls.length (textsD ls)] = [.list 9 ls_1.length (textsD ls_1)] ∧ ls_1.length ≤ 1048576 ∧ ∀ s ∈ ls_1, s.size ≤ 1048575 := ⟨ls, rfl, by omega, fun s hx => by have := hm s hx; omega⟩
  cases ho : rdOf ls with
  | none =>
    simp only [rdRes, F_lro_dro, F_lro_iro, F_lro_srof, F_lro_sameo, F_lro_ioff, F_lro_iol, F_lro_samet, F_lro_alive, s_dro, s_iro, s_srof, s_sameo, s_ioff, s_iol, s_samet, s_alive, Tree.holds, ltI_t, ltI_f, leI_t, leI_f, all_cons, all_nil, and_true, true_and, forall_eq, decide_eq_true_eq, decide_eq_false_iff_not, beq_iff_eq, beq_eq_false_iff_ne, bne_iff_ne, bne_eq_false_iff_eq, ne_eq, Decidable.not_not, selI_z, selB_z, selS_z, selN_z, selL_z, selI_s, selB_s, selS_s, selN_s, selL_s, Int.toNat_natCast, Nat.mul_one, Nat.zero_add, Nat.div_one, List.drop_zero, Nat.zero_mul, Nat.le_refl, Bool.not_eq_true', Bool.not_eq_false', Bool.false_eq_true, Bool.true_eq_false, not_true_eq_false, not_false_eq_true, false_imp_iff, true_imp_iff, if_true, if_false, sig, sigF, sigW, sigR, sigO, unO_off, unS_texts, ho]
    exact ⟨hp, hp, ⟨[], rfl, by simp, by simp⟩, fun _ => trivial, fun h => absurd rfl h⟩
  | some l =>
    obtain ⟨g1, g2⟩ := lines_rdOf ho
    obtain ⟨g3, g4⟩ := off_parts g1
    have hs : ∀ m ∈ l, smM m := fun m hx => by
      obtain ⟨b1, b2, b3, b4, b5, b6, b7⟩ := med_parts (g3 m hx)
      have := word_size b3
      exact ⟨by omega, by omega, fun x hx => by have := word_size (b1 x hx); omega⟩
    simp only [rdRes, F_lro_dro, F_lro_iro, F_lro_srof, F_lro_sameo, F_lro_ioff, F_lro_iol, F_lro_samet, F_lro_alive, s_dro, s_iro, s_srof, s_sameo, s_ioff, s_iol, s_samet, s_alive, Tree.holds, ltI_t, ltI_f, leI_t, leI_f, all_cons, all_nil, and_true, true_and, forall_eq, decide_eq_true_eq, decide_eq_false_iff_not, beq_iff_eq, beq_eq_false_iff_ne, bne_iff_ne, bne_eq_false_iff_eq, ne_eq, Decidable.not_not, selI_z, selB_z, selS_z, selN_z, selL_z, selI_s, selB_s, selS_s, selN_s, selL_s, Int.toNat_natCast, Nat.mul_one, Nat.zero_add, Nat.div_one, List.drop_zero, Nat.zero_mul, Nat.le_refl, Bool.not_eq_true', Bool.not_eq_false', Bool.false_eq_true, Bool.true_eq_false, not_true_eq_false, not_false_eq_true, false_imp_iff, true_imp_iff, if_true, if_false, sig, sigF, sigW, sigR, sigO, unO_off, unS_texts, ho, g1, g2, textsD_take, sameB_rfl]
    exact ⟨hp, hp, ⟨l, rfl, by omega, fun m hx => (hs m hx).2.1⟩, ⟨l, rfl, by omega, hs⟩, ⟨l, rfl, by omega, hs⟩, by rw [textsD_len]; omega, ls, ls, rfl, by omega⟩
end Go.Proofs.Ytgoheolehnahkaa.Mini
end
