/- Parts of the proof: Hp. -/
import Derived.Test.YtdhjfbnlkecggaaGeHx
section
namespace Go.Proofs.Ytdhjfbnlkecggaa.Mini
open Go Go.RowKit
set_option linter.unusedVariables false
set_option linter.unusedSimpArgs false
set_option maxRecDepth 20000
noncomputable def s_to_Person : Sig := sig Try.f37 (fun xs => True) (fun xs ys => ys = [.str (selS xs 0), .int .i64 (selI xs 1), .bool (selB xs 2)])
noncomputable def s_eq_Person : Sig := sig Try.f38 (fun xs => selS xs 0 = selS xs 3 ∧ selI xs 1 = selI xs 4 ∧ selB xs 2 = selB xs 5) (fun xs ys => ys = [.bool true])
noncomputable def s_sz_Person : Sig := sig Try.f36 (fun xs => (selS xs 0).size ≤ maxLen ∧ -1 ≤ selI xs 3 ∧ selI xs 3 ≤ 2147483647) (fun xs ys => ∃ r : Int, ys = [.int .i64 r] ∧ -1 ≤ r ∧ r ≤ selI xs 3 ∧ (0 ≤ r → ((selS xs 0).size : Int) ≤ selI xs 3))
noncomputable def s_toS_Person : Sig := sig Try.f15 (fun xs => okC [.str, .int .i64, .bool] (selN xs 0) (selL xs 0) ∧ selN xs 0 * 3 ≤ 16000000) (fun xs ys => ys = [.list 30 (selN xs 0) (selL xs 0)])
noncomputable def s_szS_Person : Sig := sig Try.f14 (fun xs => okC [.str, .int .i64, .bool] (selN xs 0) (selL xs 0) ∧ selN xs 0 ≤ maxLen ∧ -1 ≤ selI xs 1 ∧ selI xs 1 ≤ 2147483647) (fun xs ys => szOut (selN xs 0) (selL xs 0) (selI xs 1) ys)
noncomputable def s_eqS_Person : Sig := sig Try.f16 (fun xs => okC [.str, .int .i64, .bool] (selN xs 0) (selL xs 0) ∧ selN xs 0 ≤ maxLen ∧ selN xs 0 = selN xs 1 ∧ selL xs 0 = selL xs 1) (fun xs ys => ys = [.bool true])
noncomputable def s_markS_Person : Sig := sigW Try.f22 (fun xs => okC [.str, .int .i64, .bool] (selN xs 0) (selL xs 0) ∧ 1 ≤ selI xs 1 ∧ selI xs 1 + selN xs 0 * 3 ≤ 900000000000000) (fun xs yz => yz = [.int .i64 (selI xs 1 + (selN xs 0 : Int) * 3), .list 30 (selN xs 0) (mks [.str, .int .i64, .bool] (selI xs 1).toNat (selN xs 0 * 3))])
noncomputable def s_heldS_Person : Sig := sig Try.f23 (fun xs => selL xs 0 = mks [.str, .int .i64, .bool] (selI xs 1).toNat (selN xs 0 * 3) ∧ 1 ≤ selI xs 1 ∧ selI xs 1 + selN xs 0 * 3 ≤ 900000000000000) (fun xs ys => ys = [.int .i64 (selI xs 1 + (selN xs 0 : Int) * 3)])
noncomputable def F_to_Person : Tb := tab []
noncomputable def hs_to_Person : Hds := []
set_option maxHeartbeats 4000000 in
theorem t_to_Person (a0 : ByteArray) (a1 : Int) (a2 : Bool) : fnT' Try.prog F_to_Person hs_to_Person .own Try.f37 [.str a0, .int IntKind.i64 a1, .bool a2] = (Tree.ret [(D.str a0), (D.int .i64 a1), (D.bool a2)]) := by kernel_rfl
noncomputable def F_eq_Person : Tb := tab []
noncomputable def hs_eq_Person : Hds := []
set_option maxHeartbeats 4000000 in
theorem t_eq_Person (a0 : ByteArray) (a1 : Int) (a2 : Bool) (a3 : ByteArray) (a4 : Int) (a5 : Bool) : fnT' Try.prog F_eq_Person hs_eq_Person .own Try.f38 [.str a0, .int IntKind.i64 a1, .bool a2, .str a3, .int IntKind.i64 a4, .bool a5] = (Tree.ite (Bool.not ((ByteArray.toList a0) == (ByteArray.toList a3))) (Tree.ret [(D.bool false)]) (Tree.ite (a1 != a4) (Tree.ret [(D.bool false)]) (Tree.ite (Bool.not (a2 == a5)) (Tree.ret [(D.bool false)]) (Tree.ret [(D.bool true)])))) := by kernel_rfl
noncomputable def F_sz_Person : Tb := tab []
noncomputable def hs_sz_Person : Hds := []
set_option maxHeartbeats 4000000 in
theorem t_sz_Person (a0 : ByteArray) (a1 : Int) (a2 : Bool) (a3 : Int) : fnT' Try.prog F_sz_Person hs_sz_Person .own Try.f36 [.str a0, .int IntKind.i64 a1, .bool a2, .int IntKind.i64 a3] = (Tree.need (all_ [(inK .i64 (a3 - (Nat.cast (ByteArray.size a0) : Int)))]) (Tree.ite (ltI (a3 - (Nat.cast (ByteArray.size a0) : Int)) (0 : Int)) (Tree.ret [(D.int .i64 (-(1 : Int)))]) (Tree.ret [(D.int .i64 (a3 - (Nat.cast (ByteArray.size a0) : Int)))]))) := by kernel_rfl
noncomputable def F_toS_Person : Tb := tab [(37, s_to_Person)]
theorem F_toS_Person_to_Person : F_toS_Person 37 = some s_to_Person := rfl
noncomputable def hs_toS_Person : Hds := [([false, true, false, true, true], shapeW Try.f15 0 [(0, .one (.kd (.list 56))), (3, .one (.sl 30 0)), (4, .one (.kd (.int .i64)))] [.sym 30])]
set_option maxHeartbeats 4000000 in
theorem t_toS_Person (a0n : Nat) (a0 : List D) : fnT' Try.prog F_toS_Person hs_toS_Person .own Try.f15 [.list 56 a0n a0] = (Tree.need (all_ [(((Nat.cast a0n : Int) = (Nat.cast a0n : Int)) ∧ (((0 : Int) ≤ (Nat.cast a0n : Int)) ∧ ((((Nat.cast a0n : Int) * (Nat.cast (3 : Nat) : Int)) ≤ (16777216 : Int)) ∧ (((Nat.cast (32 : Nat) : Int) * (Nat.cast a0n : Int)) ≤ (281474976710656 : Int)))))]) (Tree.goto 0 [(D.list 56 a0n a0), (D.int .i64 (Nat.cast (0 : Nat) : Int)), (D.int .i64 (Nat.cast a0n : Int)), (D.int .i64 (0 : Int)), (D.list 30 (0 : Nat) (rep a0n [(D.str (ByteArray.mk (List.toArray []))), (D.int .i64 (0 : Int)), (D.bool false)]))])) := by kernel_rfl
set_option maxHeartbeats 4000000 in
theorem t_toS_Person0 (x0n : Nat) (x0 : List D) (x3o x3n : Nat) (x4 : Int) (r0 : List D) : plT' Try.prog F_toS_Person hs_toS_Person .own Try.f15 0 [.list 56 x0n x0, .int .i64 (x3o : Nat), .int .i64 (x3n : Nat), .int .i64 x4, .list 30 0 r0] = (Tree.ite (ltI x4 (Nat.cast x0n : Int)) (Tree.need (all_ [(((0 : Int) ≤ x4) ∧ (x4 < (Nat.cast x0n : Int)))]) (Tree.need (all_ [((GetElem?.getElem? x0 ((Int.toNat x4) * (3 : Nat))) = (Option.some (sel x0 ((Int.toNat x4) * (3 : Nat)) Kd.str))), ((GetElem?.getElem? x0 (((Int.toNat x4) * (3 : Nat)) + (1 : Nat))) = (Option.some (sel x0 (((Int.toNat x4) * (3 : Nat)) + (1 : Nat)) (Kd.int .i64)))), ((GetElem?.getElem? x0 ((((Int.toNat x4) * (3 : Nat)) + (1 : Nat)) + (1 : Nat))) = (Option.some (sel x0 ((((Int.toNat x4) * (3 : Nat)) + (1 : Nat)) + (1 : Nat)) Kd.bool)))]) (Tree.call 37 [(D.str (selS x0 ((Int.toNat x4) * (3 : Nat)))), (D.int .i64 (selI x0 (((Int.toNat x4) * (3 : Nat)) + (1 : Nat)))), (D.bool (selB x0 ((((Int.toNat x4) * (3 : Nat)) + (1 : Nat)) + (1 : Nat))))] (fun y196 => (Tree.need (all_ [(((0 : Int) ≤ x4) ∧ (x4 < (Nat.cast x3n : Int)))]) (Tree.need (all_ [((((x3o + (Int.toNat x4)) * (3 : Nat)) + (3 : Nat)) ≤ (List.length r0))]) (Tree.need (all_ [(inK .i64 (x4 + (1 : Int)))]) (Tree.goto 0 [(D.list 56 x0n x0), (D.int .i64 (Nat.cast x3o : Int)), (D.int .i64 (Nat.cast x3n : Int)), (D.int .i64 (x4 + (1 : Int))), (D.list 30 (0 : Nat) (setL r0 ((x3o + (Int.toNat x4)) * (3 : Nat)) [(sel y196 (0 : Nat) Kd.str), (sel y196 ((0 : Nat) + (1 : Nat)) (Kd.int .i64)), (sel y196 (((0 : Nat) + (1 : Nat)) + (1 : Nat)) Kd.bool)]))])))))))) (Tree.need (all_ [(((x3o + x3n) * (3 : Nat)) ≤ (List.length r0)), (scal (List.take (x3n * (3 : Nat)) (List.drop (x3o * (3 : Nat)) r0)))]) (Tree.ret [(D.list 30 x3n (List.take (x3n * (3 : Nat)) (List.drop (x3o * (3 : Nat)) r0)))]))) := by kernel_rfl
noncomputable def F_szS_Person : Tb := tab [(36, s_sz_Person)]
theorem F_szS_Person_sz_Person : F_szS_Person 36 = some s_sz_Person := rfl
noncomputable def hs_szS_Person : Hds := [([false, true, false, true, true, true], shapeW Try.f14 0 [(0, .one (.kd (.list 56))), (1, .one (.kd (.int .i64))), (5, .one (.kd (.int .i64)))] [])]
set_option maxHeartbeats 4000000 in
theorem t_szS_Person (a0n : Nat) (a0 : List D) (a1 : Int) : fnT' Try.prog F_szS_Person hs_szS_Person .own Try.f14 [.list 56 a0n a0, .int IntKind.i64 a1] = (Tree.need (all_ [(inK .i64 (a1 - (Nat.cast a0n : Int)))]) (Tree.ite (ltI (a1 - (Nat.cast a0n : Int)) (0 : Int)) (Tree.ret [(D.int .i64 (-(1 : Int)))]) (Tree.goto 0 [(D.list 56 a0n a0), (D.int .i64 (a1 - (Nat.cast a0n : Int))), (D.int .i64 (0 : Int))]))) := by kernel_rfl
set_option maxHeartbeats 4000000 in
theorem t_szS_Person0 (x0n : Nat) (x0 : List D) (x1 : Int) (x5 : Int) : plT' Try.prog F_szS_Person hs_szS_Person .own Try.f14 0 [.list 56 x0n x0, .int .i64 x1, .int .i64 x5] = (Tree.ite (ltI x5 (Nat.cast x0n : Int)) (Tree.need (all_ [(((0 : Int) ≤ x5) ∧ (x5 < (Nat.cast x0n : Int)))]) (Tree.need (all_ [((GetElem?.getElem? x0 ((Int.toNat x5) * (3 : Nat))) = (Option.some (sel x0 ((Int.toNat x5) * (3 : Nat)) Kd.str))), ((GetElem?.getElem? x0 (((Int.toNat x5) * (3 : Nat)) + (1 : Nat))) = (Option.some (sel x0 (((Int.toNat x5) * (3 : Nat)) + (1 : Nat)) (Kd.int .i64)))), ((GetElem?.getElem? x0 ((((Int.toNat x5) * (3 : Nat)) + (1 : Nat)) + (1 : Nat))) = (Option.some (sel x0 ((((Int.toNat x5) * (3 : Nat)) + (1 : Nat)) + (1 : Nat)) Kd.bool)))]) (Tree.call 36 [(D.str (selS x0 ((Int.toNat x5) * (3 : Nat)))), (D.int .i64 (selI x0 (((Int.toNat x5) * (3 : Nat)) + (1 : Nat)))), (D.bool (selB x0 ((((Int.toNat x5) * (3 : Nat)) + (1 : Nat)) + (1 : Nat)))), (D.int .i64 x1)] (fun y196 => (Tree.ite (ltI (selI y196 0) (0 : Int)) (Tree.ret [(D.int .i64 (-(1 : Int)))]) (Tree.need (all_ [(inK .i64 (x5 + (1 : Int)))]) (Tree.goto 0 [(D.list 56 x0n x0), (D.int .i64 (selI y196 0)), (D.int .i64 (x5 + (1 : Int)))]))))))) (Tree.ret [(D.int .i64 x1)])) := by kernel_rfl
noncomputable def F_eqS_Person : Tb := tab [(38, s_eq_Person)]
theorem F_eqS_Person_eq_Person : F_eqS_Person 38 = some s_eq_Person := rfl
noncomputable def hs_eqS_Person : Hds := [([false, true, false, true, true], shapeW Try.f16 0 [(0, .one (.kd (.list 30))), (1, .one (.kd (.list 30))), (5, .one (.kd (.int .i64)))] [])]
set_option maxHeartbeats 4000000 in
theorem t_eqS_Person (a0n : Nat) (a0 : List D) (a1n : Nat) (a1 : List D) : fnT' Try.prog F_eqS_Person hs_eqS_Person .own Try.f16 [.list 30 a0n a0, .list 30 a1n a1] = (Tree.ite ((Nat.cast a0n : Int) != (Nat.cast a1n : Int)) (Tree.ret [(D.bool false)]) (Tree.goto 0 [(D.list 30 a0n a0), (D.list 30 a1n a1), (D.int .i64 (0 : Int))])) := by kernel_rfl
set_option maxHeartbeats 4000000 in
theorem t_eqS_Person0 (x0n : Nat) (x0 : List D) (x1n : Nat) (x1 : List D) (x5 : Int) : plT' Try.prog F_eqS_Person hs_eqS_Person .own Try.f16 0 [.list 30 x0n x0, .list 30 x1n x1, .int .i64 x5] = (Tree.ite (ltI x5 (Nat.cast x0n : Int)) (Tree.need (all_ [(((0 : Int) ≤ x5) ∧ (x5 < (Nat.cast x0n : Int)))]) (Tree.need (all_ [((GetElem?.getElem? x0 ((Int.toNat x5) * (3 : Nat))) = (Option.some (sel x0 ((Int.toNat x5) * (3 : Nat)) Kd.str))), ((GetElem?.getElem? x0 (((Int.toNat x5) * (3 : Nat)) + (1 : Nat))) = (Option.some (sel x0 (((Int.toNat x5) * (3 : Nat)) + (1 : Nat)) (Kd.int .i64)))), ((GetElem?.getElem? x0 ((((Int.toNat x5) * (3 : Nat)) + (1 : Nat)) + (1 : Nat))) = (Option.some (sel x0 ((((Int.toNat x5) * (3 : Nat)) + (1 : Nat)) + (1 : Nat)) Kd.bool)))]) (Tree.need (all_ [(((0 : Int) ≤ x5) ∧ (x5 < (Nat.cast x1n : Int)))]) (Tree.need (all_ [((GetElem?.getElem? x1 ((Int.toNat x5) * (3 : Nat))) = (Option.some (sel x1 ((Int.toNat x5) * (3 : Nat)) Kd.str))), ((GetElem?.getElem? x1 (((Int.toNat x5) * (3 : Nat)) + (1 : Nat))) = (Option.some (sel x1 (((Int.toNat x5) * (3 : Nat)) + (1 : Nat)) (Kd.int .i64)))), ((GetElem?.getElem? x1 ((((Int.toNat x5) * (3 : Nat)) + (1 : Nat)) + (1 : Nat))) = (Option.some (sel x1 ((((Int.toNat x5) * (3 : Nat)) + (1 : Nat)) + (1 : Nat)) Kd.bool)))]) (Tree.call 38 [(D.str (selS x0 ((Int.toNat x5) * (3 : Nat)))), (D.int .i64 (selI x0 (((Int.toNat x5) * (3 : Nat)) + (1 : Nat)))), (D.bool (selB x0 ((((Int.toNat x5) * (3 : Nat)) + (1 : Nat)) + (1 : Nat)))), (D.str (selS x1 ((Int.toNat x5) * (3 : Nat)))), (D.int .i64 (selI x1 (((Int.toNat x5) * (3 : Nat)) + (1 : Nat)))), (D.bool (selB x1 ((((Int.toNat x5) * (3 : Nat)) + (1 : Nat)) + (1 : Nat))))] (fun y194 => (Tree.ite (Bool.not (selB y194 0)) (Tree.ret [(D.bool false)]) (Tree.need (all_ [(inK .i64 (x5 + (1 : Int)))]) (Tree.goto 0 [(D.list 30 x0n x0), (D.list 30 x1n x1), (D.int .i64 (x5 + (1 : Int)))]))))))))) (Tree.ret [(D.bool true)])) := by kernel_rfl
noncomputable def F_markS_Person : Tb := tab [(42, s_marktext)]
theorem F_markS_Person_marktext : F_markS_Person 42 = some s_marktext := rfl
noncomputable def hs_markS_Person : Hds := [([false, true, false, true], shapeW Try.f22 1 [(0, .one (.sl 30 0)), (1, .one (.kd (.int .i64))), (5, .one (.kd (.int .i64)))] [.sym 30])]
set_option maxHeartbeats 4000000 in
theorem t_markS_Person (a0n : Nat) (a0 : List D) (a1 : Int) : fnT' Try.prog F_markS_Person hs_markS_Person .wr Try.f22 [.list 30 a0n a0, .int IntKind.i64 a1] = (Tree.goto 0 [(D.int .i64 (Nat.cast (0 : Nat) : Int)), (D.int .i64 (Nat.cast a0n : Int)), (D.int .i64 a1), (D.int .i64 (0 : Int)), (D.list 30 (0 : Nat) a0)]) := by kernel_rfl
set_option maxHeartbeats 4000000 in
theorem t_markS_Person0 (x0o x0n : Nat) (x1 : Int) (x5 : Int) (r0 : List D) : plT' Try.prog F_markS_Person hs_markS_Person .wr Try.f22 0 [.int .i64 (x0o : Nat), .int .i64 (x0n : Nat), .int .i64 x1, .int .i64 x5, .list 30 0 r0] = (Tree.ite (ltI x5 (Nat.cast x0n : Int)) (Tree.call 42 [(D.int .i64 x1)] (fun y198 => (Tree.need (all_ [(((0 : Int) ≤ x5) ∧ (x5 < (Nat.cast x0n : Int)))]) (Tree.need (all_ [((((x0o + (Int.toNat x5)) * (3 : Nat)) + (1 : Nat)) ≤ (List.length r0))]) (Tree.need (all_ [(inK .i64 (x1 + (1 : Int)))]) (Tree.need (all_ [(((0 : Int) ≤ x5) ∧ (x5 < (Nat.cast x0n : Int)))]) (Tree.need (all_ [(((((x0o + (Int.toNat x5)) * (3 : Nat)) + ((0 : Nat) + (1 : Nat))) + (1 : Nat)) ≤ (List.length (setL r0 ((x0o + (Int.toNat x5)) * (3 : Nat)) [(sel y198 (0 : Nat) Kd.str)])))]) (Tree.need (all_ [(inK .i64 ((x1 + (1 : Int)) + (1 : Int)))]) (Tree.need (all_ [((3 : Int) ≠ (0 : Int))]) (Tree.need (all_ [(((0 : Int) ≤ x5) ∧ (x5 < (Nat.cast x0n : Int)))]) (Tree.need (all_ [(((((x0o + (Int.toNat x5)) * (3 : Nat)) + ((0 : Nat) + (2 : Nat))) + (1 : Nat)) ≤ (List.length (setL (setL r0 ((x0o + (Int.toNat x5)) * (3 : Nat)) [(sel y198 (0 : Nat) Kd.str)]) (((x0o + (Int.toNat x5)) * (3 : Nat)) + ((0 : Nat) + (1 : Nat))) [(D.int .i64 (x1 + (1 : Int)))])))]) (Tree.need (all_ [(inK .i64 (((x1 + (1 : Int)) + (1 : Int)) + (1 : Int)))]) (Tree.need (all_ [(inK .i64 (x5 + (1 : Int)))]) (Tree.goto 0 [(D.int .i64 (Nat.cast x0o : Int)), (D.int .i64 (Nat.cast x0n : Int)), (D.int .i64 (((x1 + (1 : Int)) + (1 : Int)) + (1 : Int))), (D.int .i64 (x5 + (1 : Int))), (D.list 30 (0 : Nat) (setL (setL (setL r0 ((x0o + (Int.toNat x5)) * (3 : Nat)) [(sel y198 (0 : Nat) Kd.str)]) (((x0o + (Int.toNat x5)) * (3 : Nat)) + ((0 : Nat) + (1 : Nat))) [(D.int .i64 (x1 + (1 : Int)))]) (((x0o + (Int.toNat x5)) * (3 : Nat)) + ((0 : Nat) + (2 : Nat))) [(D.bool ((Int.tmod ((x1 + (1 : Int)) + (1 : Int)) (3 : Int)) == (0 : Int)))]))])))))))))))))) (Tree.need (all_ [(((List.length r0) = (((List.length r0) / (3 : Nat)) * (3 : Nat))) ∧ (scal r0))]) (Tree.ret [(D.int .i64 x1), (D.list 30 ((List.length r0) / (3 : Nat)) r0)]))) := by kernel_rfl
noncomputable def F_heldS_Person : Tb := tab [(42, s_marktext)]
theorem F_heldS_Person_marktext : F_heldS_Person 42 = some s_marktext := rfl
noncomputable def hs_heldS_Person : Hds := [([false, true, false, true], shapeW Try.f23 0 [(0, .one (.kd (.list 30))), (1, .one (.kd (.int .i64))), (5, .one (.kd (.int .i64)))] [])]
set_option maxHeartbeats 4000000 in
theorem t_heldS_Person (a0n : Nat) (a0 : List D) (a1 : Int) : fnT' Try.prog F_heldS_Person hs_heldS_Person .own Try.f23 [.list 30 a0n a0, .int IntKind.i64 a1] = (Tree.goto 0 [(D.list 30 a0n a0), (D.int .i64 a1), (D.int .i64 (0 : Int))]) := by kernel_rfl
set_option maxHeartbeats 4000000 in
theorem t_heldS_Person0 (x0n : Nat) (x0 : List D) (x1 : Int) (x5 : Int) : plT' Try.prog F_heldS_Person hs_heldS_Person .own Try.f23 0 [.list 30 x0n x0, .int .i64 x1, .int .i64 x5] = (Tree.ite (ltI x5 (Nat.cast x0n : Int)) (Tree.need (all_ [(((0 : Int) ≤ x5) ∧ (x5 < (Nat.cast x0n : Int)))]) (Tree.need (all_ [((GetElem?.getElem? x0 ((Int.toNat x5) * (3 : Nat))) = (Option.some (sel x0 ((Int.toNat x5) * (3 : Nat)) Kd.str)))]) (Tree.call 42 [(D.int .i64 x1)] (fun y196 => (Tree.ite (Bool.not ((ByteArray.toList (selS x0 ((Int.toNat x5) * (3 : Nat)))) == (ByteArray.toList (selS y196 0)))) (Tree.ret [(D.int .i64 (-(1 : Int)))]) (Tree.need (all_ [(inK .i64 (x1 + (1 : Int)))]) (Tree.need (all_ [(((0 : Int) ≤ x5) ∧ (x5 < (Nat.cast x0n : Int)))]) (Tree.need (all_ [((GetElem?.getElem? x0 (((Int.toNat x5) * (3 : Nat)) + ((0 : Nat) + (1 : Nat)))) = (Option.some (sel x0 (((Int.toNat x5) * (3 : Nat)) + ((0 : Nat) + (1 : Nat))) (Kd.int .i64))))]) (Tree.ite ((selI x0 (((Int.toNat x5) * (3 : Nat)) + ((0 : Nat) + (1 : Nat)))) != (x1 + (1 : Int))) (Tree.ret [(D.int .i64 (-(1 : Int)))]) (Tree.need (all_ [(inK .i64 ((x1 + (1 : Int)) + (1 : Int)))]) (Tree.need (all_ [(((0 : Int) ≤ x5) ∧ (x5 < (Nat.cast x0n : Int)))]) (Tree.need (all_ [((GetElem?.getElem? x0 (((Int.toNat x5) * (3 : Nat)) + ((0 : Nat) + (2 : Nat)))) = (Option.some (sel x0 (((Int.toNat x5) * (3 : Nat)) + ((0 : Nat) + (2 : Nat))) Kd.bool)))]) (Tree.need (all_ [((3 : Int) ≠ (0 : Int))]) (Tree.ite (Bool.not ((selB x0 (((Int.toNat x5) * (3 : Nat)) + ((0 : Nat) + (2 : Nat)))) == ((Int.tmod ((x1 + (1 : Int)) + (1 : Int)) (3 : Int)) == (0 : Int)))) (Tree.ret [(D.int .i64 (-(1 : Int)))]) (Tree.need (all_ [(inK .i64 (((x1 + (1 : Int)) + (1 : Int)) + (1 : Int)))]) (Tree.need (all_ [(inK .i64 (x5 + (1 : Int)))]) (Tree.goto 0 [(D.list 30 x0n x0), (D.int .i64 (((x1 + (1 : Int)) + (1 : Int)) + (1 : Int))), (D.int .i64 (x5 + (1 : Int)))]))))))))))))))))) (Tree.ret [(D.int .i64 x1)])) := by kernel_rfl
theorem ok_to_Person : FnOk Try.prog 37 s_to_Person := by
  refine fnOk (fn := Try.f37) (F := F_to_Person) (hs := hs_to_Person) tab_nil mixed rfl rfl rfl [.str, .int .i64, .bool] (by kernel_rfl) (by simp) ?_
  intro a0 a1 a2 _
  refine ⟨fun _ _ => False, fun _ _ => 0, ?_, fun _ _ h => h.elim⟩
  rw [t_to_Person]
  simp only [Tree.holds, ltI_t, ltI_f, leI_t, leI_f, all_cons, all_nil, and_true, true_and, forall_eq, decide_eq_true_eq, decide_eq_false_iff_not, beq_iff_eq, beq_eq_false_iff_ne, bne_iff_ne, bne_eq_false_iff_eq, ne_eq, Decidable.not_not, selI_z, selB_z, selS_z, selN_z, selL_z, selI_s, selB_s, selS_s, selN_s, selL_s, Int.toNat_natCast, Nat.mul_one, Nat.zero_add, Nat.div_one, List.drop_zero, Nat.zero_mul, Nat.le_refl, Bool.not_eq_true', Bool.not_eq_false', Bool.false_eq_true, Bool.true_eq_false, not_true_eq_false, not_false_eq_true, false_imp_iff, true_imp_iff, if_true, if_false, sig, sigF, sigW, sigR, sigO, sigD, sigWD, List.map_cons, List.map_nil]
theorem ok_eq_Person : FnOk Try.prog 38 s_eq_Person := by
  refine fnOk (fn := Try.f38) (F := F_eq_Person) (hs := hs_eq_Person) tab_nil mixed rfl rfl rfl [.str, .int .i64, .bool, .str, .int .i64, .bool] (by kernel_rfl) (by simp) ?_
  rintro a0 a1 a2 b0 b1 b2 ⟨h0, h1, h2⟩
  have f0 : a0 = b0 := h0
  have f1 : a1 = b1 := h1
  have f2 : a2 = b2 := h2
  clear h0 h1 h2
  subst f0 f1 f2
  refine ⟨fun _ _ => False, fun _ _ => 0, ?_, fun _ _ h => h.elim⟩
  rw [t_eq_Person]
  simp only [Tree.holds, ltI_t, ltI_f, leI_t, leI_f, all_cons, all_nil, and_true, true_and, forall_eq, decide_eq_true_eq, decide_eq_false_iff_not, beq_iff_eq, beq_eq_false_iff_ne, bne_iff_ne, bne_eq_false_iff_eq, ne_eq, Decidable.not_not, selI_z, selB_z, selS_z, selN_z, selL_z, selI_s, selB_s, selS_s, selN_s, selL_s, Int.toNat_natCast, Nat.mul_one, Nat.zero_add, Nat.div_one, List.drop_zero, Nat.zero_mul, Nat.le_refl, Bool.not_eq_true', Bool.not_eq_false', Bool.false_eq_true, Bool.true_eq_false, not_true_eq_false, not_false_eq_true, false_imp_iff, true_imp_iff, if_true, if_false, sig, sigF, sigW, sigR, sigO, sigD, sigWD, List.map_cons, List.map_nil]
theorem ok_sz_Person : FnOk Try.prog 36 s_sz_Person := by
  refine fnOk (fn := Try.f36) (F := F_sz_Person) (hs := hs_sz_Person) tab_nil mixed rfl rfl rfl [.str, .int .i64, .bool, .int .i64] (by kernel_rfl) (by simp) ?_
  rintro a0 a1 a2 n ⟨h0, h8, h9⟩
  have g0 : a0.size ≤ maxLen := h0
  have g8 : -1 ≤ n := h8
  have g9 : n ≤ 2147483647 := h9
  unfold maxLen at g0
  refine ⟨fun _ _ => False, fun _ _ => 0, ?_, fun _ _ h => h.elim⟩
  rw [t_sz_Person]
  simp only [Tree.holds, ltI_t, ltI_f, leI_t, leI_f, all_cons, all_nil, and_true, true_and, forall_eq, decide_eq_true_eq, decide_eq_false_iff_not, beq_iff_eq, beq_eq_false_iff_ne, bne_iff_ne, bne_eq_false_iff_eq, ne_eq, Decidable.not_not, selI_z, selB_z, selS_z, selN_z, selL_z, selI_s, selB_s, selS_s, selN_s, selL_s, Int.toNat_natCast, Nat.mul_one, Nat.zero_add, Nat.div_one, List.drop_zero, Nat.zero_mul, Nat.le_refl, Bool.not_eq_true', Bool.not_eq_false', Bool.false_eq_true, Bool.true_eq_false, not_true_eq_false, not_false_eq_true, false_imp_iff, true_imp_iff, if_true, if_false, sig, sigF, sigW, sigR, sigO, sigD, sigWD, List.map_cons, List.map_nil]
  exact ⟨by unfold inK; omega, fun e => ⟨_, rfl, by omega, by omega, fun h => by omega⟩, fun e0 => ⟨_, rfl, by omega, by omega, fun _ => by omega⟩⟩
theorem ok_toS_Person : FnOk Try.prog 15 s_toS_Person := by
  refine fnOk (fn := Try.f15) (F := F_toS_Person) (hs := hs_toS_Person) (tab_cons ok_to_Person tab_nil) mixed rfl rfl rfl [.list 56] (by kernel_rfl) (by simp) ?_
  rintro n cs ⟨hc, hn⟩
  have hc : okC [.str, .int .i64, .bool] n cs := hc
  have hn : n * 3 ≤ 16000000 := hn
  have hl : cs.length = n * 3 := hc.1
  refine ⟨fun h ys => h = 0 ∧ ∃ i : Nat, ys = [.list 56 n cs, .int .i64 (0 : Nat), .int .i64 n, .int .i64 i, .list 30 0 (cs.take (i * 3) ++ (rep n [D.str ⟨#[]⟩, .int .i64 0, .bool false]).drop (i * 3))] ∧ i ≤ n, fun h ys => n - (selI ys 3).toNat, ?_, ?_⟩
  · rw [t_toS_Person]
    simp only [F_toS_Person_to_Person, s_to_Person, Tree.holds, ltI_t, ltI_f, leI_t, leI_f, all_cons, all_nil, and_true, true_and, forall_eq, decide_eq_true_eq, decide_eq_false_iff_not, beq_iff_eq, beq_eq_false_iff_ne, bne_iff_ne, bne_eq_false_iff_eq, ne_eq, Decidable.not_not, selI_z, selB_z, selS_z, selN_z, selL_z, selI_s, selB_s, selS_s, selN_s, selL_s, Int.toNat_natCast, Nat.mul_one, Nat.zero_add, Nat.div_one, List.drop_zero, Nat.zero_mul, Nat.le_refl, Bool.not_eq_true', Bool.not_eq_false', Bool.false_eq_true, Bool.true_eq_false, not_true_eq_false, not_false_eq_true, false_imp_iff, true_imp_iff, if_true, if_false, sig, sigF, sigW, sigR, sigO, sigD, sigWD, List.map_cons, List.map_nil]
    exact ⟨⟨by omega, by omega, by omega⟩, 0, by simp, by omega⟩
  · rintro h ys ⟨rfl, i, rfl, hi⟩
    rw [t_toS_Person0]
    simp only [F_toS_Person_to_Person, s_to_Person, Tree.holds, ltI_t, ltI_f, leI_t, leI_f, all_cons, all_nil, and_true, true_and, forall_eq, decide_eq_true_eq, decide_eq_false_iff_not, beq_iff_eq, beq_eq_false_iff_ne, bne_iff_ne, bne_eq_false_iff_eq, ne_eq, Decidable.not_not, selI_z, selB_z, selS_z, selN_z, selL_z, selI_s, selB_s, selS_s, selN_s, selL_s, Int.toNat_natCast, Nat.mul_one, Nat.zero_add, Nat.div_one, List.drop_zero, Nat.zero_mul, Nat.le_refl, Bool.not_eq_true', Bool.not_eq_false', Bool.false_eq_true, Bool.true_eq_false, not_true_eq_false, not_false_eq_true, false_imp_iff, true_imp_iff, if_true, if_false, sig, sigF, sigW, sigR, sigO, sigD, sigWD, List.map_cons, List.map_nil, sel_kstr, sel_kint, sel_kbool]
    have hz : (rep n [D.str ⟨#[]⟩, .int .i64 0, .bool false]).length = n * 3 := by rw [rep_len]; rfl
    have hlen : (cs.take (i * 3) ++ (rep n [D.str ⟨#[]⟩, .int .i64 0, .bool false]).drop (i * 3)).length = n * 3 := by rw [List.length_append, List.length_take, List.length_drop]; omega
    refine ⟨fun hj => ?_, fun hj => ?_⟩
    obtain ⟨_, y0, v0, rfl, z0⟩ := hc.get (i := i) (j := 0) (k := .str) (by omega) rfl
    have x0 : cs[i * 3]? = some (.str v0) := y0
    obtain ⟨_, y1, v1, rfl, z1⟩ := hc.get (i := i) (j := 1) (k := .int .i64) (by omega) rfl
    have x1 : cs[i * 3 + 1]? = some (.int .i64 v1) := y1
    obtain ⟨_, y2, v2, rfl⟩ := hc.get (i := i) (j := 2) (k := .bool) (by omega) rfl
    have x2 : cs[i * 3 + 2]? = some (.bool v2) := y2
    rw [selS_of x0, selI_of x1, selB_of x2]
    refine ⟨⟨by omega, by omega⟩, ⟨x0, x1, x2⟩, ⟨by omega, by omega⟩, by omega, by unfold inK; omega, ⟨i + 1, ?_, by omega⟩, by omega⟩
    rw [copy_put (by omega) (by simp only [List.length_cons, List.length_nil]; omega) (fun j hj => by
        simp only [List.length_cons, List.length_nil] at hj
        match j, hj with
        | 0, _ => exact x0
        | 1, _ => exact x1
        | 2, _ => exact x2
        | j + 3, h => exact absurd h (by omega))]
    simp only [List.length_cons, List.length_nil, Nat.add_mul, Nat.one_mul, Int.natCast_add]
    rfl
    obtain rfl : i = n := by omega
    have e : cs.take (i * 3) ++ (rep i [D.str ⟨#[]⟩, .int .i64 0, .bool false]).drop (i * 3) = cs := by rw [List.drop_of_length_le (by omega), List.append_nil, List.take_of_length_le (by omega)]
    have e2 : cs.take (i * 3) = cs := List.take_of_length_le (by omega)
    rw [e, e2]
    exact ⟨⟨by omega, hc.scal⟩, rfl⟩
theorem ok_szS_Person : FnOk Try.prog 14 s_szS_Person := by
  refine fnOk (fn := Try.f14) (F := F_szS_Person) (hs := hs_szS_Person) (tab_cons ok_sz_Person tab_nil) mixed rfl rfl rfl [.list 56, .int .i64] (by kernel_rfl) (by simp) ?_
  rintro n cs a ⟨hc, hn, h0, h1⟩
  have hc : okC [.str, .int .i64, .bool] n cs := hc
  have hn : n ≤ maxLen := hn
  have h0 : -1 ≤ a := h0
  have h1 : a ≤ 2147483647 := h1
  unfold maxLen at hn
  refine ⟨fun h ys => h = 0 ∧ ∃ (i : Nat) (r : Int), ys = [.list 56 n cs, .int .i64 r, .int .i64 i] ∧ i ≤ n ∧ 0 ≤ r ∧ r ≤ a - n ∧ (n : Int) ≤ a ∧ (∀ (j : Nat) (s : ByteArray), j < i * 3 → cs[j]? = some (.str s) → (s.size : Int) ≤ a - n), fun h ys => n - (selI ys 2).toNat, ?_, ?_⟩
  · rw [t_szS_Person]
    simp only [F_szS_Person_sz_Person, s_sz_Person, Tree.holds, ltI_t, ltI_f, leI_t, leI_f, all_cons, all_nil, and_true, true_and, forall_eq, decide_eq_true_eq, decide_eq_false_iff_not, beq_iff_eq, beq_eq_false_iff_ne, bne_iff_ne, bne_eq_false_iff_eq, ne_eq, Decidable.not_not, selI_z, selB_z, selS_z, selN_z, selL_z, selI_s, selB_s, selS_s, selN_s, selL_s, Int.toNat_natCast, Nat.mul_one, Nat.zero_add, Nat.div_one, List.drop_zero, Nat.zero_mul, Nat.le_refl, Bool.not_eq_true', Bool.not_eq_false', Bool.false_eq_true, Bool.true_eq_false, not_true_eq_false, not_false_eq_true, false_imp_iff, true_imp_iff, if_true, if_false, sig, sigF, sigW, sigR, sigO, sigD, sigWD, List.map_cons, List.map_nil]
    refine ⟨by unfold inK; omega, fun h => ⟨-1, rfl, by omega, by omega, fun h => by omega⟩, fun h => ⟨0, a - n, rfl, by omega, by omega, by omega, by omega, fun j s hj => by omega⟩⟩
  · rintro h ys ⟨rfl, i, r, rfl, hi, r0, r1, r2, r3⟩
    rw [t_szS_Person0]
    simp only [F_szS_Person_sz_Person, s_sz_Person, Tree.holds, ltI_t, ltI_f, leI_t, leI_f, all_cons, all_nil, and_true, true_and, forall_eq, decide_eq_true_eq, decide_eq_false_iff_not, beq_iff_eq, beq_eq_false_iff_ne, bne_iff_ne, bne_eq_false_iff_eq, ne_eq, Decidable.not_not, selI_z, selB_z, selS_z, selN_z, selL_z, selI_s, selB_s, selS_s, selN_s, selL_s, Int.toNat_natCast, Nat.mul_one, Nat.zero_add, Nat.div_one, List.drop_zero, Nat.zero_mul, Nat.le_refl, Bool.not_eq_true', Bool.not_eq_false', Bool.false_eq_true, Bool.true_eq_false, not_true_eq_false, not_false_eq_true, false_imp_iff, true_imp_iff, if_true, if_false, sig, sigF, sigW, sigR, sigO, sigD, sigWD, List.map_cons, List.map_nil, sel_kstr, sel_kint, sel_kbool]
    refine ⟨fun hj => ?_, fun hj => ⟨r, rfl, by omega, by omega, fun _ => ⟨by omega, fun j s hs => r3 j s (by
      have := (List.getElem?_eq_some_iff.mp hs).1
      have h2 : cs.length = n * 3 := hc.1
      have : n ≤ i := by omega
      have := Nat.mul_le_mul_right 3 this
      omega) hs⟩⟩⟩
    obtain ⟨_, y0, v0, rfl, z0⟩ := hc.get (i := i) (j := 0) (k := .str) (by omega) rfl
    have x0 : cs[i * 3]? = some (.str v0) := y0
    obtain ⟨_, y1, v1, rfl, z1⟩ := hc.get (i := i) (j := 1) (k := .int .i64) (by omega) rfl
    have x1 : cs[i * 3 + 1]? = some (.int .i64 v1) := y1
    obtain ⟨_, y2, v2, rfl⟩ := hc.get (i := i) (j := 2) (k := .bool) (by omega) rfl
    have x2 : cs[i * 3 + 2]? = some (.bool v2) := y2
    rw [selS_of x0, selI_of x1, selB_of x2]
    refine ⟨⟨by omega, by omega⟩, ⟨x0, x1, x2⟩, ⟨z0, by omega, by omega⟩, ?_⟩
    rintro ys ⟨q, rfl, q0, q1, q2⟩
    simp only [F_szS_Person_sz_Person, s_sz_Person, Tree.holds, ltI_t, ltI_f, leI_t, leI_f, all_cons, all_nil, and_true, true_and, forall_eq, decide_eq_true_eq, decide_eq_false_iff_not, beq_iff_eq, beq_eq_false_iff_ne, bne_iff_ne, bne_eq_false_iff_eq, ne_eq, Decidable.not_not, selI_z, selB_z, selS_z, selN_z, selL_z, selI_s, selB_s, selS_s, selN_s, selL_s, Int.toNat_natCast, Nat.mul_one, Nat.zero_add, Nat.div_one, List.drop_zero, Nat.zero_mul, Nat.le_refl, Bool.not_eq_true', Bool.not_eq_false', Bool.false_eq_true, Bool.true_eq_false, not_true_eq_false, not_false_eq_true, false_imp_iff, true_imp_iff, if_true, if_false, sig, sigF, sigW, sigR, sigO, sigD, sigWD, List.map_cons, List.map_nil]
    refine ⟨fun h => ⟨-1, rfl, by omega, by omega, fun h => by omega⟩, fun h => ⟨by unfold inK; omega, ⟨i + 1, q, rfl, by omega, by omega, by omega, by omega, fun j s' hj hs => ?_⟩, by omega⟩⟩
    have q2 := q2 (by omega)
    by_cases hjk : j < i * 3
    · exact r3 j s' hjk hs
    · have hj3 : j = i * 3 + 0 ∨ j = i * 3 + 1 ∨ j = i * 3 + 2 := by omega
      rcases hj3 with rfl | rfl | rfl
      · rw [show cs[i * 3 + 0]? = _ from x0] at hs; injection hs with hs; injection hs with hs; subst hs; have q3 : (v0.size : Int) ≤ r := q2; omega
      · rw [show cs[i * 3 + 1]? = _ from x1] at hs; injection hs with hs; cases hs
      · rw [show cs[i * 3 + 2]? = _ from x2] at hs; injection hs with hs; cases hs
theorem ok_eqS_Person : FnOk Try.prog 16 s_eqS_Person := by
  refine fnOk (fn := Try.f16) (F := F_eqS_Person) (hs := hs_eqS_Person) (tab_cons ok_eq_Person tab_nil) mixed rfl rfl rfl [.list 30, .list 30] (by kernel_rfl) (by simp) ?_
  rintro n cs n' cs' ⟨hc, hn, e1, e2⟩
  have f1 : n = n' := e1
  have f2 : cs = cs' := e2
  clear e1 e2
  subst f1
  subst f2
  have hc : okC [.str, .int .i64, .bool] n cs := hc
  have hn : n ≤ maxLen := hn
  unfold maxLen at hn
  refine ⟨fun h ys => h = 0 ∧ ∃ i : Nat, ys = [.list 30 n cs, .list 30 n cs, .int .i64 i] ∧ i ≤ n, fun h ys => n - (selI ys 2).toNat, ?_, ?_⟩
  · rw [t_eqS_Person]
    simp only [F_eqS_Person_eq_Person, s_eq_Person, Tree.holds, ltI_t, ltI_f, leI_t, leI_f, all_cons, all_nil, and_true, true_and, forall_eq, decide_eq_true_eq, decide_eq_false_iff_not, beq_iff_eq, beq_eq_false_iff_ne, bne_iff_ne, bne_eq_false_iff_eq, ne_eq, Decidable.not_not, selI_z, selB_z, selS_z, selN_z, selL_z, selI_s, selB_s, selS_s, selN_s, selL_s, Int.toNat_natCast, Nat.mul_one, Nat.zero_add, Nat.div_one, List.drop_zero, Nat.zero_mul, Nat.le_refl, Bool.not_eq_true', Bool.not_eq_false', Bool.false_eq_true, Bool.true_eq_false, not_true_eq_false, not_false_eq_true, false_imp_iff, true_imp_iff, if_true, if_false, sig, sigF, sigW, sigR, sigO, sigD, sigWD, List.map_cons, List.map_nil]
    exact ⟨0, rfl, by omega⟩
  · rintro h ys ⟨rfl, i, rfl, hi⟩
    rw [t_eqS_Person0]
    simp only [F_eqS_Person_eq_Person, s_eq_Person, Tree.holds, ltI_t, ltI_f, leI_t, leI_f, all_cons, all_nil, and_true, true_and, forall_eq, decide_eq_true_eq, decide_eq_false_iff_not, beq_iff_eq, beq_eq_false_iff_ne, bne_iff_ne, bne_eq_false_iff_eq, ne_eq, Decidable.not_not, selI_z, selB_z, selS_z, selN_z, selL_z, selI_s, selB_s, selS_s, selN_s, selL_s, Int.toNat_natCast, Nat.mul_one, Nat.zero_add, Nat.div_one, List.drop_zero, Nat.zero_mul, Nat.le_refl, Bool.not_eq_true', Bool.not_eq_false', Bool.false_eq_true, Bool.true_eq_false, not_true_eq_false, not_false_eq_true, false_imp_iff, true_imp_iff, if_true, if_false, sig, sigF, sigW, sigR, sigO, sigD, sigWD, List.map_cons, List.map_nil, sel_kstr, sel_kint, sel_kbool]
    refine ⟨fun hj => ?_, fun hj => trivial⟩
    obtain ⟨_, y0, v0, rfl, z0⟩ := hc.get (i := i) (j := 0) (k := .str) (by omega) rfl
    have x0 : cs[i * 3]? = some (.str v0) := y0
    obtain ⟨_, y1, v1, rfl, z1⟩ := hc.get (i := i) (j := 1) (k := .int .i64) (by omega) rfl
    have x1 : cs[i * 3 + 1]? = some (.int .i64 v1) := y1
    obtain ⟨_, y2, v2, rfl⟩ := hc.get (i := i) (j := 2) (k := .bool) (by omega) rfl
    have x2 : cs[i * 3 + 2]? = some (.bool v2) := y2
    rw [selS_of x0, selI_of x1, selB_of x2]
    exact ⟨⟨by omega, by omega⟩, ⟨x0, x1, x2⟩, ⟨by omega, by omega⟩, ⟨x0, x1, x2⟩, by unfold inK; omega, ⟨i + 1, rfl, by omega⟩, by omega⟩
theorem ok_markS_Person : FnOk Try.prog 22 s_markS_Person := by
  refine fnOkW (fn := Try.f22) (F := F_markS_Person) (hs := hs_markS_Person) (tab_cons ok_marktext tab_nil) mixed rfl rfl rfl [.list 30, .int .i64] [.int .i64] (by kernel_rfl) (by kernel_rfl) (by simp [hs_markS_Person, shapeW, lists]) ?_
  rintro n cs k ⟨hc, hk, hk2⟩
  have hc : okC [.str, .int .i64, .bool] n cs := hc
  have hk : 1 ≤ k := hk
  have hk2 : k + n * 3 ≤ 900000000000000 := hk2
  have hl : cs.length = n * 3 := hc.1
  obtain ⟨k, rfl⟩ : ∃ m : Nat, k = m := ⟨k.toNat, by omega⟩
  refine ⟨?_, fun h ys => h = 0 ∧ ∃ i : Nat, ys = [.int .i64 (0 : Nat), .int .i64 n, .int .i64 (k + (i * 3 : Nat) : Int), .int .i64 i, .list 30 0 (mks [.str, .int .i64, .bool] k (i * 3) ++ cs.drop (i * 3))] ∧ i ≤ n, fun h ys => n - (selI ys 3).toNat, ?_, ?_⟩
  · intro yz h
    rw [h]
    exact ⟨rfl, trivial⟩
  · rw [t_markS_Person]
    simp only [F_markS_Person_marktext, s_marktext, Tree.holds, ltI_t, ltI_f, leI_t, leI_f, all_cons, all_nil, and_true, true_and, forall_eq, decide_eq_true_eq, decide_eq_false_iff_not, beq_iff_eq, beq_eq_false_iff_ne, bne_iff_ne, bne_eq_false_iff_eq, ne_eq, Decidable.not_not, selI_z, selB_z, selS_z, selN_z, selL_z, selI_s, selB_s, selS_s, selN_s, selL_s, Int.toNat_natCast, Nat.mul_one, Nat.zero_add, Nat.div_one, List.drop_zero, Nat.zero_mul, Nat.le_refl, Bool.not_eq_true', Bool.not_eq_false', Bool.false_eq_true, Bool.true_eq_false, not_true_eq_false, not_false_eq_true, false_imp_iff, true_imp_iff, if_true, if_false, sig, sigF, sigW, sigR, sigO, sigD, sigWD, List.map_cons, List.map_nil]
    exact ⟨0, by simp [mks], by omega⟩
  · rintro h ys ⟨rfl, i, rfl, hi⟩
    rw [t_markS_Person0]
    simp only [F_markS_Person_marktext, s_marktext, Tree.holds, ltI_t, ltI_f, leI_t, leI_f, all_cons, all_nil, and_true, true_and, forall_eq, decide_eq_true_eq, decide_eq_false_iff_not, beq_iff_eq, beq_eq_false_iff_ne, bne_iff_ne, bne_eq_false_iff_eq, ne_eq, Decidable.not_not, selI_z, selB_z, selS_z, selN_z, selL_z, selI_s, selB_s, selS_s, selN_s, selL_s, Int.toNat_natCast, Nat.mul_one, Nat.zero_add, Nat.div_one, List.drop_zero, Nat.zero_mul, Nat.le_refl, Bool.not_eq_true', Bool.not_eq_false', Bool.false_eq_true, Bool.true_eq_false, not_true_eq_false, not_false_eq_true, false_imp_iff, true_imp_iff, if_true, if_false, sig, sigF, sigW, sigR, sigO, sigD, sigWD, List.map_cons, List.map_nil, sel_kstr, sel_kint, sel_kbool]
    have hlen : (mks [.str, .int .i64, .bool] k (i * 3) ++ cs.drop (i * 3)).length = n * 3 := by rw [List.length_append, mks_len, List.length_drop]; omega
    refine ⟨fun hj => ?_, fun hj => ?_⟩
    rw [mks_put (ks := [.str, .int .i64, .bool]) (p := i * 3) (i := i) (j := 0) (kd := .str) rfl rfl (by omega) (by show D.str (mtxt _) = .str (mtxt _); first | rfl | (congr 2 <;> omega))]
    rw [mks_put (ks := [.str, .int .i64, .bool]) (p := i * 3 + 1) (i := i) (j := 1) (kd := .int .i64) rfl rfl (by omega) (by show D.int _ _ = .int _ _; first | rfl | (congr 1 <;> omega))]
    rw [mks_put (ks := [.str, .int .i64, .bool]) (p := i * 3 + 1 + 1) (i := i) (j := 2) (kd := .bool) rfl rfl (by omega) (by show D.bool (Int.tmod _ 3 == 0) = .bool (Int.tmod _ 3 == 0); first | rfl | (congr 3 <;> omega))]
    refine ⟨⟨by omega, by omega⟩, ⟨by omega, by omega⟩, mks_room (by omega) (by omega), by unfold inK; omega, ⟨by omega, by omega⟩, mks_room (by omega) (by omega), by unfold inK; omega, by omega, ⟨by omega, by omega⟩, mks_room (by omega) (by omega), by unfold inK; omega, by unfold inK; omega, ⟨i + 1, ?_, by omega⟩, by omega⟩
    rw [show (i + 1) * 3 = i * 3 + 1 + 1 + 1 by omega]
    simp
    omega
    obtain rfl : i = n := by omega
    rw [List.drop_of_length_le (by omega), List.append_nil]
    exact ⟨⟨by rw [mks_len]; omega, mks_scal rfl _ _⟩, by rw [mks_len]; simp⟩
theorem ok_heldS_Person : FnOk Try.prog 23 s_heldS_Person := by
  refine fnOk (fn := Try.f23) (F := F_heldS_Person) (hs := hs_heldS_Person) (tab_cons ok_marktext tab_nil) mixed rfl rfl rfl [.list 30, .int .i64] (by kernel_rfl) (by simp) ?_
  rintro n cs k ⟨hc, hk, hk2⟩
  have hc : cs = mks [.str, .int .i64, .bool] k.toNat (n * 3) := hc
  have hk : 1 ≤ k := hk
  have hk2 : k + n * 3 ≤ 900000000000000 := hk2
  obtain ⟨k, rfl⟩ : ∃ m : Nat, k = m := ⟨k.toNat, by omega⟩
  have hc : cs = mks [.str, .int .i64, .bool] k (n * 3) := hc
  refine ⟨fun h ys => h = 0 ∧ ∃ i : Nat, ys = [.list 30 n cs, .int .i64 (k + (i * 3 : Nat) : Int), .int .i64 i] ∧ i ≤ n, fun h ys => n - (selI ys 2).toNat, ?_, ?_⟩
  · rw [t_heldS_Person]
    simp only [F_heldS_Person_marktext, s_marktext, Tree.holds, ltI_t, ltI_f, leI_t, leI_f, all_cons, all_nil, and_true, true_and, forall_eq, decide_eq_true_eq, decide_eq_false_iff_not, beq_iff_eq, beq_eq_false_iff_ne, bne_iff_ne, bne_eq_false_iff_eq, ne_eq, Decidable.not_not, selI_z, selB_z, selS_z, selN_z, selL_z, selI_s, selB_s, selS_s, selN_s, selL_s, Int.toNat_natCast, Nat.mul_one, Nat.zero_add, Nat.div_one, List.drop_zero, Nat.zero_mul, Nat.le_refl, Bool.not_eq_true', Bool.not_eq_false', Bool.false_eq_true, Bool.true_eq_false, not_true_eq_false, not_false_eq_true, false_imp_iff, true_imp_iff, if_true, if_false, sig, sigF, sigW, sigR, sigO, sigD, sigWD, List.map_cons, List.map_nil]
    exact ⟨0, by simp, by omega⟩
  · rintro h ys ⟨rfl, i, rfl, hi⟩
    rw [t_heldS_Person0]
    simp only [F_heldS_Person_marktext, s_marktext, Tree.holds, ltI_t, ltI_f, leI_t, leI_f, all_cons, all_nil, and_true, true_and, forall_eq, decide_eq_true_eq, decide_eq_false_iff_not, beq_iff_eq, beq_eq_false_iff_ne, bne_iff_ne, bne_eq_false_iff_eq, ne_eq, Decidable.not_not, selI_z, selB_z, selS_z, selN_z, selL_z, selI_s, selB_s, selS_s, selN_s, selL_s, Int.toNat_natCast, Nat.mul_one, Nat.zero_add, Nat.div_one, List.drop_zero, Nat.zero_mul, Nat.le_refl, Bool.not_eq_true', Bool.not_eq_false', Bool.false_eq_true, Bool.true_eq_false, not_true_eq_false, not_false_eq_true, false_imp_iff, true_imp_iff, if_true, if_false, sig, sigF, sigW, sigR, sigO, sigD, sigWD, List.map_cons, List.map_nil, sel_kstr, sel_kint, sel_kbool]
    refine ⟨fun hj => ?_, fun hj => by rw [show i = n by omega]; simp⟩
    have x0 : cs[i * 3]? = some (mkD (.str) (k + (i * 3 + 0))) := by rw [hc]; exact mks_get (ks := [.str, .int .i64, .bool]) (k := k) (n := n) (i := i) (j := 0) (kd := .str) (by omega) rfl
    have x1 : cs[i * 3 + 1]? = some (mkD (.int .i64) (k + (i * 3 + 1))) := by rw [hc]; exact mks_get (ks := [.str, .int .i64, .bool]) (k := k) (n := n) (i := i) (j := 1) (kd := .int .i64) (by omega) rfl
    have x2 : cs[i * 3 + 2]? = some (mkD (.bool) (k + (i * 3 + 2))) := by rw [hc]; exact mks_get (ks := [.str, .int .i64, .bool]) (k := k) (n := n) (i := i) (j := 2) (kd := .bool) (by omega) rfl
    unfold mkD at x0 x1 x2
    rw [selS_of x0, selI_of x1, selB_of x2]
    refine ⟨⟨by omega, by omega⟩, x0, ⟨by omega, by omega⟩, fun h => absurd (by first | rfl | (congr 2 <;> omega)) h, fun _ => ⟨by unfold inK; omega, ⟨by omega, by omega⟩, x1, fun h => absurd (by omega) h, fun _ => ⟨by unfold inK; omega, ⟨by omega, by omega⟩, x2, by omega, fun h => absurd (by first | rfl | (congr 2 <;> omega)) h, fun _ => ⟨by unfold inK; omega, by unfold inK; omega, ⟨i + 1, ?_, by omega⟩, by omega⟩⟩⟩⟩
    rw [show (i + 1) * 3 = i * 3 + 1 + 1 + 1 by omega]
    simp
    omega
end Go.Proofs.Ytdhjfbnlkecggaa.Mini
end
