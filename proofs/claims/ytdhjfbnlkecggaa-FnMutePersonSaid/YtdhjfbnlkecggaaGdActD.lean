/- Parts of the proof: ActD. -/
import Derived.Test.YtdhjfbnlkecggaaGdActM
import Derived.Test.YtdhjfbnlkecggaaGdRosDP
section
namespace Go.Proofs.Ytdhjfbnlkecggaa.Mini
open Go Go.RowKit
set_option linter.unusedVariables false
set_option linter.unusedSimpArgs false
set_option maxRecDepth 20000
noncomputable def s_dma : Sig := sigF Try.f9 (bytesD 5) (fun xs ys => ∃ (l : List Per) (a : ByteArray) (d : Int) (b : ByteArray), ys = [.list 30 l.length (rosD l), .str a, .int .i64 d, .str b] ∧ drR l ∧ a.size ≤ 20 ∧ b.size ≤ 20 ∧ -1 ≤ d ∧ d ≤ 4)
noncomputable def s_dmp : Sig := sigF Try.f17 (bytesD 5) (fun xs ys => ∃ (l : List Per) (a b : ByteArray) (m : Bool), ys = [.list 30 l.length (rosD l), .str a, .str b, .bool m] ∧ drR l ∧ a.size ≤ 20 ∧ b.size ≤ 20)
noncomputable def s_drp : Sig := sigF Try.f24 (bytesD 5) (fun xs ys => ∃ (l : List Per) (a b : ByteArray) (d : Int), ys = [.list 30 l.length (rosD l), .str a, .str b, .int .i64 d] ∧ drR l ∧ a.size ≤ 20 ∧ b.size ≤ 20 ∧ -1 ≤ d ∧ d ≤ 4)
noncomputable def F_dma : Tb := tab [(27, s_dopen), (28, s_droster), (29, s_dwordn), (30, s_dpick)]
theorem F_dma_dopen : F_dma 27 = some s_dopen := rfl
theorem F_dma_droster : F_dma 28 = some s_droster := rfl
theorem F_dma_dwordn : F_dma 29 = some s_dwordn := rfl
theorem F_dma_dpick : F_dma 30 = some s_dpick := rfl
noncomputable def hs_dma : Hds := []
set_option maxHeartbeats 4000000 in
theorem t_dma (a0n : Nat) (a0 : List D) : fnT' Try.prog F_dma hs_dma .fz Try.f9 [.list 5 a0n a0] = (Tree.call 27 [(D.list 5 a0n a0)] (fun y199 => (Tree.call 28 [(D.list 0 (0 : Nat) (selL y199 0)), (D.int .i64 (12 : Int))] (fun y198 => (Tree.call 29 [(D.list 0 (0 : Nat) (selL y198 0)), (D.int .i64 (0 : Int))] (fun y197 => (Tree.call 29 [(D.list 0 (0 : Nat) (selL y197 0)), (D.int .i64 (0 : Int))] (fun y196 => (Tree.ite (ltI (0 : Int) (Nat.cast (selN y198 1) : Int)) (Tree.call 30 [(D.list 0 (0 : Nat) (selL y196 0)), (D.int .i64 (4 : Int))] (fun y194 => (Tree.ite (ltI (0 : Int) (selI y194 1)) (Tree.call 30 [(D.list 0 (0 : Nat) (selL y194 0)), (D.int .i64 (Nat.cast (selN y198 1) : Int))] (fun y192 => (Tree.need (all_ [(((0 : Int) ≤ (selI y192 1)) ∧ ((selI y192 1) < (Nat.cast (selN y198 1) : Int)))]) (Tree.need (all_ [((GetElem?.getElem? (selL y198 1) (((0 : Nat) + (Int.toNat (selI y192 1))) * (3 : Nat))) = (Option.some (sel (selL y198 1) (((0 : Nat) + (Int.toNat (selI y192 1))) * (3 : Nat)) Kd.str)))]) (Tree.call 30 [(D.list 0 (0 : Nat) (selL y192 0)), (D.int .i64 (Nat.cast (selN y198 1) : Int))] (fun y189 => (Tree.need (all_ [(((0 : Int) ≤ (selI y189 1)) ∧ ((selI y189 1) < (Nat.cast (selN y198 1) : Int)))]) (Tree.need (all_ [((GetElem?.getElem? (selL y198 1) (((0 : Nat) + (Int.toNat (selI y189 1))) * (3 : Nat))) = (Option.some (sel (selL y198 1) (((0 : Nat) + (Int.toNat (selI y189 1))) * (3 : Nat)) Kd.str)))]) (Tree.call 30 [(D.list 0 (0 : Nat) (selL y189 0)), (D.int .i64 (5 : Int))] (fun y186 => (Tree.call 30 [(D.list 0 (0 : Nat) (selL y186 0)), (D.int .i64 (14 : Int))] (fun y185 => (Tree.need (all_ [((13 : Int) ≠ (0 : Int)), (inK .i64 (Int.tdiv (selI y185 1) (13 : Int)))]) (Tree.need (all_ [(inK .i64 ((selI y186 1) - (Int.tdiv (selI y185 1) (13 : Int))))]) (Tree.need (all_ [((((0 : Nat) + (selN y198 1)) * (3 : Nat)) ≤ (List.length (selL y198 1)))]) (Tree.ret [(D.list 30 (selN y198 1) (List.take ((selN y198 1) * (3 : Nat)) (List.drop ((0 : Nat) * (3 : Nat)) (selL y198 1)))), (D.str (selS (selL y198 1) (((0 : Nat) + (Int.toNat (selI y192 1))) * (3 : Nat)))), (D.int .i64 ((selI y186 1) - (Int.tdiv (selI y185 1) (13 : Int)))), (D.str (selS (selL y198 1) (((0 : Nat) + (Int.toNat (selI y189 1))) * (3 : Nat))))])))))))))))))))) (Tree.call 30 [(D.list 0 (0 : Nat) (selL y194 0)), (D.int .i64 (5 : Int))] (fun y192 => (Tree.call 30 [(D.list 0 (0 : Nat) (selL y192 0)), (D.int .i64 (14 : Int))] (fun y191 => (Tree.need (all_ [((13 : Int) ≠ (0 : Int)), (inK .i64 (Int.tdiv (selI y191 1) (13 : Int)))]) (Tree.need (all_ [(inK .i64 ((selI y192 1) - (Int.tdiv (selI y191 1) (13 : Int))))]) (Tree.need (all_ [((((0 : Nat) + (selN y198 1)) * (3 : Nat)) ≤ (List.length (selL y198 1)))]) (Tree.ret [(D.list 30 (selN y198 1) (List.take ((selN y198 1) * (3 : Nat)) (List.drop ((0 : Nat) * (3 : Nat)) (selL y198 1)))), (D.str (selS y197 1)), (D.int .i64 ((selI y192 1) - (Int.tdiv (selI y191 1) (13 : Int)))), (D.str (selS y196 1))]))))))))))) (Tree.call 30 [(D.list 0 (0 : Nat) (selL y196 0)), (D.int .i64 (5 : Int))] (fun y194 => (Tree.call 30 [(D.list 0 (0 : Nat) (selL y194 0)), (D.int .i64 (14 : Int))] (fun y193 => (Tree.need (all_ [((13 : Int) ≠ (0 : Int)), (inK .i64 (Int.tdiv (selI y193 1) (13 : Int)))]) (Tree.need (all_ [(inK .i64 ((selI y194 1) - (Int.tdiv (selI y193 1) (13 : Int))))]) (Tree.need (all_ [((((0 : Nat) + (selN y198 1)) * (3 : Nat)) ≤ (List.length (selL y198 1)))]) (Tree.ret [(D.list 30 (selN y198 1) (List.take ((selN y198 1) * (3 : Nat)) (List.drop ((0 : Nat) * (3 : Nat)) (selL y198 1)))), (D.str (selS y197 1)), (D.int .i64 ((selI y194 1) - (Int.tdiv (selI y193 1) (13 : Int)))), (D.str (selS y196 1))]))))))))))))))))) := by kernel_rfl
noncomputable def F_dmp : Tb := tab [(9, s_dma)]
theorem F_dmp_dma : F_dmp 9 = some s_dma := rfl
noncomputable def hs_dmp : Hds := []
set_option maxHeartbeats 4000000 in
theorem t_dmp (a0n : Nat) (a0 : List D) : fnT' Try.prog F_dmp hs_dmp .fz Try.f17 [.list 5 a0n a0] = (Tree.call 9 [(D.list 5 a0n a0)] (fun y199 => (Tree.need (all_ [((2 : Int) ≠ (0 : Int))]) (Tree.ret [(D.list 30 (selN y199 0) (selL y199 0)), (D.str (selS y199 1)), (D.str (selS y199 3)), (D.bool ((Int.tmod (selI y199 2) (2 : Int)) == (0 : Int)))])))) := by kernel_rfl
noncomputable def F_drp : Tb := tab [(9, s_dma)]
theorem F_drp_dma : F_drp 9 = some s_dma := rfl
noncomputable def hs_drp : Hds := []
set_option maxHeartbeats 4000000 in
theorem t_drp (a0n : Nat) (a0 : List D) : fnT' Try.prog F_drp hs_drp .fz Try.f24 [.list 5 a0n a0] = (Tree.call 9 [(D.list 5 a0n a0)] (fun y199 => (Tree.ret [(D.list 30 (selN y199 0) (selL y199 0)), (D.str (selS y199 1)), (D.str (selS y199 3)), (D.int .i64 (selI y199 2))]))) := by kernel_rfl
end Go.Proofs.Ytdhjfbnlkecggaa.Mini
end
