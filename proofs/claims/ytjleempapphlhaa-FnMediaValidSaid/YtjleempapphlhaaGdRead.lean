/- Parts of the proof: Read. -/
import Derived.Test.YtjleempapphlhaaGdAlive
import Derived.Test.YtjleempapphlhaaGdHelp
section
namespace Go.Proofs.Ytjleempapphlhaa
open Go.RowKit
set_option linter.unusedVariables false
set_option maxRecDepth 20000
set_option maxHeartbeats 1000000 in
theorem pick_ex (w : World) (g o t len cap p : Nat) (ao : Option Addr) (arr : Array Value) (n : Int) (hg : w.heap[g]? = some (.cells arr t (0, 0))) (h0 : arr[o]? = some (.slice ao len cap)) (h1 : arr[o + 1]? = some (.int .i64 (p : Int))) (hp : p ≤ 1000000) (hlen : len ≤ 2000)
    (hb : len = 0 ∨ ∃ b off, ao = some ⟨b, off, none⟩ ∧ b ≠ g ∧ ∀ i, i < len → ∃ z : Int, 0 ≤ z ∧ z ≤ 255 ∧ w.cell? ⟨b, off + i, none⟩ = some (.int .u8 z)) (hn : 1 ≤ n) (hn2 : n ≤ 2147483647) :
    Calls Try.prog 53 #[.pointer (some ⟨g, o, none⟩), .int .i64 n] w fun e w' => ∃ x : Int, 0 ≤ x ∧ x < n ∧ e = .returned (.int .i64 x) ∧ w'.heap[g]? = some (.cells (arr.setIfInBounds (o + 1) (.int .i64 ((p : Int) + 1))) t (0, 0)) ∧ w.grownBy w' (some g) := by
  have c0 : w.cell? ⟨g, o, none⟩ = some (.slice ao len cap) := by simp [World.cell?, hg, h0]
  have c1 : w.cell? ⟨g, o + 1, none⟩ = some (.int .i64 (p : Int)) := by simp [World.cell?, hg, h1]
  have f1 : w.frozen? ⟨g, o + 1, none⟩ = false := by simp [World.frozen?, hg]
  have hpb : (p : Int) ≤ 1000000 := by omega
  have hgrow : w.grownBy (w.setCell ⟨g, o + 1, none⟩ (.int .i64 ((p : Int) + 1))) (some g) :=
    ⟨rfl, rfl, rfl, by simp [World.setCell], fun k hk hne => Below.heap_setCell w _ _ k (fun e => hne (by rw [e]))⟩
  have HR : Hid ((w.setCell ⟨g, o + 1, none⟩ (.int .i64 ((p : Int) + 1))).heap[g]? = some (.cells (arr.setIfInBounds (o + 1) (.int .i64 ((p : Int) + 1))) t (0, 0))) := Lib.hid (Joins.block_setCell hg _)
  have HW := Lib.hid hgrow
  clear hgrow hg h0 h1
  by_cases h0 : len = 0
  · subst h0
    go_enter Try.func53, Try.ntmps53
    go_wp2
    go_ret
    exact ⟨0, by omega, by omega, rfl, HR.out, HW.out⟩
  · have hl0 : ((len : Int) == 0) = false := beq_eq_false_iff_ne.mpr (by omega)
    have hl1 : (0 : Int) < len := by omega
    have hlen' : (len : Int) ≤ 2000 := by omega
    obtain ⟨b, off, rfl, hbg, hcell⟩ := hb.resolve_left h0
    have HC : Hid (∀ i, i < len → ∃ z : Int, 0 ≤ z ∧ z ≤ 255 ∧ (w.setCell ⟨g, o + 1, none⟩ (.int .i64 ((p : Int) + 1))).cell? ⟨b, off + i, none⟩ = some (.int .u8 z)) := by
      intro i hi
      obtain ⟨z, z0, z1, hz⟩ := hcell i hi
      exact ⟨z, z0, z1, by rw [World.cell?_of_block (w := w) (HW.out.block b (by
        have := block_lt_of_cell hz
        exact this) (by intro e; injection e with e; exact hbg e)), hz]⟩
    clear hcell hb
    by_cases hk : p < len
    · obtain ⟨z, z0, z1, hz⟩ := HC.out p hk
      go_enter Try.func53, Try.ntmps53
      go_wp2
      go_ret
      refine ⟨_, ?_, ?_, rfl, HR.out, HW.out⟩
      · first | exact (tmod_ok z n z0 hn).1 | exact Int.emod_nonneg _ (by omega)
      · first | exact (tmod_ok z n z0 hn).2 | exact Int.emod_lt_of_pos _ (by omega)
    · obtain ⟨z, z0, z1, hz⟩ := HC.out (p % len) (Nat.mod_lt _ (by omega))
      obtain ⟨y, y0, y1, hy⟩ := HC.out ((p * 7 + 3) % len) (Nat.mod_lt _ (by omega))
      have e1 : (((p % len : Nat)) : Int) = (p : Int) % len := by simp
      have e2 : ((((p * 7 + 3) % len : Nat)) : Int) = ((p : Int) * 7 + 3) % len := by simp
      have b1 : 0 ≤ (p : Int) % len := Int.emod_nonneg _ (by omega)
      have b2 : (p : Int) % len < len := Int.emod_lt_of_pos _ hl1
      have b3 : 0 ≤ ((p : Int) * 7 + 3) % len := Int.emod_nonneg _ (by omega)
      have b4 : ((p : Int) * 7 + 3) % len < len := Int.emod_lt_of_pos _ hl1
      have d0 : 0 ≤ (p : Int) / len := Int.ediv_nonneg (by omega) (by omega)
      have d1 : (p : Int) / len ≤ 1000000 := Int.le_trans (Int.ediv_le_self _ (by omega)) hpb
      have HE1 := Lib.hid e1
      have HE2 := Lib.hid e2
      clear e1 e2
      go_enter Try.func53, Try.ntmps53
      go_wp2
      go_quiet (fail)
      go_wp2
      go_ret
      refine ⟨_, ?_, ?_, rfl, HR.out, ⟨HW.out.os, HW.out.tape, HW.out.output, HW.out.size, HW.out.block⟩⟩
      · exact (tmod_ok _ n (xor_nonneg _ _ (by omega) (by omega) (by omega) (by omega)) hn).1
      · exact (tmod_ok _ n (xor_nonneg _ _ (by omega) (by omega) (by omega) (by omega)) hn).2
set_option maxHeartbeats 1000000 in
theorem open_ex (w : World) (ao : Option Addr) (len cap : Nat) (hlc : len ≤ cap) :
    Calls Try.prog 40 #[.slice ao len cap] w fun e w' => ∃ m, m ≤ 2000 ∧ m ≤ len ∧ e = .returned (.pointer (some ⟨w.heap.size, 0, none⟩)) ∧ w' = w.alloc (.cells #[.slice ao m cap, .int .i64 0] 69) := by
  by_cases h : 2000 < len
  · go_enter Try.func40, Try.ntmps40
    go_wp2
    go_ret
    exact ⟨2000, by omega, by omega, rfl, rfl⟩
  · go_enter Try.func40, Try.ntmps40
    go_wp2
    go_ret
    exact ⟨len, by omega, by omega, rfl, rfl⟩
end Go.Proofs.Ytjleempapphlhaa
end
