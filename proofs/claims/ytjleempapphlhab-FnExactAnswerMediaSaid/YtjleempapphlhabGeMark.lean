/- Parts of the proof: Mark. -/
import Derived.WalkKit
import Derived.WalkSpells
import Derived.LoopTactic
import Derived.Lib.Hide
import Derived.Test.YtjleempapphlhabGeBase
import Derived.Test.YtjleempapphlhabGeWorld
section
namespace Go.Proofs.Ytjleempapphlhab
open Go.RowKit
set_option maxRecDepth 20000
set_option linter.unusedVariables false
/-- The text of a mark. -/
def mtxt (k : Nat) : ByteArray := ⟨(109 :: preT k).toArray⟩
theorem preT_len (k : Nat) (h : k < 1000000000000000) : (preT k).length ≤ 15 := by
  unfold preT
  split
  · simp
  · exact numT_len 14 k (by omega)
set_option maxHeartbeats 1000000 in
theorem mark_any (k : Nat) (w : World) (h : 1 ≤ k) (h2 : k < 1000000000000000) :
    Calls Try.prog 52 #[.int .i64 (k : Int)] w fun e w' => e = .returned (.string (mtxt k)) ∧ Below w.heap.size w w' := by
  have kone := run_one
  have h0 : ¬ (k : Int) ≤ 0 := by omega
  go_enter Try.func52, Try.ntmps52
  go_wp2
  go_loopw [0, 3] (fun i t wr => ∃ r : Nat, ∃ b : ByteArray, r ≤ k ∧ i = .int .i64 r ∧ t = .string b ∧ preT r ++ b.data.toList = preT k ∧ Below w.heap.size w wr) (fun i _ _ => (intOf i).toNat)
  case atStart => exact ⟨k, _, Nat.le_refl _, rfl, rfl, List.append_nil _, Below.refl _ _⟩
  case round =>
    obtain ⟨r, b, hr, rfl, rfl, hp, hbel⟩ := hrel
    have hb : b.size ≤ 15 := by
      have h7 := preT_len k h2
      have hq := congrArg List.length hp
      rw [List.length_append] at hq
      have : b.data.toList.length = b.size := by simp
      omega
    have HP := Lib.hid hp
    clear hp
    have HB := Lib.hid hbel
    clear hbel
    by_cases h3 : 0 < r
    · go_wp2
      go_roundw
      case rel =>
        refine ⟨r / 10, _, by omega, by go_num, rfl, ?_, ?_⟩
        · rw [cat_list, ← HP.out, ← rest_step r h3, ← dg_int r]
        · exact HB.out.alloc HB.out.size _
      case measure => simp [intOf] <;> omega
    · go_wp2
      go_ret
      refine ⟨ret_str (str_of ?_), HB.out⟩
      have := HP.out
      rw [show r = 0 by omega] at this
      rw [cat_list]
      show [109] ++ b.data.toList = 109 :: preT k
      rw [← this]; rfl
theorem mark_int (z : Int) (k : Nat) (w : World) (hz : z = k) (h : 1 ≤ k) (h2 : k < 1000000000000000) :
    Calls Try.prog 52 #[.int .i64 z] w fun e w' => e = .returned (.string (mtxt k)) ∧ Below w.heap.size w w' := by
  subst hz; exact mark_any k w h h2
end Go.Proofs.Ytjleempapphlhab
end
