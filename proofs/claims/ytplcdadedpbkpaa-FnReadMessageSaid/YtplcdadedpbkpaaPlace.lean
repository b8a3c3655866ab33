/- The place of a byte in a text: the program's placeOf. -/
import Derived.Test.YtplcdadedpbkpaaGa
import Derived.Test.YtplcdadedpbkpaaSplit
namespace Go.Proofs.Ytplcdadedpbkpaa
open Go.RowKit
set_option linter.unusedVariables false
set_option maxRecDepth 20000

/-- The place of the first byte c; the length, if there is none. -/
def plL (c : UInt8) (l : List UInt8) : Nat := l.findIdx (· == c)
theorem pl_hit (c : UInt8) (s : ByteArray) (k : Nat) (hk : k < s.size) (h : k ≤ plL c s.data.toList) (h1 : s[k] = c) : plL c s.data.toList = k := by
  have hk' : k < s.data.toList.length := by simpa using hk
  have : ¬ k < plL c s.data.toList := by
    intro hlt
    have := List.not_of_lt_findIdx hlt
    have e : s.data.toList[k] = s[k] := rfl
    rw [e, h1, beq_self_eq_true] at this
    cases this
  omega
theorem pl_miss (c : UInt8) (s : ByteArray) (k : Nat) (hk : k < s.size) (h : k ≤ plL c s.data.toList) (h1 : s[k] ≠ c) : k + 1 ≤ plL c s.data.toList := by
  have hk' : k < s.data.toList.length := by simpa using hk
  rcases Nat.lt_or_ge k (plL c s.data.toList) with h2 | h2
  · exact h2
  · exfalso
    have e : plL c s.data.toList = k := by omega
    have h3 : List.findIdx (· == c) s.data.toList < s.data.toList.length := by unfold plL at e; omega
    have := List.findIdx_getElem (w := h3)
    have e2 : s.data.toList[k] = s[k] := rfl
    unfold plL at e
    simp only [e] at this
    rw [e2] at this
    exact h1 (eq_of_beq this)
theorem u8i_ne {a c : UInt8} (h : a ≠ c) : ((a.toNat : Int) == (c.toNat : Int)) = false := by
  rw [beq_eq_false_iff_ne]; intro e
  exact h (UInt8.toNat_inj.mp (by omega))
theorem u8i_eq {a c : UInt8} (h : a = c) : ((a.toNat : Int) == (c.toNat : Int)) = true := by subst h; simp
def plI (c : UInt8) (s : ByteArray) : Int := if plL c s.data.toList < s.size then (plL c s.data.toList : Int) else -1
set_option maxHeartbeats 400000 in
theorem ipl_any (c : UInt8) (s : ByteArray) (w : World) (hs : s.size ≤ maxLen) :
    Calls Try.prog 38 #[.string s, .int .u8 (c.toNat : Int)] w fun e w' => e = .returned (.int .i64 (plI c s)) ∧ w = w' := by
  unfold maxLen at hs
  go_enter Try.func38, Try.ntmps38
  go_wp2
  go_loop [5] (fun i => ∃ k : Nat, k ≤ s.size ∧ i = .int .i64 k ∧ k ≤ plL c s.data.toList) (fun i => s.size - (intOf i).toNat)
  case atStart => exact ⟨0, Nat.zero_le _, rfl, Nat.zero_le _⟩
  case round =>
    obtain ⟨k, hk, rfl, hat⟩ := hrel
    have HA := Lib.hid hat
    clear hat
    by_cases hlt : k < s.size
    · by_cases h3 : s[k] = c
      · have HE := Lib.hid (pl_hit c s k hlt HA.out h3)
        have h4 := u8i_eq h3
        clear h3
        go_wp2
        go_ret
        refine ⟨ret_int ?_, rfl⟩
        unfold plI; rw [HE.out, if_pos hlt]
      · have HE := Lib.hid (pl_miss c s k hlt HA.out h3)
        have h4 := u8i_ne h3
        clear h3
        go_wp2
        go_round
        case rel => exact ⟨k + 1, by omega, by go_num, HE.out⟩
        case measure => simp [intOf]; omega
    · go_wp2
      go_ret
      refine ⟨ret_int ?_, rfl⟩
      have := HA.out
      unfold plI; rw [if_neg (by omega)]
theorem isp_yes (s : ByteArray) (k : Nat) (w : World) (hs : s.size ≤ maxLen) (h : spL s.data.toList = k) (hk : k < s.size) :
    Calls Try.prog 38 #[.string s, .int .u8 32] w fun e w' => e = .returned (.int .i64 (k : Int)) ∧ w = w' := by
  have := ipl_any 32 s w hs
  unfold plI plL at this; unfold spL at h; rw [h, if_pos hk] at this; exact this
theorem isp_no (s : ByteArray) (w : World) (hs : s.size ≤ maxLen) (hk : ¬ spL s.data.toList < s.size) :
    Calls Try.prog 38 #[.string s, .int .u8 32] w fun e w' => e = .returned (.int .i64 (-1)) ∧ w = w' := by
  have := ipl_any 32 s w hs
  unfold plI plL at this; unfold spL at hk; rw [if_neg hk] at this; exact this
end Go.Proofs.Ytplcdadedpbkpaa
