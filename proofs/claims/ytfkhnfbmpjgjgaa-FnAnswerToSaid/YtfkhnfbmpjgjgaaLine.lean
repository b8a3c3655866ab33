/- The contracts of LineValid. -/
import Derived.Test.YtfkhnfbmpjgjgaaTexts
import Derived.OwnWalk
import Derived.Lib.SlBytesConst
import Derived.Outline
namespace Go.Proofs.Ytfkhnfbmpjgjgaa
open Go.RowKit
set_option linter.unusedVariables false

/-! ### Lines -/
set_option maxHeartbeats 400000 in
theorem iline_any (s : ByteArray) (w : World) (hs : s.size ≤ maxLen) :
    Calls Try.prog 78 #[.string s] w fun e w' => e = .returned (.bool (lineB s.data.toList)) ∧ w = w' := by
  unfold maxLen at hs
  have hl : s.data.toList.length = s.size := by simp
  by_cases h1 : 60 < s.size
  · go_enter Try.func78, Try.ntmps78
    go_wp2
    go_ret
    exact ⟨ret_bool (by unfold lineB; rw [decide_eq_false (by omega)]; rfl), rfl⟩
  have HL := Lib.hid hl
  clear hl
  go_enter Try.func78, Try.ntmps78
  go_wp2
  go_loop [3] (fun i => ∃ k : Nat, k ≤ s.size ∧ i = .int .i64 k ∧ (s.data.toList.take k).all isLn = true) (fun i => s.size - (intOf i).toNat)
  case atStart => exact ⟨0, Nat.zero_le _, rfl, rfl⟩
  case round =>
    obtain ⟨k, hk, rfl, hall⟩ := hrel
    have HA := Lib.hid hall
    clear hall
    by_cases hlt : k < s.size
    · have HS := Lib.hid (all_snoc isLn s k hlt)
      by_cases h3 : isLn s[k] = true
      · have HE := Lib.hid h3
        have hkd := kind_ln h3
        go_wp2_with (go_at_call 79; refine (bk_ln _ _ h3).mono ?_; rintro e w' ⟨⟨kk, hq, rfl⟩, rfl⟩)
        go_round
        case rel => exact ⟨k + 1, by omega, by go_num, by rw [HS.out, HA.out, HE.out]; rfl⟩
        case measure => simp [intOf]; omega
      · have h3 : isLn s[k] = false := by simpa using h3
        have HE : Hid (s.data.toList.all isLn = false) := all_not isLn s k hlt h3
        go_wp2_with (go_at_call 79; refine (bk_nl _ _ h3).mono ?_; rintro e w' ⟨rfl, rfl⟩)
        go_ret
        exact ⟨ret_bool (by unfold lineB; rw [HE.out]; simp), rfl⟩
    · have hAll : Hid (s.data.toList.all isLn = true) := by
        have := HA.out
        rw [List.take_of_length_le (by simp; omega)] at this; exact this
      clear HA
      by_cases h0 : s.size = 0
      · go_wp2
        go_ret
        refine ⟨ret_bool ?_, rfl⟩
        unfold lineB
        rw [hAll.out, List.eq_nil_of_length_eq_zero (HL.out.trans h0)]
        rfl
      · have hp : 0 < s.size := by omega
        have hh := Lib.hid (head_at s hp)
        have hla := Lib.hid (last_at s hp)
        have HZ := Lib.hid h0
        have hb0 : ((s.size : Int) == 0) = false := beq_eq_false_iff_ne.mpr (by omega)
        clear h0
        go_wp2
        all_goals
          go_ret
          refine ⟨ret_bool ?_, rfl⟩
          unfold lineB
          rw [hAll.out, hh.out, hla.out, decide_eq_true (p := s.data.toList.length ≤ 60) (by have := HL.out; omega), show s.data.toList.isEmpty = false by rw [List.isEmpty_eq_false_iff]; intro e; have := HL.out; rw [e] at this; exact HZ.out this.symm]
          rw [Bool.eq_iff_iff]
          simp
          try omega

set_option maxHeartbeats 400000 in
theorem sline_any (s : ByteArray) (w : World) (hs : s.size ≤ maxLen) :
    Calls Try.prog 44 #[.string s] w fun e w' => e = .returned (.bool (lineB s.data.toList)) ∧ w = w' := by
  unfold maxLen at hs
  have HL := Lib.hid (show s.data.toList.length = s.size by simp)
  go_enter Try.func44, Try.ntmps44
  go_wp2
  go_loop [3] (fun i => ∃ k : Nat, k ≤ s.size ∧ i = .int .i64 k ∧ (s.data.toList.take k).all isLn = true) (fun i => s.size - (intOf i).toNat)
  case atStart => exact ⟨0, Nat.zero_le _, rfl, rfl⟩
  case round =>
    obtain ⟨k, hk, rfl, hall⟩ := hrel
    have HA := Lib.hid hall
    clear hall
    by_cases hlt : k < s.size
    · have HS := Lib.hid (all_snoc isLn s k hlt)
      by_cases h3 : isLn s[k] = true
      · have HE := Lib.hid h3
        have h4 := of_decide_eq_true h3
        clear h3
        go_wp2
        go_round
        case rel => exact ⟨k + 1, by omega, by go_num, by rw [HS.out, HA.out, HE.out]; rfl⟩
        case measure => simp [intOf]; omega
      · have h3 : isLn s[k] = false := by simpa using h3
        have HE : Hid (s.data.toList.all isLn = false) := all_not isLn s k hlt h3
        have h4 : (s[k].toNat : Int) < 32 ∨ 126 < (s[k].toNat : Int) := by have := of_decide_eq_false h3; omega
        clear h3
        rcases h4 with h4 | h4
        all_goals
          go_wp2
          go_ret
          exact ⟨ret_bool (by unfold lineB; rw [HE.out]; simp), rfl⟩
    · have hAll : Hid (s.data.toList.all isLn = true) := by
        have := HA.out
        rw [List.take_of_length_le (by simp; omega)] at this; exact this
      clear HA
      by_cases h60 : 60 < s.size
      · go_wp2
        go_ret
        refine ⟨ret_bool ?_, rfl⟩
        unfold lineB
        rw [decide_eq_false (p := s.data.toList.length ≤ 60) (by have := HL.out; omega)]
        rfl
      have hd60 : decide ((s.size : Int) ≤ 60) = true := decide_eq_true (by omega)
      by_cases h0 : s.size = 0
      · have HN := Lib.hid (List.eq_nil_of_length_eq_zero (HL.out.trans h0))
        have hE : s.toList = [] := by rw [ByteArray.toList_eq]; exact HN.out
        have hE2 : s.toList.isEmpty = true := by rw [hE]; rfl
        clear hE
        go_wp2
        go_ret
        refine ⟨ret_bool ?_, rfl⟩
        unfold lineB
        rw [HN.out]
        rfl
      · have hp : 0 < s.size := by omega
        have hh := Lib.hid (head_at s hp)
        have hla := Lib.hid (last_at s hp)
        have HZ := Lib.hid h0
        have hE2 : s.toList.isEmpty = false := by
          rw [List.isEmpty_eq_false_iff, ByteArray.toList_eq]; intro e; have := HL.out; rw [e] at this; exact h0 this.symm
        clear h0
        go_wp2
        all_goals
          go_ret
          refine ⟨ret_bool ?_, rfl⟩
          unfold lineB
          rw [hAll.out, hh.out, hla.out, decide_eq_true (p := s.data.toList.length ≤ 60) (by have := HL.out; omega), show s.data.toList.isEmpty = false by rw [List.isEmpty_eq_false_iff]; intro e; have := HL.out; rw [e] at this; exact HZ.out this.symm]
          rw [Bool.eq_iff_iff]
          simp
          try omega
/-! ### Numbers that are read -/
theorem bk_d (c : UInt8) (w : World) (h : isDi c = true) :
    Calls Try.prog 79 #[.int .u8 (c.toNat : Int)] w fun e w' => e = .returned (.int .i64 3) ∧ w = w' :=
  bk_3 c w (by unfold isDi at h; have := of_decide_eq_true h; unfold isLo; exact decide_eq_false (by omega)) h
theorem iline_t (s : ByteArray) (w : World) (hs : s.size ≤ maxLen) (h : lineB s.data.toList = true) :
    Calls Try.prog 78 #[.string s] w fun e w' => e = .returned (.bool true) ∧ w = w' := by
  have := iline_any s w hs; rw [h] at this; exact this
theorem iline_f (s : ByteArray) (w : World) (hs : s.size ≤ maxLen) (h : lineB s.data.toList = false) :
    Calls Try.prog 78 #[.string s] w fun e w' => e = .returned (.bool false) ∧ w = w' := by
  have := iline_any s w hs; rw [h] at this; exact this
theorem sline_t (s : ByteArray) (w : World) (hs : s.size ≤ maxLen) (h : lineB s.data.toList = true) :
    Calls Try.prog 44 #[.string s] w fun e w' => e = .returned (.bool true) ∧ w = w' := by
  have := sline_any s w hs; rw [h] at this; exact this
theorem sline_f (s : ByteArray) (w : World) (hs : s.size ≤ maxLen) (h : lineB s.data.toList = false) :
    Calls Try.prog 44 #[.string s] w fun e w' => e = .returned (.bool false) ∧ w = w' := by
  have := sline_any s w hs; rw [h] at this; exact this

end Go.Proofs.Ytfkhnfbmpjgjgaa
