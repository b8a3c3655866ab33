/- Parts of the proof: Texts. -/
import Derived.Test.YtjleempapphlhabChecked
import Derived.WalkKit
import Derived.WalkSpells
import Derived.LoopTactic
import Derived.Lib.Hide
import Derived.Test.YtjleempapphlhabGePlain
section
namespace Go.Proofs.Ytjleempapphlhab
open Go.RowKit
set_option maxRecDepth 20000
set_option linter.unusedVariables false
theorem bk_any (c : Int) (w : World) (h0 : 0 ≤ c) (h1 : c ≤ 255) :
    Calls Try.prog 59 #[.int .u8 c] w fun e w' => e = .returned (.int .i64 (kind c)) ∧ w = w' := by
  by_cases hc : c = 32
  · subst hc
    go_enter Try.func59, Try.ntmps59
    go_wp2
    go_ret
    exact ⟨rfl, rfl⟩
  · have hb : (c == 32) = false := by simpa using hc
    go_enter Try.func59, Try.ntmps59
    go_wp2
    all_goals
      go_ret
      exact ⟨ret_int (by unfold kind; (repeat' split) <;> omega), rfl⟩
theorem kind_lo {c : UInt8} (h : isLo c = true) : kind (c.toNat : Int) = 4 := by
  unfold isLo at h; unfold kind; rw [if_pos (of_decide_eq_true h)]
theorem kind_di {c : UInt8} (h : isLo c = false) (h2 : isDi c = true) : kind (c.toNat : Int) = 3 := by
  unfold isLo at h; unfold isDi at h2; unfold kind; rw [if_neg (of_decide_eq_false h), if_pos (of_decide_eq_true h2)]
theorem kind_ot {c : UInt8} (h : isLo c = false) (h2 : isDi c = false) : kind (c.toNat : Int) < 3 := by
  unfold isLo at h; unfold isDi at h2; unfold kind; rw [if_neg (of_decide_eq_false h), if_neg (of_decide_eq_false h2)]
  repeat' split
  all_goals omega
theorem bk_4 (c : UInt8) (w : World) (h : isLo c = true) :
    Calls Try.prog 59 #[.int .u8 (c.toNat : Int)] w fun e w' => e = .returned (.int .i64 4) ∧ w = w' := by
  have := bk_any (c.toNat : Int) w (by omega) (by have := c.toNat_lt; omega)
  rw [kind_lo h] at this; exact this
theorem bk_3 (c : UInt8) (w : World) (h : isLo c = false) (h2 : isDi c = true) :
    Calls Try.prog 59 #[.int .u8 (c.toNat : Int)] w fun e w' => e = .returned (.int .i64 3) ∧ w = w' := by
  have := bk_any (c.toNat : Int) w (by omega) (by have := c.toNat_lt; omega)
  rw [kind_di h h2] at this; exact this
theorem bk_0 (c : UInt8) (w : World) (h : isLo c = false) (h2 : isDi c = false) :
    Calls Try.prog 59 #[.int .u8 (c.toNat : Int)] w fun e w' => (∃ k : Int, (k != 4) = true ∧ (k != 3) = true ∧ e = .returned (.int .i64 k)) ∧ w = w' :=
  (bk_any (c.toNat : Int) w (by omega) (by have := c.toNat_lt; omega)).mono fun _ _ ⟨he, hw⟩ => ⟨⟨_, by have := kind_ot h h2; simp; omega, by have := kind_ot h h2; simp; omega, he⟩, hw⟩
theorem in_any (n lo hi : Int) (w : World) :
    Calls Try.prog 58 #[.int .i64 n, .int .i64 lo, .int .i64 hi] w fun e w' => e = .returned (.bool (decide (lo ≤ n) && decide (n ≤ hi))) ∧ w = w' := by
  by_cases h1 : lo ≤ n <;> by_cases h2 : n ≤ hi
  all_goals
    go_enter Try.func58, Try.ntmps58
    go_wp2
    go_ret
    exact ⟨ret_bool (by simp [h1, h2]), rfl⟩
set_option maxHeartbeats 400000 in
theorem iword_any (s : ByteArray) (w : World) (hs : s.size ≤ maxLen) :
    Calls Try.prog 41 #[.string s] w fun e w' => e = .returned (.bool (wordB s.data.toList)) ∧ w = w' := by
  unfold maxLen at hs
  have hl : s.data.toList.length = s.size := by simp
  by_cases h0 : s.size < 1
  · go_enter Try.func41, Try.ntmps41
    go_wp2
    go_ret
    exact ⟨ret_bool (by unfold wordB; rw [decide_eq_false (by omega)]; rfl), rfl⟩
  by_cases h1 : 10 < s.size
  · go_enter Try.func41, Try.ntmps41
    go_wp2
    go_ret
    exact ⟨ret_bool (by unfold wordB; rw [decide_eq_false (p := s.data.toList.length ≤ 10) (by omega)]; simp), rfl⟩
  have hp : 0 < s.size := by omega
  have hd := head_at s hp
  by_cases h2 : isLo s[0] = true
  · have HD : Hid (wordB s.data.toList = s.data.toList.all isLd) := by
      unfold wordB; rw [hd, h2, decide_eq_true (p := 1 ≤ s.data.toList.length) (by omega), decide_eq_true (p := s.data.toList.length ≤ 10) (by omega)]; rfl
    have H1 : Hid ((s.data.toList.take 1).all isLd = true) := by
      have := all_snoc isLd s 0 hp
      have e : isLd s[0] = true := by unfold isLd; rw [h2]; rfl
      show _ = _
      rw [e] at this; simpa using this
    clear hd hl
    go_enter Try.func41, Try.ntmps41
    go_wp2_with (go_at_call 59; refine (bk_4 _ _ h2).mono ?_; rintro e w' ⟨rfl, rfl⟩)
    go_loop [3] (fun i => ∃ k : Nat, 1 ≤ k ∧ k ≤ s.size ∧ i = .int .i64 k ∧ (s.data.toList.take k).all isLd = true) (fun i => s.size - (intOf i).toNat)
    case atStart => exact ⟨1, Nat.le_refl _, by omega, rfl, H1.out⟩
    case round =>
      obtain ⟨k, hk1, hk, rfl, hall⟩ := hrel
      have HA : Hid ((s.data.toList.take k).all isLd = true) := hall
      clear hall
      by_cases hlt : k < s.size
      · have HS := Lib.hid (all_snoc isLd s k hlt)
        by_cases h3 : isLo s[k] = true
        · have HE : Hid (isLd s[k] = true) := by show _ = _; unfold isLd; rw [h3]; rfl
          go_wp2_with (go_at_call 59; refine (bk_4 _ _ h3).mono ?_; rintro e w' ⟨rfl, rfl⟩)
          go_round
          case rel => exact ⟨k + 1, by omega, by omega, by go_num, by rw [HS.out, HA.out, HE.out]; rfl⟩
          case measure => simp [intOf]; omega
        · have h3 : isLo s[k] = false := by simpa using h3
          by_cases h4 : isDi s[k] = true
          · have HE : Hid (isLd s[k] = true) := by show _ = _; unfold isLd; rw [h4]; simp
            go_wp2_with (go_at_call 59; refine (bk_3 _ _ h3 h4).mono ?_; rintro e w' ⟨rfl, rfl⟩)
            go_round
            case rel => exact ⟨k + 1, by omega, by omega, by go_num, by rw [HS.out, HA.out, HE.out]; rfl⟩
            case measure => simp [intOf]; omega
          · have h4 : isDi s[k] = false := by simpa using h4
            have HE : Hid (isLd s[k] = false) := by show _ = _; unfold isLd; rw [h3, h4]; rfl
            go_wp2_with (go_at_call 59; refine (bk_0 _ _ h3 h4).mono ?_; rintro e w' ⟨⟨kk, hq4, hq3, rfl⟩, rfl⟩)
            go_ret
            exact ⟨ret_bool (by rw [HD.out, all_not isLd s k hlt HE.out]), rfl⟩
      · go_wp2
        go_ret
        exact ⟨ret_bool (by rw [HD.out, ← HA.out, List.take_of_length_le (by simp; omega)]), rfl⟩
  · have h2 : isLo s[0] = false := by simpa using h2
    have HD : Hid (wordB s.data.toList = false) := by
      show _ = _
      unfold wordB; rw [hd, h2]; simp
    clear hd hl
    go_enter Try.func41, Try.ntmps41
    by_cases h4 : isDi s[0] = true
    · go_wp2_with (go_at_call 59; refine (bk_3 _ _ h2 h4).mono ?_; rintro e w' ⟨rfl, rfl⟩)
      go_ret
      exact ⟨ret_bool (by rw [HD.out]), rfl⟩
    · have h4 : isDi s[0] = false := by simpa using h4
      go_wp2_with (go_at_call 59; refine (bk_0 _ _ h2 h4).mono ?_; rintro e w' ⟨⟨kk, hq4, hq3, rfl⟩, rfl⟩)
      go_ret
      exact ⟨ret_bool (by rw [HD.out]), rfl⟩
set_option maxHeartbeats 400000 in
theorem sword_any (s : ByteArray) (w : World) (hs : s.size ≤ maxLen) :
    Calls Try.prog 57 #[.string s] w fun e w' => e = .returned (.bool (wordB s.data.toList)) ∧ w = w' := by
  unfold maxLen at hs
  go_enter Try.func57, Try.ntmps57
  go_wp2
  go_loop [3] (fun i => ∃ k : Nat, k ≤ s.size ∧ i = .int .i64 k ∧ ((s.data.toList.take k).all isLd = true ∧ (0 < k → isLo (s.data.toList.headD 0) = true))) (fun i => s.size - (intOf i).toNat)
  case atStart => exact ⟨0, Nat.zero_le _, rfl, rfl, fun h => absurd h (by omega)⟩
  case round =>
    obtain ⟨k, hk, rfl, hall⟩ := hrel
    have HA := Lib.hid hall
    clear hall
    by_cases hlt : k < s.size
    · have HS := Lib.hid (all_snoc isLd s k hlt)
      by_cases h3 : isLo s[k] = true
      · have h3' := of_decide_eq_true h3
        have HE : Hid (isLd s[k] = true ∧ (k = 0 → isLo (s.data.toList.headD 0) = true)) := by
          refine ⟨by unfold isLd; rw [h3]; rfl, fun hk0 => ?_⟩
          subst hk0; rw [head_at s hlt]; exact h3
        clear h3
        go_wp2
        go_round
        case rel =>
          refine ⟨k + 1, by omega, by go_num, by rw [HS.out, HA.out.1, HE.out.1]; rfl, fun _ => ?_⟩
          by_cases hk0 : k = 0
          · exact HE.out.2 hk0
          · exact HA.out.2 (by omega)
        case measure => simp [intOf]; omega
      · have h3 : isLo s[k] = false := by simpa using h3
        have h3' : (s[k].toNat : Int) < 97 ∨ (97 ≤ (s[k].toNat : Int) ∧ 122 < (s[k].toNat : Int) ∧ decide ((s[k].toNat : Int) ≤ 122) = false) := by
          have := of_decide_eq_false h3
          by_cases hq : (s[k].toNat : Int) < 97
          · exact .inl hq
          · exact .inr ⟨by omega, by omega, decide_eq_false (by omega)⟩
        by_cases h5 : k = 0
        · subst h5
          have HF : Hid (isLo (s.data.toList.headD 0) = false) := by show _ = _; rw [head_at s hlt]; exact h3
          clear h3
          rcases h3' with h3' | ⟨h3', h3'', h3d⟩
          all_goals
            go_wp2
            go_ret
            exact ⟨ret_bool (by unfold wordB; rw [HF.out]; simp), rfl⟩
        · have h5' : 0 < k := by omega
          have h5b : ((k : Int) == 0) = false := by simp; omega
          by_cases h4 : isDi s[k] = true
          · have h4' := of_decide_eq_true h4
            have HE : Hid (isLd s[k] = true) := by show _ = _; unfold isLd; rw [h4]; simp
            have h3q : (s[k].toNat : Int) < 97 := by omega
            clear h3 h4 h3'
            go_wp2
            go_round
            case rel => exact ⟨k + 1, by omega, by go_num, by rw [HS.out, HA.out.1, HE.out]; rfl, fun _ => HA.out.2 h5'⟩
            case measure => simp [intOf]; omega
          · have h4 : isDi s[k] = false := by simpa using h4
            have h4' := of_decide_eq_false h4
            have HE : Hid (s.data.toList.all isLd = false) := all_not isLd s k hlt (by unfold isLd; rw [h3, h4]; rfl)
            clear h3 h4
            have h4q : (s[k].toNat : Int) < 48 ∨ 57 < (s[k].toNat : Int) := by omega
            rcases h4q with h4q | h4q
            all_goals
              rcases h3' with h3' | ⟨h3', h3'', h3d⟩
            all_goals
              try (exfalso; omega)
            all_goals
              go_wp2
              go_ret
              exact ⟨ret_bool (by unfold wordB; rw [HE.out]; simp), rfl⟩
    · go_wp2_with (go_at_call 58; refine (in_any _ _ _ _).mono ?_; rintro e w' ⟨rfl, rfl⟩)
      go_ret
      have hk' : k = s.size := by omega
      have hAll : s.data.toList.all isLd = true := by rw [← HA.out.1, List.take_of_length_le (by simp; omega)]
      refine ⟨ret_bool ?_, rfl⟩
      unfold wordB
      rw [hAll]
      have e1 : s.data.toList.length = s.size := by simp
      by_cases hz : s.size = 0
      · rw [decide_eq_false (p := 1 ≤ s.data.toList.length) (by omega), decide_eq_false (p := (1 : Int) ≤ (s.size : Int)) (by omega)]; rfl
      · rw [HA.out.2 (by omega), decide_eq_true (p := 1 ≤ s.data.toList.length) (by omega), decide_eq_true (p := (1 : Int) ≤ (s.size : Int)) (by omega)]
        rw [Bool.eq_iff_iff]
        simp
        try omega
end Go.Proofs.Ytjleempapphlhab
end
