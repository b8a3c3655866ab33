/- The contracts of the functions of chapter 2: reading addresses. -/
import Derived.Test.YtplcdadedpbkpaaAddr
import Derived.RegionTactic
import Derived.BigRegion
import Derived.ChangeAlike
import Derived.StillTailTactics
namespace Go.Proofs.Ytplcdadedpbkpaa
open Go.RowKit
set_option linter.unusedVariables false

theorem at_hit (s : ByteArray) (k : Nat) (hk : k < s.size) (h : k ≤ atL s.data.toList) (h1 : s[k] = 64) : atL s.data.toList = k := by
  have hk' : k < s.data.toList.length := by simpa using hk
  have : ¬ k < atL s.data.toList := by
    intro hlt
    have := List.not_of_lt_findIdx hlt
    have e : s.data.toList[k] = s[k] := rfl
    rw [e, h1] at this
    rw [show ((64 : UInt8) == 64) = true from rfl] at this
    cases this
  omega
theorem at_miss (s : ByteArray) (k : Nat) (hk : k < s.size) (h : k ≤ atL s.data.toList) (h1 : s[k] ≠ 64) : k + 1 ≤ atL s.data.toList := by
  have hk' : k < s.data.toList.length := by simpa using hk
  rcases Nat.lt_or_ge k (atL s.data.toList) with h2 | h2
  · exact h2
  · exfalso
    have e : atL s.data.toList = k := by omega
    have h3 : List.findIdx (· == (64 : UInt8)) s.data.toList < s.data.toList.length := by unfold atL at e; omega
    have := List.findIdx_getElem (w := h3)
    have e2 : s.data.toList[k] = s[k] := rfl
    unfold atL at e
    simp only [e] at this
    rw [e2] at this
    exact h1 (eq_of_beq this)
theorem u8_ne {c : UInt8} (h : c ≠ 64) : ((c.toNat : Int) == 64) = false := by
  rw [beq_eq_false_iff_ne]; intro e
  exact h (UInt8.toNat_inj.mp (by show c.toNat = 64; omega))
theorem u8_eq {c : UInt8} (h : c = 64) : ((c.toNat : Int) == 64) = true := by subst h; rfl

/-- The place of the first @, or -1. -/
def posI (s : ByteArray) : Int := if atL s.data.toList < s.size then (atL s.data.toList : Int) else -1
set_option maxHeartbeats 400000 in
theorem pos_any (s : ByteArray) (w : World) (hs : s.size ≤ maxLen) :
    Calls Try.prog 38 #[.string s, .int .u8 64] w fun e w' => e = .returned (.int .i64 (posI s)) ∧ w = w' := by
  unfold maxLen at hs
  have HL := Lib.hid (show s.data.toList.length = s.size by simp)
  go_enter Try.func38, Try.ntmps38
  go_wp2
  go_loop [5] (fun i => ∃ k : Nat, k ≤ s.size ∧ i = .int .i64 k ∧ k ≤ atL s.data.toList) (fun i => s.size - (intOf i).toNat)
  case atStart => exact ⟨0, Nat.zero_le _, rfl, Nat.zero_le _⟩
  case round =>
    obtain ⟨k, hk, rfl, hat⟩ := hrel
    have HA := Lib.hid hat
    clear hat
    by_cases hlt : k < s.size
    · by_cases h3 : s[k] = 64
      · have HE := Lib.hid (at_hit s k hlt HA.out h3)
        have h4 := u8_eq h3
        clear h3
        go_wp2
        go_ret
        refine ⟨ret_int ?_, rfl⟩
        unfold posI; rw [HE.out, if_pos hlt]
      · have HE := Lib.hid (at_miss s k hlt HA.out h3)
        have h4 := u8_ne h3
        clear h3
        go_wp2
        go_round
        case rel => exact ⟨k + 1, by omega, by go_num, HE.out⟩
        case measure => simp [intOf]; omega
    · go_wp2
      go_ret
      refine ⟨ret_int ?_, rfl⟩
      have := HA.out
      unfold posI; rw [if_neg (by omega)]

theorem pos_yes (s : ByteArray) (k : Nat) (w : World) (hs : s.size ≤ maxLen) (h : atL s.data.toList = k) (hk : k < s.size) :
    Calls Try.prog 38 #[.string s, .int .u8 64] w fun e w' => e = .returned (.int .i64 (k : Int)) ∧ w = w' := by
  have := pos_any s w hs
  unfold posI at this; rw [h, if_pos hk] at this; exact this
theorem pos_no (s : ByteArray) (w : World) (hs : s.size ≤ maxLen) (hk : ¬ atL s.data.toList < s.size) :
    Calls Try.prog 38 #[.string s, .int .u8 64] w fun e w' => e = .returned (.int .i64 (-1)) ∧ w = w' := by
  have := pos_any s w hs
  unfold posI at this; rw [if_neg hk] at this; exact this

/-- The user and the host of a text. -/
def userS (s : ByteArray) : ByteArray := ⟨(userOf s.data.toList).toArray⟩
def hostS (s : ByteArray) : ByteArray := ⟨(hostOf s.data.toList).toArray⟩
theorem ext4 (s : ByteArray) : (s.extract 4 s.size).data.toList = s.data.toList.drop 4 := by
  simp only [ByteArray.data_extract, Array.toList_extract, List.extract_eq_take_drop]
  exact List.take_of_length_le (by simp)
theorem sip_bytes (s : ByteArray) : ((s.extract 0 4).toList == [115, 105, 112, 58]) = sipB s.data.toList := by
  rw [ByteArray.toList_eq]
  unfold sipB
  congr 1
  simp
theorem user_bytes (s : ByteArray) : (s.extract 4 s.size).extract 0 (atL (s.data.toList.drop 4)) = userS s := by
  apply str_of
  unfold userOf
  simp only [ByteArray.data_extract, Array.toList_extract, List.extract_eq_take_drop]
  rw [List.take_of_length_le (l := List.drop 4 s.data.toList) (by simp)]
  simp
theorem host_bytes (s : ByteArray) (h : 4 ≤ s.size) : (s.extract 4 s.size).extract (atL (s.data.toList.drop 4) + 1) (s.size - 4) = hostS s := by
  apply str_of
  unfold hostOf
  simp only [ByteArray.data_extract, Array.toList_extract, List.extract_eq_take_drop]
  rw [List.take_of_length_le (l := List.drop 4 s.data.toList) (by simp), List.take_of_length_le (by rw [List.length_drop, List.length_drop, Array.length_toList]; show s.size - 4 - _ ≤ _; omega)]

/-- The answer 'there is none'. -/
def noAddr : Value := .tuple #[.agg #[.string ⟨#[]⟩, .string ⟨#[]⟩], .bool false]
def yesAddr (s : ByteArray) : Value := .tuple #[.agg #[.string (userS s), .string (hostS s)], .bool true]

theorem ira_f1 (s : ByteArray) (w : World) (hs : s.size ≤ maxLen) (h : s.size < 4) :
    Calls Try.prog 56 #[.string s] w fun e w' => e = .returned noAddr ∧ Below w.heap.size w w' := by
  unfold maxLen at hs
  go_enter Try.func56, Try.ntmps56
  go_wp2
  exact bodyPost_ret (v := .tuple #[.agg #[.string ⟨#[]⟩, .string ⟨#[]⟩], .bool false]) (by simp [results, Try.results56, go_sem]) rfl ⟨rfl, (Below.refl _ _).alloc (Nat.le_refl _) _⟩

theorem ira_f2 (s : ByteArray) (w : World) (hs : s.size ≤ maxLen) (h : ¬ s.size < 4) (hp : sipB s.data.toList = false) :
    Calls Try.prog 56 #[.string s] w fun e w' => e = .returned noAddr ∧ Below w.heap.size w w' := by
  unfold maxLen at hs
  rw [← sip_bytes] at hp
  go_enter Try.func56, Try.ntmps56
  go_wp2
  exact bodyPost_ret (v := .tuple #[.agg #[.string ⟨#[]⟩, .string ⟨#[]⟩], .bool false]) (by simp [results, Try.results56, go_sem]) rfl ⟨rfl, (Below.refl _ _).alloc (Nat.le_refl _) _⟩

theorem ira_f3 (s : ByteArray) (w : World) (hs : s.size ≤ maxLen) (h : ¬ s.size < 4) (hp : sipB s.data.toList = true) (ha : ¬ atL (s.data.toList.drop 4) < (s.data.toList.drop 4).length) :
    Calls Try.prog 56 #[.string s] w fun e w' => e = .returned noAddr ∧ Below w.heap.size w w' := by
  have HS := Lib.hid hs
  unfold maxLen at hs
  rw [← sip_bytes] at hp
  have HA : Hid (¬ atL (s.extract 4 s.size).data.toList < (s.extract 4 s.size).size) := Lib.hid (by
    rw [ext4]; simpa using ha)
  have HM : Hid ((s.extract 4 s.size).size ≤ maxLen) := Lib.hid (by have := HS.out; simp; omega)
  clear ha
  go_enter Try.func56, Try.ntmps56
  go_wp2_with fail
  refine (pos_no _ _ HM.out HA.out).mono ?_
  rintro e w' ⟨rfl, rfl⟩
  go_wp2
  exact bodyPost_ret (v := .tuple #[.agg #[.string ⟨#[]⟩, .string ⟨#[]⟩], .bool false]) (by simp [results, Try.results56, go_sem]) rfl ⟨rfl, (Below.refl _ _).alloc (Nat.le_refl _) _⟩

theorem userS_list (s : ByteArray) : (userS s).data.toList = userOf s.data.toList := by simp [userS]
theorem hostS_list (s : ByteArray) : (hostS s).data.toList = hostOf s.data.toList := by simp [hostS]
theorem userS_max (s : ByteArray) (h : s.size ≤ maxLen) : (userS s).size ≤ maxLen := by
  have e : (userS s).data.toList.length = (userS s).size := by simp
  have e2 : s.data.toList.length = s.size := by simp
  rw [← e, userS_list]; unfold userOf; rw [List.length_take, List.length_drop]; omega
theorem hostS_max (s : ByteArray) (h : s.size ≤ maxLen) : (hostS s).size ≤ maxLen := by
  have e : (hostS s).data.toList.length = (hostS s).size := by simp
  have e2 : s.data.toList.length = s.size := by simp
  rw [← e, hostS_list]; unfold hostOf; rw [List.length_drop, List.length_drop]; omega
theorem below_drew {B : Nat} {a w : World} (h : Below B a w) : Below B a w.drew := ⟨h.os, h.tape, h.output, h.size, h.block⟩

set_option maxHeartbeats 1000000 in
theorem ira_v (s : ByteArray) (v : Bool) (w : World) (hs : s.size ≤ maxLen) (h1 : sipB s.data.toList = true) (h2 : atL (s.data.toList.drop 4) < (s.data.toList.drop 4).length)
    (hv : (wordB (userOf s.data.toList) && wordB (hostOf s.data.toList)) = v) :
    Calls Try.prog 56 #[.string s] w fun e w' => e = .returned (if v = true then yesAddr s else noAddr) ∧ Below w.heap.size w w' := by
  have HS := Lib.hid hs
  unfold maxLen at hs
  rw [← sip_bytes] at h1
  have hlen : s.data.toList.length = s.size := by simp
  have h4' : 4 ≤ s.size := by rw [List.length_drop] at h2; omega
  obtain ⟨k, hk⟩ : ∃ k, k = atL (s.data.toList.drop 4) := ⟨_, rfl⟩
  have hks : k + 4 < s.size := by rw [List.length_drop] at h2; omega
  have HK : Hid (atL (s.extract 4 s.size).data.toList = k) := Lib.hid (by rw [ext4, hk])
  have HKs : Hid (k < (s.extract 4 s.size).size) := Lib.hid (by simp; omega)
  have HU := Lib.hid (user_bytes s)
  have HH := Lib.hid (host_bytes s h4')
  have HM : Hid ((s.extract 4 s.size).size ≤ maxLen) := Lib.hid (by have := HS.out; simp; omega)
  have hc : ∀ W : World, Calls Try.prog 49 #[.agg #[.string (userS s), .string (hostS s)]] W fun e w' => e = .returned (.bool v) ∧ Below W.heap.size W w' := by
    intro W
    have := iav_any (userS s) (hostS s) W (userS_max s HS.out) (hostS_max s HS.out)
    rw [userS_list, hostS_list, hv] at this; exact this
  have HC := Lib.hid hc
  have hn : ¬ s.size < 4 := by omega
  have hq : ¬ (k : Int) < 0 := by omega
  rw [← hk] at HU HH
  clear h2 hlen hk hv hc
  go_enter Try.func56, Try.ntmps56
  go_wp2_with fail
  refine (pos_yes _ k _ HM.out HK.out HKs.out).mono ?_
  rintro e w' ⟨rfl, rfl⟩
  go_wp2
  go_region
  go_wp2_with fail
  rw [HU.out, HH.out]
  refine (HC.out _).mono ?_
  rintro e w1 ⟨rfl, hb⟩
  obtain ⟨hcl, hfr⟩ := bcell hb
  have HB := Lib.hid (((below_drew (((Below.refl w.heap.size w).alloc (Nat.le_refl _) (.cells #[.string ⟨#[]⟩, .string ⟨#[]⟩] 26)).alloc (by simp) (.cells #[.string (userS s), .string (hostS s)] 26)))).trans (hb.mono (by simp; omega)))
  have HZ := Lib.hid hb.size
  clear hb
  have hsz : w.heap.size + 1 < w1.heap.size := by have := HZ.out; simp at this; omega
  have hc0 : w1.cell? ⟨w.heap.size, 0, none⟩ = some (.string ⟨#[]⟩) := by rw [hcl _ _ (by simp; omega)]; simp [go_sem]
  have hc1 : w1.cell? ⟨w.heap.size, 1, none⟩ = some (.string ⟨#[]⟩) := by rw [hcl _ _ (by simp; omega)]; simp [go_sem]
  have HT := Lib.hid (set_two hc0 hc1)
  clear hc0 hc1
  cases v
  · go_wp2
    have hT := HT.out (.string ⟨#[]⟩) (.string ⟨#[]⟩)
    refine bodyPost_ret (v := .tuple #[.agg #[.string ⟨#[]⟩, .string ⟨#[]⟩], .bool false]) (by simp [results, Try.results56, go_sem, hT.1, hT.2]) rfl ⟨rfl, ?_⟩
    repeat (first | exact HB.out | refine Below.setCell ?_ (by simp) _)
  · go_wp2
    have hT := HT.out (.string (userS s)) (.string (hostS s))
    refine bodyPost_ret (v := .tuple #[.agg #[.string (userS s), .string (hostS s)], .bool true]) (by simp [results, Try.results56, go_sem, hT.1, hT.2]) rfl ⟨rfl, ?_⟩
    repeat (first | exact HB.out | refine Below.setCell ?_ (by simp) _)

theorem ira_t (s : ByteArray) (w : World) (hs : s.size ≤ maxLen) (hp : addrB s.data.toList = true) :
    Calls Try.prog 56 #[.string s] w fun e w' => e = .returned (yesAddr s) ∧ Below w.heap.size w w' := by
  unfold addrB at hp
  simp only [Bool.and_eq_true, decide_eq_true_eq] at hp
  obtain ⟨⟨⟨h1, h2⟩, h3⟩, h4⟩ := hp
  exact ira_v s true w hs h1 h2 (by rw [h3, h4]; rfl)
theorem ira_f (s : ByteArray) (w : World) (hs : s.size ≤ maxLen) (hp : addrB s.data.toList = false) :
    Calls Try.prog 56 #[.string s] w fun e w' => e = .returned noAddr ∧ Below w.heap.size w w' := by
  by_cases h0 : s.size < 4
  · exact ira_f1 s w hs h0
  by_cases h1 : sipB s.data.toList = true
  · by_cases h2 : atL (s.data.toList.drop 4) < (s.data.toList.drop 4).length
    · refine ira_v s false w hs h1 h2 ?_
      unfold addrB at hp
      rw [h1, decide_eq_true h2] at hp
      simpa using hp
    · exact ira_f3 s w hs h0 h1 h2
  · exact ira_f2 s w hs h0 (by simpa using h1)
end Go.Proofs.Ytplcdadedpbkpaa
