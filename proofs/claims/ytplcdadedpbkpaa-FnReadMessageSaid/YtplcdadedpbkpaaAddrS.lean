/- The contracts of the functions of chapter 2: the model's reading of addresses. -/
import Derived.Test.YtplcdadedpbkpaaAddrR
namespace Go.Proofs.Ytplcdadedpbkpaa
open Go.RowKit
set_option linter.unusedVariables false

theorem sra_f1 (s : ByteArray) (w : World) (hs : s.size ≤ maxLen) (h : s.size < 4) :
    Calls Try.prog 25 #[.string s] w fun e w' => e = .returned noAddr ∧ Below w.heap.size w w' := by
  unfold maxLen at hs
  go_enter Try.func25, Try.ntmps25
  go_wp2
  exact bodyPost_ret (v := .tuple #[.agg #[.string ⟨#[]⟩, .string ⟨#[]⟩], .bool false]) (by simp [results, Try.results25, go_sem]) rfl ⟨rfl, (Below.refl _ _).alloc (Nat.le_refl _) _⟩

/-- The place in the rest of a text, step by step. -/
theorem at4_hit (s : ByteArray) (k : Nat) (hk : k < s.size) (h4 : 4 ≤ k) (h : k ≤ 4 + atL (s.data.toList.drop 4)) (h1 : s[k] = 64) : 4 + atL (s.data.toList.drop 4) = k := by
  have hk' : k - 4 < (s.extract 4 s.size).size := by simp; omega
  have e := at_hit (s.extract 4 s.size) (k - 4) hk' (by rw [ext4]; omega) (by
    have : (s.extract 4 s.size)[k - 4] = s[k] := by
      rw [ByteArray.getElem_extract]; congr 1; omega
    rw [this]; exact h1)
  rw [ext4] at e
  omega
theorem at4_miss (s : ByteArray) (k : Nat) (hk : k < s.size) (h4 : 4 ≤ k) (h : k ≤ 4 + atL (s.data.toList.drop 4)) (h1 : s[k] ≠ 64) : k + 1 ≤ 4 + atL (s.data.toList.drop 4) := by
  have hk' : k - 4 < (s.extract 4 s.size).size := by simp; omega
  have e := at_miss (s.extract 4 s.size) (k - 4) hk' (by rw [ext4]; omega) (by
    have : (s.extract 4 s.size)[k - 4] = s[k] := by
      rw [ByteArray.getElem_extract]; congr 1; omega
    rw [this]; exact h1)
  rw [ext4] at e
  omega
theorem user_bytes4 (s : ByteArray) (k : Nat) (hk : k = 4 + atL (s.data.toList.drop 4)) : s.extract 4 k = userS s := by
  apply str_of
  unfold userOf
  simp only [ByteArray.data_extract, Array.toList_extract, List.extract_eq_take_drop]
  rw [hk]; congr 1; omega
theorem host_bytes4 (s : ByteArray) (k : Nat) (hk : k = 4 + atL (s.data.toList.drop 4)) : s.extract (k + 1) s.size = hostS s := by
  apply str_of
  unfold hostOf
  simp only [ByteArray.data_extract, Array.toList_extract, List.extract_eq_take_drop]
  rw [List.take_of_length_le (by simp), List.drop_drop, hk]
  congr 1

set_option maxHeartbeats 1000000 in
theorem sra_f3 (s : ByteArray) (w : World) (hs : s.size ≤ maxLen) (h : ¬ s.size < 4) (ha : ¬ atL (s.data.toList.drop 4) < (s.data.toList.drop 4).length) :
    Calls Try.prog 25 #[.string s] w fun e w' => e = .returned noAddr ∧ Below w.heap.size w w' := by
  unfold maxLen at hs
  have HA := Lib.hid ha
  have HL := Lib.hid (show (s.data.toList.drop 4).length = s.size - 4 by simp)
  clear ha
  go_enter Try.func25, Try.ntmps25
  go_wp2
  go_loop [4] (fun i => ∃ k : Nat, 4 ≤ k ∧ k ≤ s.size ∧ i = .int .i64 k ∧ k ≤ 4 + atL (s.data.toList.drop 4)) (fun i => s.size - (intOf i).toNat)
  case atStart => exact ⟨4, by omega, by omega, rfl, by omega⟩
  case round =>
    obtain ⟨k, hk4, hk, rfl, hat⟩ := hrel
    have HT := Lib.hid hat
    clear hat
    by_cases hlt : k < s.size
    · by_cases h3 : s[k] = 64
      · exfalso
        have e1 := at4_hit s k hlt hk4 HT.out h3
        have e2 := HA.out
        have e3 := HL.out
        omega
      · have HE := Lib.hid (at4_miss s k hlt hk4 HT.out h3)
        have h4 := u8_ne h3
        clear h3
        go_wp2
        go_round
        case rel => exact ⟨k + 1, by omega, by omega, by go_num, HE.out⟩
        case measure => simp [intOf]; omega
    · have hb : ((k : Int) == (s.size : Int)) = true := by rw [beq_iff_eq]; omega
      go_wp2
      try simp only [Exit.inBlock, Exit.then]
      exact bodyPost_ret (v := .tuple #[.agg #[.string ⟨#[]⟩, .string ⟨#[]⟩], .bool false]) (by simp [results, Try.results25, go_sem]) rfl ⟨rfl, (Below.refl _ _).alloc (Nat.le_refl _) _⟩

set_option maxHeartbeats 1000000 in
theorem sra_t (s : ByteArray) (w : World) (hs : s.size ≤ maxLen) (hp : addrB s.data.toList = true) :
    Calls Try.prog 25 #[.string s] w fun e w' => e = .returned (yesAddr s) ∧ Below w.heap.size w w' := by
  unfold addrB at hp
  simp only [Bool.and_eq_true, decide_eq_true_eq] at hp
  obtain ⟨⟨⟨h1, h2⟩, h3⟩, h4⟩ := hp
  have HL := Lib.hid (show (s.data.toList.drop 4).length = s.size - 4 by simp)
  have hct : ∀ W : World, Calls Try.prog 33 #[.agg #[.string (userS s), .string (hostS s)]] W fun e w' => e = .returned (.string s) ∧ Below W.heap.size W w' := by
    intro W
    have := sat_t (userS s) (hostS s) W (by rw [userS_list]; exact h3) (by rw [hostS_list]; exact h4)
    rw [userS_list, hostS_list, addrT_of h1 h2] at this
    exact this
  have hcv : ∀ W : World, Calls Try.prog 43 #[.agg #[.string (userS s), .string (hostS s)]] W fun e w' => e = .returned (.bool true) ∧ Below W.heap.size W w' := by
    intro W
    exact sav_t (userS s) (hostS s) W (by rw [userS_list]; exact h3) (by rw [hostS_list]; exact h4)
  have HCT := Lib.hid hct
  have HCV := Lib.hid hcv
  have H2 := Lib.hid h2
  have h0 : ¬ s.size < 4 := by have := HL.out; omega
  clear h1 h2 h3 h4 hct hcv
  unfold maxLen at hs
  go_enter Try.func25, Try.ntmps25
  go_wp2
  go_loop [4] (fun i => ∃ k : Nat, 4 ≤ k ∧ k ≤ s.size ∧ i = .int .i64 k ∧ k ≤ 4 + atL (s.data.toList.drop 4)) (fun i => s.size - (intOf i).toNat)
  case atStart => exact ⟨4, by omega, by omega, rfl, by omega⟩
  case round =>
    obtain ⟨k, hk4, hk, rfl, hat⟩ := hrel
    have HT := Lib.hid hat
    clear hat
    by_cases hlt : k < s.size
    · by_cases h3 : s[k] = 64
      · have he := at4_hit s k hlt hk4 HT.out h3
        have HU := Lib.hid (user_bytes4 s k he.symm)
        have HH := Lib.hid (host_bytes4 s k he.symm)
        have h4 := u8_eq h3
        have hb : ((k : Int) == (s.size : Int)) = false := by rw [beq_eq_false_iff_ne]; omega
        clear h3 he HT
        go_wp2
        go_region
        go_wp2_with fail
        rw [HU.out, HH.out]
        refine (HCT.out _).mono ?_
        rintro e w1 ⟨rfl, hb1⟩
        obtain ⟨hcl, hfr⟩ := bcell hb1
        have HB := Lib.hid (((below_drew (((Below.refl w.heap.size w).alloc (Nat.le_refl _) (.cells #[.string ⟨#[]⟩, .string ⟨#[]⟩] 26)).alloc (by simp) (.cells #[.string (userS s), .string (hostS s)] 26)))).trans (hb1.mono (by simp; omega)))
        have HZ := Lib.hid hb1.size
        clear hb1
        have hsz : w.heap.size + 1 < w1.heap.size := by have := HZ.out; simp at this; omega
        have hc0 : w1.cell? ⟨w.heap.size, 0, none⟩ = some (.string ⟨#[]⟩) := by rw [hcl _ _ (by simp; omega)]; simp [go_sem]
        have hc1 : w1.cell? ⟨w.heap.size, 1, none⟩ = some (.string ⟨#[]⟩) := by rw [hcl _ _ (by simp; omega)]; simp [go_sem]
        have hf0 : w1.frozen? ⟨w.heap.size, 0, none⟩ = false := by rw [hfr _ _ (by simp; omega)]; simp [go_sem]
        have hf1 : w1.frozen? ⟨w.heap.size, 1, none⟩ = false := by rw [hfr _ _ (by simp; omega)]; simp [go_sem]
        have hd0 : w1.cell? ⟨w.heap.size + 1, 0, none⟩ = some (.string (userS s)) := by rw [hcl _ _ (by simp)]; simp [go_sem]
        have hd1 : w1.cell? ⟨w.heap.size + 1, 1, none⟩ = some (.string (hostS s)) := by rw [hcl _ _ (by simp)]; simp [go_sem]
        clear hcl hfr
        go_wp2_with fail
        refine (HCV.out _).mono ?_
        rintro e w2 ⟨rfl, hb2⟩
        obtain ⟨hcl, hfr⟩ := bcell hb2
        have HB2 := Lib.hid (HB.out.trans (hb2.mono (by omega)))
        have hz2 := hb2.size
        clear hb2
        have hsz2 : w.heap.size + 1 < w2.heap.size := by omega
        have he0 := (hcl w.heap.size 0 (by omega)).trans hc0
        have he1 := (hcl w.heap.size 1 (by omega)).trans hc1
        have HT := Lib.hid (set_two he0 he1 (.string (userS s)) (.string (hostS s)))
        have hf0' := (hfr w.heap.size 0 (by omega)).trans hf0
        have hf1' := (hfr w.heap.size 1 (by omega)).trans hf1
        have hd0' := (hcl (w.heap.size + 1) 0 (by omega)).trans hd0
        have hd1' := (hcl (w.heap.size + 1) 1 (by omega)).trans hd1
        clear hcl hfr hc0 hc1 hd0 hd1 hf0 hf1
        go_wp2
        have hT := HT.out
        try simp only [Exit.inBlock, Exit.then]
        refine bodyPost_ret (v := .tuple #[.agg #[.string (userS s), .string (hostS s)], .bool true]) (by simp [results, Try.results25, go_sem, hT.1, hT.2]) rfl ⟨rfl, ?_⟩
        repeat (first | exact HB2.out | refine Below.setCell ?_ (by simp) _)
      · have HE := Lib.hid (at4_miss s k hlt hk4 HT.out h3)
        have h4 := u8_ne h3
        clear h3
        go_wp2
        go_round
        case rel => exact ⟨k + 1, by omega, by omega, by go_num, HE.out⟩
        case measure => simp [intOf]; omega
    · exfalso
      have e1 := HT.out
      have e2 := H2.out
      have e3 := HL.out
      omega
set_option maxHeartbeats 1000000 in
theorem sra_f4 (s : ByteArray) (w : World) (hs : s.size ≤ maxLen) (h2 : atL (s.data.toList.drop 4) < (s.data.toList.drop 4).length) (hp : addrB s.data.toList = false) :
    Calls Try.prog 25 #[.string s] w fun e w' => e = .returned noAddr ∧ Below w.heap.size w w' := by
  have HL := Lib.hid (show (s.data.toList.drop 4).length = s.size - 4 by simp)
  have hlen : s.data.toList.length = s.size := by simp
  obtain ⟨T, hT, hct⟩ : ∃ T : ByteArray, (T.toList == s.toList) = false ∧ ∀ W : World, Calls Try.prog 33 #[.agg #[.string (userS s), .string (hostS s)]] W fun e w' => e = .returned (.string T) ∧ Below W.heap.size W w' := by
    by_cases hw : (wordB (userOf s.data.toList) && wordB (hostOf s.data.toList)) = true
    · rw [Bool.and_eq_true] at hw
      refine ⟨⟨(addrT (userOf s.data.toList) (hostOf s.data.toList)).toArray⟩, ?_, fun W => ?_⟩
      · rw [beq_eq_false_iff_ne, ByteArray.toList_eq, ByteArray.toList_eq]
        intro e
        have e2 : addrT (userOf s.data.toList) (hostOf s.data.toList) = s.data.toList := e
        have h1 : sipB s.data.toList = true := by rw [← e2]; exact addrT_sip _ _
        unfold addrB at hp
        rw [h1, decide_eq_true h2, hw.1, hw.2] at hp
        cases hp
      · have := sat_t (userS s) (hostS s) W (by rw [userS_list]; exact hw.1) (by rw [hostS_list]; exact hw.2)
        rw [userS_list, hostS_list] at this
        exact this
    · refine ⟨ByteArray.empty, ?_, fun W => sat_f (userS s) (hostS s) W (userS_max s hs) (hostS_max s hs) (by rw [userS_list, hostS_list]; simpa using hw)⟩
      rw [beq_eq_false_iff_ne, ByteArray.toList_eq, ByteArray.toList_eq]
      intro e
      rw [← e] at hlen
      have e3 := HL.out
      have : (ByteArray.empty.data.toList).length = 0 := rfl
      omega
  have HCT := Lib.hid hct
  have H2 := Lib.hid h2
  have h0 : ¬ s.size < 4 := by have := HL.out; omega
  clear h2 hct hp hlen
  unfold maxLen at hs
  go_enter Try.func25, Try.ntmps25
  go_wp2
  go_loop [4] (fun i => ∃ k : Nat, 4 ≤ k ∧ k ≤ s.size ∧ i = .int .i64 k ∧ k ≤ 4 + atL (s.data.toList.drop 4)) (fun i => s.size - (intOf i).toNat)
  case atStart => exact ⟨4, by omega, by omega, rfl, by omega⟩
  case round =>
    obtain ⟨k, hk4, hk, rfl, hat⟩ := hrel
    have HT := Lib.hid hat
    clear hat
    by_cases hlt : k < s.size
    · by_cases h3 : s[k] = 64
      · have he := at4_hit s k hlt hk4 HT.out h3
        have HU := Lib.hid (user_bytes4 s k he.symm)
        have HH := Lib.hid (host_bytes4 s k he.symm)
        have h4 := u8_eq h3
        have hb : ((k : Int) == (s.size : Int)) = false := by rw [beq_eq_false_iff_ne]; omega
        clear h3 he HT
        go_wp2
        go_region
        go_wp2_with fail
        rw [HU.out, HH.out]
        refine (HCT.out _).mono ?_
        rintro e w1 ⟨rfl, hb1⟩
        obtain ⟨hcl, hfr⟩ := bcell hb1
        have HB := Lib.hid (((below_drew (((Below.refl w.heap.size w).alloc (Nat.le_refl _) (.cells #[.string ⟨#[]⟩, .string ⟨#[]⟩] 26)).alloc (by simp) (.cells #[.string (userS s), .string (hostS s)] 26)))).trans (hb1.mono (by simp; omega)))
        have HZ := Lib.hid hb1.size
        clear hb1
        have hsz : w.heap.size + 1 < w1.heap.size := by have := HZ.out; simp at this; omega
        have hc0 : w1.cell? ⟨w.heap.size, 0, none⟩ = some (.string ⟨#[]⟩) := by rw [hcl _ _ (by simp; omega)]; simp [go_sem]
        have hc1 : w1.cell? ⟨w.heap.size, 1, none⟩ = some (.string ⟨#[]⟩) := by rw [hcl _ _ (by simp; omega)]; simp [go_sem]
        have hf0 : w1.frozen? ⟨w.heap.size, 0, none⟩ = false := by rw [hfr _ _ (by simp; omega)]; simp [go_sem]
        have hf1 : w1.frozen? ⟨w.heap.size, 1, none⟩ = false := by rw [hfr _ _ (by simp; omega)]; simp [go_sem]
        have hd0 : w1.cell? ⟨w.heap.size + 1, 0, none⟩ = some (.string (userS s)) := by rw [hcl _ _ (by simp)]; simp [go_sem]
        have hd1 : w1.cell? ⟨w.heap.size + 1, 1, none⟩ = some (.string (hostS s)) := by rw [hcl _ _ (by simp)]; simp [go_sem]
        clear hcl hfr
        have HT := Lib.hid (set_two hc0 hc1 (.string ⟨#[]⟩) (.string ⟨#[]⟩))
        go_wp2
        have hT := HT.out
        try simp only [Exit.inBlock, Exit.then]
        refine bodyPost_ret (v := .tuple #[.agg #[.string ⟨#[]⟩, .string ⟨#[]⟩], .bool false]) (by simp [results, Try.results25, go_sem, hT.1, hT.2]) rfl ⟨rfl, ?_⟩
        repeat (first | exact HB.out | refine Below.setCell ?_ (by simp) _)
      · have HE := Lib.hid (at4_miss s k hlt hk4 HT.out h3)
        have h4 := u8_ne h3
        clear h3
        go_wp2
        go_round
        case rel => exact ⟨k + 1, by omega, by omega, by go_num, HE.out⟩
        case measure => simp [intOf]; omega
    · exfalso
      have e1 := HT.out
      have e2 := H2.out
      have e3 := HL.out
      omega

theorem sra_f (s : ByteArray) (w : World) (hs : s.size ≤ maxLen) (hp : addrB s.data.toList = false) :
    Calls Try.prog 25 #[.string s] w fun e w' => e = .returned noAddr ∧ Below w.heap.size w w' := by
  by_cases h0 : s.size < 4
  · exact sra_f1 s w hs h0
  by_cases h2 : atL (s.data.toList.drop 4) < (s.data.toList.drop 4).length
  · exact sra_f4 s w hs h2 hp
  · exact sra_f3 s w hs h0 h2
end Go.Proofs.Ytplcdadedpbkpaa
