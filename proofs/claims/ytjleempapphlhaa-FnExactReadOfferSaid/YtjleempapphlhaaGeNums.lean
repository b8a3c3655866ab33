/- Parts of the proof: Nums. -/
import Derived.OwnWalk
import Derived.Lib.SlBytesConst
import Derived.Outline
import Derived.Test.YtjleempapphlhaaGeTexts
import Derived.Test.YtjleempapphlhaaGeLine
import Derived.Test.YtjleempapphlhaaGeConv
section
namespace Go.Proofs.Ytjleempapphlhaa
open Go.RowKit
set_option maxRecDepth 20000
set_option linter.unusedVariables false
theorem dg_lit (d : Nat) (h : d < 10) : ByteArray.extract ⟨#[48, 49, 50, 51, 52, 53, 54, 55, 56, 57]⟩ d (d + 1) = ⟨#[dg d]⟩ := by
  match d, h with
  | 0, _ => rfl
  | 1, _ => rfl
  | 2, _ => rfl
  | 3, _ => rfl
  | 4, _ => rfl
  | 5, _ => rfl
  | 6, _ => rfl
  | 7, _ => rfl
  | 8, _ => rfl
  | 9, _ => rfl
theorem digit_any (d : Int) (w : World) (h0 : 0 ≤ d) (h : d < 10) :
    Calls Try.prog 64 #[.int .i64 d] w fun e w' => e = .returned (.string ⟨#[dg d.toNat]⟩) ∧ w = w' := by
  go_enter Try.func64, Try.ntmps64
  go_wp2
  go_ret
  refine ⟨ret_str ?_, rfl⟩
  have := dg_lit d.toNat (by omega)
  rw [show d.toNat + 1 = (d + 1).toNat by omega] at this
  exact this
set_option maxHeartbeats 400000 in
theorem inum_yes (n : Int) (w : World) (h : 0 ≤ n) (h1 : n ≤ 1000000) :
    Calls Try.prog 58 #[.int .i64 n] w fun e w' => e = .returned (.string ⟨(numT n.toNat).toArray⟩) ∧ w = w' := by
  go_enter Try.func58, Try.ntmps58
  go_wp2_with (go_at_call 64; refine (digit_any _ _ (by omega) (by omega)).mono ?_; rintro e w' ⟨rfl, rfl⟩)
  go_loop [3, 4] (fun t i => ∃ r : Nat, ∃ b : ByteArray, r ≤ 1000000 ∧ i = .int .i64 r ∧ t = .string b ∧ preT r ++ b.data.toList = numT n.toNat) (fun _ i => (intOf i).toNat)
  case atStart => 
    refine ⟨(n / 10).toNat, ⟨#[dg (n % 10).toNat]⟩, by omega, by go_num, rfl, ?_⟩
    rw [numT_eq n.toNat, show n.toNat / 10 = (n / 10).toNat by omega, show n.toNat % 10 = (n % 10).toNat by omega]
  case round =>
    obtain ⟨r, b, hr, rfl, rfl, hp⟩ := hrel
    have hb : b.size ≤ 7 := by
      have h7 := numT_len7 n.toNat (by omega)
      have hq := congrArg List.length hp
      rw [List.length_append] at hq
      have : b.data.toList.length = b.size := by simp
      omega
    have HP := Lib.hid hp
    clear hp
    by_cases h3 : 0 < r
    · go_wp2_with (go_at_call 64; refine (digit_any _ _ (by omega) (by omega)).mono ?_; rintro e w' ⟨rfl, rfl⟩)
      go_round
      case rel =>
        refine ⟨r / 10, _, by omega, by go_num, rfl, ?_⟩
        rw [cat_list]
        have := rest_step r h3 b.data.toList
        rw [← HP.out, ← this, ← tod r]
      case measure => simp [intOf] <;> omega
    · go_wp2
      go_ret
      refine ⟨ret_str (str_of ?_), rfl⟩
      obtain rfl : r = 0 := by omega
      exact HP.out
theorem inum_no (n : Int) (w : World) (h : n < 0 ∨ 1000000 < n) :
    Calls Try.prog 58 #[.int .i64 n] w fun e w' => e = .returned (.string ByteArray.empty) ∧ w = w' := by
  by_cases h0 : n < 0
  · go_enter Try.func58, Try.ntmps58
    go_wp2
    go_ret
    exact ⟨rfl, rfl⟩
  · have h1 : 1000000 < n := by omega
    have h2 : 0 ≤ n := by omega
    go_enter Try.func58, Try.ntmps58
    go_wp2
    go_ret
    exact ⟨rfl, rfl⟩
/-- The text of a number, as bytes. -/
def textS (n : Int) : ByteArray := ⟨(textN n).toArray⟩
theorem textS_yes {n : Int} (h : 0 ≤ n) (h1 : n ≤ 1000000) : textS n = ⟨(numT n.toNat).toArray⟩ := by
  unfold textS textN; rw [if_pos ⟨h, h1⟩]
theorem textS_no {n : Int} (h : n < 0 ∨ 1000000 < n) : textS n = ByteArray.empty := by
  unfold textS textN; rw [if_neg (by omega)]; rfl
theorem inum_any (n : Int) (w : World) :
    Calls Try.prog 58 #[.int .i64 n] w fun e w' => e = .returned (.string (textS n)) ∧ w = w' := by
  by_cases h : 0 ≤ n ∧ n ≤ 1000000
  · rw [textS_yes h.1 h.2]; exact inum_yes n w h.1 h.2
  · rw [textS_no (by omega)]; exact inum_no n w (by omega)
set_option maxHeartbeats 400000 in
theorem snum_yes (n : Int) (w : World) (h : 0 ≤ n) (h1 : n ≤ 1000000) :
    Calls Try.prog 47 #[.int .i64 n] w fun e w' => e = .returned (.string ⟨(numT n.toNat).toArray⟩) ∧ Below w.heap.size w w' := by
  have kone := run_one
  go_enter Try.func47, Try.ntmps47
  go_wp2_with (go_at_call 44; refine (in_any _ _ _ _).mono ?_; rintro e w' ⟨rfl, rfl⟩)
  go_loopw [0, 3] (fun i t wr => ∃ r : Nat, ∃ b : ByteArray, r ≤ 1000000 ∧ i = .int .i64 r ∧ t = .string b ∧ preT (r / 10) ++ b.data.toList = numT n.toNat ∧ Below w.heap.size w wr) (fun i _ _ => (intOf i).toNat)
  case atStart => 
    refine ⟨n.toNat, _, by omega, by go_num, rfl, ?_, (Below.refl _ _).alloc (Nat.le_refl _) _⟩
    rw [numT_eq n.toNat, ← dg_int n.toNat, show ((n.toNat : Nat) : Int) = n by omega]
  case round =>
    obtain ⟨r, b, hr, rfl, rfl, hp, hbel⟩ := hrel
    have hb : b.size ≤ 7 := by
      have h7 := numT_len7 n.toNat (by omega)
      have hq := congrArg List.length hp
      rw [List.length_append] at hq
      have : b.data.toList.length = b.size := by simp
      omega
    have HP := Lib.hid hp
    clear hp
    have HB := Lib.hid hbel
    clear hbel
    by_cases h3 : 9 < r
    · go_wp2
      go_roundw
      case rel =>
        refine ⟨r / 10, _, by omega, by go_num, rfl, ?_, ?_⟩
        · rw [cat_list, ← HP.out, ← rest_step (r / 10) (by omega), ← dg_int (r / 10), show (((r / 10 : Nat) : Int)) = (r : Int) / 10 by omega]
        · exact HB.out.alloc HB.out.size _
      case measure => simp [intOf]; omega
    · go_wp2
      go_ret
      refine ⟨ret_str (str_of ?_), HB.out⟩
      have := HP.out
      rw [show r / 10 = 0 by omega] at this
      exact this
theorem snum_no (n : Int) (w : World) (h : n < 0 ∨ 1000000 < n) :
    Calls Try.prog 47 #[.int .i64 n] w fun e w' => e = .returned (.string ByteArray.empty) ∧ Below w.heap.size w w' := by
  have hq : (decide ((0 : Int) ≤ n) && decide (n ≤ 1000000)) = false := by
    rw [Bool.and_eq_false_iff]
    rcases h with h | h
    · exact .inl (decide_eq_false (by omega))
    · exact .inr (decide_eq_false (by omega))
  have hc : ∀ W : World, Calls Try.prog 44 #[.int .i64 n, .int .i64 0, .int .i64 1000000] W fun e w' => e = .returned (.bool false) ∧ W = w' := by
    intro W; have := in_any n 0 1000000 W; rw [hq] at this; exact this
  clear hq h
  go_enter Try.func47, Try.ntmps47
  go_wp2_with (go_at_call 44; refine (hc _).mono ?_; rintro e w' ⟨rfl, rfl⟩)
  go_ret
  exact ⟨rfl, Below.refl _ _⟩
theorem snum_any (n : Int) (w : World) :
    Calls Try.prog 47 #[.int .i64 n] w fun e w' => e = .returned (.string (textS n)) ∧ Below w.heap.size w w' := by
  by_cases h : 0 ≤ n ∧ n ≤ 1000000
  · rw [textS_yes h.1 h.2]; exact snum_yes n w h.1 h.2
  · rw [textS_no (by omega)]; exact snum_no n w (by omega)
theorem bk_nd (c : UInt8) (w : World) (h : isDi c = false) :
    Calls Try.prog 56 #[.int .u8 (c.toNat : Int)] w fun e w' => (∃ k : Int, (k != 3) = true ∧ e = .returned (.int .i64 k)) ∧ w = w' := by
  by_cases hl : isLo c = true
  · exact (bk_4 c w hl).mono fun _ _ ⟨he, hw⟩ => ⟨⟨4, rfl, he⟩, hw⟩
  · exact (bk_0 c w (by simpa using hl) h).mono fun _ _ ⟨⟨k, _, h3, he⟩, hw⟩ => ⟨⟨k, h3, he⟩, hw⟩
theorem val_step (s : ByteArray) (k : Nat) (h : k < s.size) : val (s.data.toList.take (k + 1)) = val (s.data.toList.take k) * 10 + ((s[k].toNat : Int) - 48) := by
  rw [take_snoc s k h, val_snoc]; omega
set_option maxHeartbeats 800000 in
theorem iread_any (s : ByteArray) (w : World) (hs : s.size ≤ maxLen) :
    Calls Try.prog 62 #[.string s] w fun e w' => e = .returned (.int .i64 (readN s.data.toList)) ∧ w = w' := by
  unfold maxLen at hs
  have HL := Lib.hid (show s.data.toList.length = s.size by simp)
  by_cases h0 : s.size = 0
  · have hb0 : ((s.size : Int) == 0) = true := beq_iff_eq.mpr (by omega)
    have HZ := Lib.hid (List.eq_nil_of_length_eq_zero (HL.out.trans h0))
    clear h0
    go_enter Try.func62, Try.ntmps62
    go_wp2
    go_ret
    exact ⟨ret_int (by rw [HZ.out, readN_nil]), rfl⟩
  have hb0 : ((s.size : Int) == 0) = false := beq_eq_false_iff_ne.mpr (by omega)
  have hp : 0 < s.size := by omega
  have hh := Lib.hid (head_at s hp)
  have HZ : Hid (s.data.toList ≠ []) := by intro e; have := HL.out; rw [e] at this; exact h0 this.symm
  clear h0
  by_cases hlead : 1 < s.size ∧ s[0].toNat = 48
  · obtain ⟨hl1, hl2⟩ := hlead
    have HR : Hid (readN s.data.toList = -1) := readN_zero _ (by have := HL.out; omega) (by rw [hh.out]; exact hl2)
    have hl3 : ((s[0].toNat : Int) == 48) = true := beq_iff_eq.mpr (by omega)
    have hl4 : 1 < (s.size : Int) := by omega
    clear hl2
    go_enter Try.func62, Try.ntmps62
    go_wp2
    go_ret
    exact ⟨ret_int (by rw [HR.out]), rfl⟩
  have HH : Hid (s.data.toList.length = 1 ∨ (s.data.toList.headD 0).toNat ≠ 48) := by
    have := HL.out
    by_cases h1 : s.size = 1
    · exact .inl (by omega)
    · refine .inr ?_
      rw [hh.out]; intro e; exact hlead ⟨by omega, e⟩
  have hlead' : (s.size : Int) ≤ 1 ∨ (1 < (s.size : Int) ∧ ((s[0].toNat : Int) == 48) = false) := by
    by_cases h1 : 1 < s.size
    · exact .inr ⟨by omega, beq_eq_false_iff_ne.mpr (by intro e; exact hlead ⟨h1, by omega⟩)⟩
    · exact .inl (by omega)
  clear hlead
  rcases hlead' with hl1 | ⟨hl1, hl2⟩
  all_goals
    go_enter Try.func62, Try.ntmps62
    go_wp2
    go_loop [3, 4] (fun n i => ∃ k : Nat, ∃ v : Int, k ≤ s.size ∧ i = .int .i64 k ∧ n = .int .i64 v ∧ 0 ≤ v ∧ v ≤ 1000000 ∧ v = val (s.data.toList.take k) ∧ (s.data.toList.take k).all isDi = true) (fun _ i => s.size - (intOf i).toNat)
    case atStart => exact ⟨0, 0, Nat.zero_le _, rfl, rfl, by omega, by omega, rfl, rfl⟩
    case round =>
      obtain ⟨k, v, hk, rfl, rfl, hv0, hv1, hv, hall⟩ := hrel
      have HA := Lib.hid hall
      have HV := Lib.hid hv
      clear hall hv
      by_cases hlt : k < s.size
      · have HS := Lib.hid (all_snoc isDi s k hlt)
        have HT := Lib.hid (val_step s k hlt)
        by_cases h3 : isDi s[k] = true
        · have HE := Lib.hid h3
          have h4 := of_decide_eq_true h3
          by_cases h5 : 1000000 < v * 10 + ((s[k].toNat : Int) - 48)
          · have HR : Hid (readN s.data.toList = -1) := readN_great _ (k + 1) (by rw [HT.out, ← HV.out]; exact h5)
            go_wp2_with (go_at_call 56; refine (bk_d _ _ h3).mono ?_; rintro e w' ⟨rfl, rfl⟩)
            go_ret
            exact ⟨ret_int (by rw [HR.out]), rfl⟩
          · go_wp2_with (go_at_call 56; refine (bk_d _ _ h3).mono ?_; rintro e w' ⟨rfl, rfl⟩)
            go_round
            case rel => exact ⟨k + 1, _, by omega, by go_num, rfl, by omega, by omega, by rw [HT.out, ← HV.out], by rw [HS.out, HA.out, HE.out]; rfl⟩
            case measure => simp [intOf]; omega
        · have h3 : isDi s[k] = false := by simpa using h3
          have HE : Hid (readN s.data.toList = -1) := readN_digit _ (all_not isDi s k hlt h3)
          go_wp2_with (go_at_call 56; refine (bk_nd _ _ h3).mono ?_; rintro e w' ⟨⟨kk, hq, rfl⟩, rfl⟩)
          go_ret
          exact ⟨ret_int (by rw [HE.out]), rfl⟩
      · go_wp2
        go_ret
        refine ⟨ret_int ?_, rfl⟩
        have e1 : s.data.toList.take k = s.data.toList := List.take_of_length_le (by have := HL.out; omega)
        have h1 := HA.out
        have h2 := HV.out
        rw [e1] at h1 h2
        rw [readN_of _ HZ.out h1 HH.out (by rw [← h2]; exact hv1), h2]
theorem take8 (s : ByteArray) (k : Nat) (hk : k ≤ s.size) (h8 : k ≤ 8) (h : s.size ≤ k ∨ k = 8) : s.data.toList.take k = s.data.toList.take 8 := by
  rcases h with h | h
  · rw [List.take_of_length_le (by simp; omega), List.take_of_length_le (by simp; omega)]
  · rw [h]
set_option maxHeartbeats 800000 in
theorem sread_any (s : ByteArray) (w : World) (hs : s.size ≤ maxLen) :
    Calls Try.prog 55 #[.string s] w fun e w' => e = .returned (.int .i64 (readN s.data.toList)) ∧ Below w.heap.size w w' := by
  unfold maxLen at hs
  have HL := Lib.hid (show s.data.toList.length = s.size by simp)
  go_enter Try.func55, Try.ntmps55
  go_wp2
  go_loop [3, 4] (fun n i => ∃ k : Nat, ∃ v : Int, k ≤ s.size ∧ k ≤ 8 ∧ i = .int .i64 k ∧ n = .int .i64 v ∧ v = val (s.data.toList.take k) ∧ (s.data.toList.take k).all isDi = true) (fun _ i => s.size - (intOf i).toNat)
  case atStart => exact ⟨0, 0, Nat.zero_le _, by omega, rfl, rfl, rfl, rfl⟩
  case round =>
    obtain ⟨k, v, hk, hk8, rfl, rfl, hv, hall⟩ := hrel
    have hv0 : 0 ≤ v := by rw [hv]; exact val_nonneg _ hall
    have hv1 : v < 100000000 := by rw [hv]; exact val_lt8 _ (by rw [List.length_take]; omega) hall
    have HA := Lib.hid hall
    have HV := Lib.hid hv
    clear hall hv
    by_cases hlt : k < s.size ∧ k < 8
    · obtain ⟨hlt, hlt8⟩ := hlt
      have HS := Lib.hid (all_snoc isDi s k hlt)
      have HT := Lib.hid (val_step s k hlt)
      by_cases h3 : isDi s[k] = true
      · have HE := Lib.hid h3
        have h4 := of_decide_eq_true h3
        go_wp2
        go_round
        case rel => exact ⟨k + 1, _, by omega, by omega, by go_num, rfl, by rw [HT.out, ← HV.out]; omega, by rw [HS.out, HA.out, HE.out]; rfl⟩
        case measure => simp [intOf]; omega
      · have h3 : isDi s[k] = false := by simpa using h3
        have HE : Hid (readN s.data.toList = -1) := readN_digit _ (all_not isDi s k hlt h3)
        have h4 : (s[k].toNat : Int) < 48 ∨ (48 ≤ (s[k].toNat : Int) ∧ 57 < (s[k].toNat : Int)) := by have := of_decide_eq_false h3; omega
        rcases h4 with h4 | ⟨h4, h4'⟩
        all_goals
          go_wp2
          go_ret
          exact ⟨ret_int (by rw [HE.out]), Below.refl _ _⟩
    · have hend : s.size ≤ k ∨ k = 8 := by omega
      have HV8 : Hid (v = val (s.data.toList.take 8)) := by rw [← take8 s k hk hk8 hend]; exact HV.out
      have hlt' : ¬ k < s.size ∨ (k < s.size ∧ ¬ k < 8) := by omega
      clear HV HA
      by_cases h0 : s.data.toList = []
      · have HN := Lib.hid h0
        have hE : s.toList = [] := by rw [ByteArray.toList_eq]; exact h0
        have hE2 : s.toList.isEmpty = true := by rw [hE]; rfl
        clear hE h0
        rcases hlt' with hlt' | ⟨hlt', hlt''⟩
        all_goals
          go_wp2
          go_ret
          exact ⟨ret_int (by rw [HN.out, readN_nil]), Below.refl _ _⟩
      · have HN := Lib.hid h0
        have hE2 : s.toList.isEmpty = false := by
          rw [List.isEmpty_eq_false_iff, ByteArray.toList_eq]; exact h0
        clear h0
        have e8 : (textS v).toList = textN v := by rw [ByteArray.toList_eq]; rfl
        by_cases ht : textN v = s.data.toList
        · have HR := Lib.hid (readN_eq _ v HV8.out HN.out ht)
          have hB : ((textS v).toList == s.toList) = true := by rw [beq_iff_eq, e8, ByteArray.toList_eq]; exact ht
          clear ht e8
          rcases hlt' with hlt' | ⟨hlt', hlt''⟩
          all_goals
            go_wp2_with (go_at_call 47; refine (snum_any _ _).mono ?_; rintro e w' ⟨rfl, hbel⟩)
            go_ret
            exact ⟨ret_int (by rw [HR.out]), hbel⟩
        · have HR := Lib.hid (readN_ne _ v HV8.out ht)
          have hB : ((textS v).toList == s.toList) = false := by rw [beq_eq_false_iff_ne, e8, ByteArray.toList_eq]; exact ht
          clear ht e8
          rcases hlt' with hlt' | ⟨hlt', hlt''⟩
          all_goals
            go_wp2_with (go_at_call 47; refine (snum_any _ _).mono ?_; rintro e w' ⟨rfl, hbel⟩)
            go_ret
            exact ⟨ret_int (by rw [HR.out]), hbel⟩
end Go.Proofs.Ytjleempapphlhaa
end
