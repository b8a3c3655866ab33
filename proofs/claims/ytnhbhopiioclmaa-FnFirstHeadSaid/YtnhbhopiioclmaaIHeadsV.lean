/- The contracts of the program's functions of chapter 3: valid heads, the place of a head, first heads. -/
import Derived.Test.YtnhbhopiioclmaaHeadsR
import Derived.Outline
namespace Go.Proofs.Ytnhbhopiioclmaa
open Go.RowKit
set_option linter.unusedVariables false

set_option maxHeartbeats 1000000 in
theorem ihd_any (x y : ByteArray) (w : World) (hu : x.size ≤ maxLen) (hh : y.size ≤ maxLen) :
    Calls Try.prog 43 #[.agg #[.string x, .string y]] w fun e w' => e = .returned (.bool (wordB x.data.toList && lineB y.data.toList)) ∧ Below w.heap.size w w' := by
  have HU := Lib.hid hu
  have HH := Lib.hid hh
  clear hu hh
  by_cases h1 : wordB x.data.toList = true
  · have H1 := Lib.hid h1
    clear h1
    go_enter Try.func43, Try.ntmps43
    go_wp2_with fail
    refine (iword_t _ _ HU.out H1.out).mono ?_
    rintro e w' ⟨rfl, rfl⟩
    go_wp2_with fail
    refine (iline_any _ _ HH.out).mono ?_
    rintro e w' ⟨rfl, rfl⟩
    go_wp2
    go_ret
    exact ⟨ret_bool (by rw [H1.out]; rfl), (Below.refl _ _).alloc (Nat.le_refl _) _⟩
  · have h1 : wordB x.data.toList = false := by simpa using h1
    have H1 := Lib.hid h1
    clear h1
    go_enter Try.func43, Try.ntmps43
    go_wp2_with fail
    refine (iword_f _ _ HU.out H1.out).mono ?_
    rintro e w' ⟨rfl, rfl⟩
    go_wp2
    go_ret
    exact ⟨ret_bool (by rw [H1.out]; rfl), (Below.refl _ _).alloc (Nat.le_refl _) _⟩
theorem ihd_b (p : HeadM) (v : Bool) (w : World) (hm : p.x0.size ≤ maxLen ∧ p.x1.size ≤ maxLen) (hv : headB p = v) :
    Calls Try.prog 43 #[.agg #[.string p.x0, .string p.x1]] w fun e w' => e = .returned (.bool v) ∧ Below w.heap.size w w' := by
  have := ihd_any p.x0 p.x1 w hm.1 hm.2
  rw [← hv]; exact this

set_option maxHeartbeats 1000000 in
theorem ihv_any (A : Option Addr) (n c : Nat) (hs : List HeadM) (w : World) (hn : n = hs.length) (hc : n ≤ maxLen) (hr : Sees w w.heap.size 2 A n (flat headC hs)) (hm : headMax hs) :
    Calls Try.prog 14 #[.slice A n c] w fun e w' => e = .returned (.bool (headsB hs)) ∧ Below w.heap.size w w' := by
  unfold maxLen at hc
  have HR := Lib.hid hr
  have HM := Lib.hid hm
  have HN := Lib.hid hn
  clear hr hm hn
  by_cases h8 : 8 < n
  · go_enter Try.func14, Try.ntmps14
    go_wp2
    go_ret
    exact ⟨ret_bool (by unfold headsB; rw [← HN.out, decide_eq_false (by omega)]; rfl), Below.refl _ _⟩
  have HD : Hid (decide (hs.length ≤ 8) = true) := Lib.hid (decide_eq_true (by rw [← HN.out]; omega))
  go_enter Try.func14, Try.ntmps14
  go_wp2
  go_loopw [3] (fun i wr => ∃ k : Nat, k ≤ n ∧ i = .int .i64 k ∧ (hs.take k).all headB = true ∧ Below w.heap.size w wr) (fun i _ => n - (intOf i).toNat)
  case atStart => exact ⟨0, Nat.zero_le _, rfl, rfl, Below.refl _ _⟩
  case round =>
    obtain ⟨k, hk, rfl, hall, hbel⟩ := hrel
    have HA := Lib.hid hall
    have HB := Lib.hid hbel
    clear hall hbel
    by_cases hlt : k < n
    · obtain ⟨b, off, rfl, hb, hcell⟩ := (HR.out.below HB.out (Nat.le_refl _)).2 (by omega)
      obtain ⟨p, hp⟩ := get_of HN.out hlt
      have HP := Lib.hid hp
      have HX := Lib.hid (heads_max HM.out hp)
      obtain ⟨c0, c1⟩ := head_cells hcell hp
      clear hcell hb hp
      obtain ⟨v, hv⟩ : ∃ v, headB p = v := ⟨_, rfl⟩
      have HV := Lib.hid hv
      clear hv
      go_wp2_with fail
      refine (ihd_b p v _ HX.out HV.out).mono ?_
      rintro e w1 ⟨rfl, hb1⟩
      have HB1 := Lib.hid (btrans HB.out hb1)
      clear hb1
      cases v
      · go_wp2
        go_ret
        refine ⟨ret_bool ?_, HB1.out⟩
        unfold headsB
        rw [all_no headB HP.out HV.out, Bool.and_false]
      · go_wp2
        go_roundw
        case rel => exact ⟨k + 1, by omega, by go_num, by rw [all_more headB HP.out, HA.out, HV.out]; rfl, HB1.out⟩
        case measure => simp [intOf]; omega
    · go_wp2
      go_ret
      refine ⟨ret_bool ?_, HB.out⟩
      have h1 := HA.out
      rw [take_all HN.out hlt] at h1
      unfold headsB
      rw [h1, HD.out]; rfl

set_option maxHeartbeats 1000000 in
/-- The place of the first head with a name. -/
theorem iat_yes (A : Option Addr) (n c k0 : Nat) (hs : List HeadM) (nm : ByteArray) (q : HeadM) (w : World) (hn : n = hs.length) (hc : n ≤ maxLen) (hr : Sees w w.heap.size 2 A n (flat headC hs))
    (hq : hs[k0]? = some q) (hb4 : ∀ p ∈ hs.take k0, nameB nm p = false) (hq2 : nameB nm q = true) :
    Calls Try.prog 50 #[.slice A n c, .string nm] w fun e w' => e = .returned (.int .i64 (k0 : Int)) ∧ w = w' := by
  have hk0 : k0 < n := by rw [hn]; exact (List.getElem?_eq_some_iff.mp hq).1
  have HR := Lib.hid hr
  have HN := Lib.hid hn
  have HQ := Lib.hid hq
  have HQ2 := Lib.hid hq2
  have HB4 := Lib.hid hb4
  unfold maxLen at hc
  clear hr hn hq hq2 hb4
  go_enter Try.func50, Try.ntmps50
  go_wp2
  go_loop [5] (fun i => ∃ k : Nat, k ≤ n ∧ i = .int .i64 k ∧ k ≤ k0) (fun i => n - (intOf i).toNat)
  case atStart => exact ⟨0, Nat.zero_le _, rfl, Nat.zero_le _⟩
  case round =>
    obtain ⟨k, hk, rfl, hkk⟩ := hrel
    have hlt : k < n := by omega
    obtain ⟨b, off, rfl, hb, hcell⟩ := HR.out.2 (by omega)
    obtain ⟨p, hp⟩ := get_of HN.out hlt
    have HP := Lib.hid hp
    obtain ⟨c0, c1⟩ := head_cells hcell hp
    clear hcell hb hp
    by_cases he : k = k0
    · have hpq : nameB nm p = true := by
        have h1 := HP.out
        rw [he, HQ.out] at h1
        injection h1 with h1
        rw [← h1]; exact HQ2.out
      have h5 : (p.x0.toList == nm.toList) = true := hpq
      have HE := Lib.hid he
      clear hpq he
      go_wp2
      go_ret
      exact ⟨ret_int (by rw [HE.out]), rfl⟩
    · have hlt0 : k < k0 := by omega
      have hpq : nameB nm p = false := HB4.out p (List.mem_of_getElem? (i := k) (by rw [List.getElem?_take, if_pos hlt0]; exact HP.out))
      have h5 : (p.x0.toList == nm.toList) = false := hpq
      clear hpq he
      go_wp2
      go_round
      case rel => exact ⟨k + 1, by omega, by go_num, by omega⟩
      case measure => simp [intOf]; omega

set_option maxHeartbeats 1000000 in
theorem iat_no (A : Option Addr) (n c : Nat) (hs : List HeadM) (nm : ByteArray) (w : World) (hn : n = hs.length) (hc : n ≤ maxLen) (hr : Sees w w.heap.size 2 A n (flat headC hs))
    (hb4 : ∀ p ∈ hs, nameB nm p = false) :
    Calls Try.prog 50 #[.slice A n c, .string nm] w fun e w' => e = .returned (.int .i64 (-1)) ∧ w = w' := by
  have HR := Lib.hid hr
  have HN := Lib.hid hn
  have HB4 := Lib.hid hb4
  unfold maxLen at hc
  clear hr hn hb4
  go_enter Try.func50, Try.ntmps50
  go_wp2
  go_loop [5] (fun i => ∃ k : Nat, k ≤ n ∧ i = .int .i64 k) (fun i => n - (intOf i).toNat)
  case atStart => exact ⟨0, Nat.zero_le _, rfl⟩
  case round =>
    obtain ⟨k, hk, rfl⟩ := hrel
    by_cases hlt : k < n
    · obtain ⟨b, off, rfl, hb, hcell⟩ := HR.out.2 (by omega)
      obtain ⟨p, hp⟩ := get_of HN.out hlt
      have HP := Lib.hid hp
      obtain ⟨c0, c1⟩ := head_cells hcell hp
      clear hcell hb hp
      have hpq : nameB nm p = false := HB4.out p (List.mem_of_getElem? HP.out)
      have h5 : (p.x0.toList == nm.toList) = false := hpq
      clear hpq
      go_wp2
      go_round
      case rel => exact ⟨k + 1, by omega, by go_num⟩
      case measure => simp [intOf]; omega
    · go_wp2
      go_ret
      exact ⟨rfl, rfl⟩

/-- A head with a name, or none. -/
theorem name_cases (hs : List HeadM) (nm : ByteArray) : (∃ k q, hs[k]? = some q ∧ (∀ p ∈ hs.take k, nameB nm p = false) ∧ nameB nm q = true) ∨ (∀ p ∈ hs, nameB nm p = false) := by
  by_cases hf : ∃ k q, hs[k]? = some q ∧ (∀ p ∈ hs.take k, nameB nm p = false) ∧ nameB nm q = true
  · exact .inl hf
  · refine .inr ?_
    intro p hp
    rw [Bool.eq_false_iff]
    intro hpt
    have hlt : hs.findIdx (nameB nm) < hs.length := List.findIdx_lt_length_of_exists ⟨p, hp, hpt⟩
    refine hf ⟨hs.findIdx (nameB nm), hs[hs.findIdx (nameB nm)], List.getElem?_eq_getElem hlt, ?_, List.findIdx_getElem (w := hlt)⟩
    intro r hr
    obtain ⟨j, hj, he⟩ := List.getElem_of_mem hr
    rw [List.length_take] at hj
    rw [List.getElem_take] at he
    have := List.not_of_lt_findIdx (show j < hs.findIdx (nameB nm) by omega)
    rw [he] at this
    simpa using this

set_option maxHeartbeats 1000000 in
theorem ifh_any (A : Option Addr) (n c : Nat) (hs : List HeadM) (nm : ByteArray) (w : World) (hn : n = hs.length) (hc : n ≤ maxLen) (hr : Sees w w.heap.size 2 A n (flat headC hs)) (hm : headMax hs) :
    Calls Try.prog 26 #[.slice A n c, .string nm] w fun e w' => e = .returned (firstV (firstH hs nm)) ∧ Below w.heap.size w w' := by
  obtain ⟨v, hv⟩ : ∃ v, headsB hs = v := ⟨_, rfl⟩
  have hcv : Calls Try.prog 14 #[.slice A n c] w fun e w' => e = .returned (.bool v) ∧ Below w.heap.size w w' := by
    have := ihv_any A n c hs w hn hc hr hm
    rw [hv] at this; exact this
  have HR := Lib.hid hr
  have HN := Lib.hid hn
  have HC := Lib.hid hc
  have HCV := Lib.hid hcv
  have HV := Lib.hid hv
  clear hr hn hm hcv hv
  unfold maxLen at hc
  go_enter Try.func26, Try.ntmps26
  go_wp2_with fail
  refine HCV.out.mono ?_
  rintro e w1 ⟨rfl, hb1⟩
  have HB1 := Lib.hid hb1
  have HR1 := Lib.hid ((HR.out.below hb1 (Nat.le_refl _)).more hb1.size)
  clear hb1
  cases v
  · go_wp2
    go_ret2
    refine ⟨?_, HB1.out⟩
    show _ = Ending.returned (firstV (firstH hs nm))
    unfold firstH
    rw [HV.out, if_neg (by simp)]
    rfl
  · rcases name_cases hs nm with ⟨k, q, hq, h1, h2⟩ | h1
    · have hk : k < n := by rw [HN.out]; exact (List.getElem?_eq_some_iff.mp hq).1
      have HQ := Lib.hid hq
      have H1 := Lib.hid h1
      have H2 := Lib.hid h2
      clear hq h1 h2
      go_wp2_with fail
      refine (iat_yes A n c k hs nm q _ HN.out HC.out HR1.out HQ.out H1.out H2.out).mono ?_
      rintro e w2 ⟨rfl, rfl⟩
      obtain ⟨b, off, rfl, hb, hcell⟩ := HR1.out.2 (by omega)
      obtain ⟨c0, c1⟩ := head_cells hcell HQ.out
      clear hcell hb
      go_wp2
      go_ret2
      refine ⟨?_, HB1.out⟩
      show _ = Ending.returned (firstV (firstH hs nm))
      unfold firstH
      rw [HV.out, if_pos rfl, take_none HQ.out H1.out H2.out]
      rfl
    · have H1 := Lib.hid h1
      clear h1
      go_wp2_with fail
      refine (iat_no A n c hs nm _ HN.out HC.out HR1.out H1.out).mono ?_
      rintro e w2 ⟨rfl, rfl⟩
      go_wp2
      go_ret2
      refine ⟨?_, HB1.out⟩
      show _ = Ending.returned (firstV (firstH hs nm))
      unfold firstH
      rw [HV.out, if_pos rfl, find_none H1.out]
      rfl
end Go.Proofs.Ytnhbhopiioclmaa
