/- The contracts of the program's functions of chapter 3: valid heads, the place of a head, first heads. -/
import Derived.Test.YtplcdadedpbkpaaHeadsR
import Derived.Outline
namespace Go.Proofs.Ytplcdadedpbkpaa
open Go.RowKit
set_option linter.unusedVariables false

set_option maxHeartbeats 1000000 in
theorem ihd_any (x y : ByteArray) (w : World) (hu : x.size ≤ maxLen) (hh : y.size ≤ maxLen) :
    Calls Try.prog 50 #[.agg #[.string x, .string y]] w fun e w' => e = .returned (.bool (wordB x.data.toList && lineB y.data.toList)) ∧ Below w.heap.size w w' := by
  have HU := Lib.hid hu
  have HH := Lib.hid hh
  clear hu hh
  by_cases h1 : wordB x.data.toList = true
  · have H1 := Lib.hid h1
    clear h1
    go_enter Try.func50, Try.ntmps50
    go_wp2_with fail
    refine (iword_t _ _ HU.out H1.out).mono ?_
    rintro e w' ⟨rfl, rfl⟩
    go_wp2_with fail
    refine (iline_any _ _ HH.out).mono ?_
    rintro e w' ⟨rfl, rfl⟩
    go_wp2
    go_ret
    exact ⟨ret_bool (by rw [H1.out]; rfl), (Below.refl _ _).alloc (Nat.le_refl _) _⟩
  · have h1 : wordB x.data.toList = false := by simpa using h1
    have H1 := Lib.hid h1
    clear h1
    go_enter Try.func50, Try.ntmps50
    go_wp2_with fail
    refine (iword_f _ _ HU.out H1.out).mono ?_
    rintro e w' ⟨rfl, rfl⟩
    go_wp2
    go_ret
    exact ⟨ret_bool (by rw [H1.out]; rfl), (Below.refl _ _).alloc (Nat.le_refl _) _⟩
theorem ihd_b (p : HeadM) (v : Bool) (w : World) (hm : p.x0.size ≤ maxLen ∧ p.x1.size ≤ maxLen) (hv : headB p = v) :
    Calls Try.prog 50 #[.agg #[.string p.x0, .string p.x1]] w fun e w' => e = .returned (.bool v) ∧ Below w.heap.size w w' := by
  have := ihd_any p.x0 p.x1 w hm.1 hm.2
  rw [← hv]; exact this

set_option maxHeartbeats 1000000 in
theorem ihv_any (A : Option Addr) (n c : Nat) (hs : List HeadM) (w : World) (hn : n = hs.length) (hc : n ≤ maxLen) (hr : Sees w w.heap.size 2 A n (flat headC hs)) (hm : headMax hs) :
    Calls Try.prog 30 #[.slice A n c] w fun e w' => e = .returned (.bool (headsB hs)) ∧ Below w.heap.size w w' := by
  unfold maxLen at hc
  have HR := Lib.hid hr
  have HM := Lib.hid hm
  have HN := Lib.hid hn
  clear hr hm hn
  by_cases h8 : 8 < n
  · go_enter Try.func30, Try.ntmps30
    go_wp2
    go_ret
    exact ⟨ret_bool (by unfold headsB; rw [← HN.out, decide_eq_false (by omega)]; rfl), Below.refl _ _⟩
  have HD : Hid (decide (hs.length ≤ 8) = true) := Lib.hid (decide_eq_true (by rw [← HN.out]; omega))
  go_enter Try.func30, Try.ntmps30
  go_wp2
  go_loopw [3] (fun i wr => ∃ k : Nat, k ≤ n ∧ i = .int .i64 k ∧ (hs.take k).all headB = true ∧ Below w.heap.size w wr) (fun i _ => n - (intOf i).toNat)
  case atStart => exact ⟨0, Nat.zero_le _, rfl, rfl, Below.refl _ _⟩
  case round =>
    obtain ⟨k, hk, rfl, hall, hbel⟩ := hrel
    have HA := Lib.hid hall
    have HB := Lib.hid hbel
    clear hall hbel
    by_cases hlt : k < n
    · obtain ⟨b, off, rfl, hb, hcell⟩ := (HR.out.below HB.out (Nat.le_refl _)).2 (by omega)
      obtain ⟨p, hp⟩ := get_of HN.out hlt
      have HP := Lib.hid hp
      have HX := Lib.hid (heads_max HM.out hp)
      obtain ⟨c0, c1⟩ := head_cells hcell hp
      clear hcell hb hp
      obtain ⟨v, hv⟩ : ∃ v, headB p = v := ⟨_, rfl⟩
      have HV := Lib.hid hv
      clear hv
      go_wp2_with fail
      refine (ihd_b p v _ HX.out HV.out).mono ?_
      rintro e w1 ⟨rfl, hb1⟩
      have HB1 := Lib.hid (btrans HB.out hb1)
      clear hb1
      cases v
      · go_wp2
        go_ret
        refine ⟨ret_bool ?_, HB1.out⟩
        unfold headsB
        rw [all_no headB HP.out HV.out, Bool.and_false]
      · go_wp2
        go_roundw
        case rel => exact ⟨k + 1, by omega, by go_num, by rw [all_more headB HP.out, HA.out, HV.out]; rfl, HB1.out⟩
        case measure => simp [intOf]; omega
    · go_wp2
      go_ret
      refine ⟨ret_bool ?_, HB.out⟩
      have h1 := HA.out
      rw [take_all HN.out hlt] at h1
      unfold headsB
      rw [h1, HD.out]; rfl

/-- A head with a name, or none. -/
theorem name_cases (hs : List HeadM) (nm : ByteArray) : (∃ k q, hs[k]? = some q ∧ (∀ p ∈ hs.take k, nameB nm p = false) ∧ nameB nm q = true) ∨ (∀ p ∈ hs, nameB nm p = false) := by
  by_cases hf : ∃ k q, hs[k]? = some q ∧ (∀ p ∈ hs.take k, nameB nm p = false) ∧ nameB nm q = true
  · exact .inl hf
  · refine .inr ?_
    intro p hp
    rw [Bool.eq_false_iff]
    intro hpt
    have hlt : hs.findIdx (nameB nm) < hs.length := List.findIdx_lt_length_of_exists ⟨p, hp, hpt⟩
    refine hf ⟨hs.findIdx (nameB nm), hs[hs.findIdx (nameB nm)], List.getElem?_eq_getElem hlt, ?_, List.findIdx_getElem (w := hlt)⟩
    intro r hr
    obtain ⟨j, hj, he⟩ := List.getElem_of_mem hr
    rw [List.length_take] at hj
    rw [List.getElem_take] at he
    have := List.not_of_lt_findIdx (show j < hs.findIdx (nameB nm) by omega)
    rw [he] at this
    simpa using this

end Go.Proofs.Ytplcdadedpbkpaa
