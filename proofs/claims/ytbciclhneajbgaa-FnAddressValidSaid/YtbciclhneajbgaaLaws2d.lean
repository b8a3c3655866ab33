/- The walks of the laws of chapter 2 over drawn inputs. -/
import Derived.Test.YtbciclhneajbgaaLaws2
namespace Go.Proofs.Ytbciclhneajbgaa
open Go.RowKit
set_option linter.unusedVariables false

theorem textA_size (u h : ByteArray) : (textA u h).size ≤ 25 := by
  unfold textA
  by_cases hv : (wordB u.data.toList && wordB h.data.toList) = true
  · rw [if_pos hv]
    rw [Bool.and_eq_true] at hv
    have e : (⟨(addrT u.data.toList h.data.toList).toArray⟩ : ByteArray).size = (addrT u.data.toList h.data.toList).length := rfl
    have h1 := word_len hv.1
    have h2 := word_len hv.2
    rw [e]
    unfold addrT
    simp only [List.length_append, List.length_cons, List.length_nil]
    omega
  · rw [if_neg hv]; exact Nat.zero_le _
/-- What is read of the text of a valid address. -/
theorem readA_text (u h : ByteArray) (hu : wordB u.data.toList = true) (hh : wordB h.data.toList = true) :
    addrB (textA u h).data.toList = true ∧ readU (textA u h) = u ∧ readH (textA u h) = h := by
  have e : (textA u h).data.toList = addrT u.data.toList h.data.toList := by
    unfold textA; rw [hu, hh]; rfl
  have e1 : addrB (textA u h).data.toList = true := by rw [e]; exact addrB_addrT hu hh
  refine ⟨e1, ?_, ?_⟩
  · unfold readU userS; rw [if_pos e1, e, user_addrT hu]
  · unfold readH hostS; rw [if_pos e1, e, host_addrT hu]

set_option maxHeartbeats 1000000 in
theorem walk_FnAddressValid (a0 : Option Addr) (len0 cap0 : Nat) (z0 : List Int) (w : World) (w0 : IsBytes w a0 len0 cap0 z0) :
    Calls Try.prog 3 #[.slice a0 len0 cap0] w fun e w' => e = .returned (.bool true) ∧ Below w.heap.size w w' := by
  obtain ⟨hlc, hcm, hb⟩ := bytes_of w0
  have HB := Lib.hid hb
  have hcm' := hcm
  unfold maxLen at hcm'
  clear w0 hb
  by_cases hbig : (1048576 : Int) < len0
  · go_enter Try.func3, Try.ntmps3
    go_wp2
    go_ret
    exact ⟨rfl, Below.refl _ _⟩
  go_enter Try.func3, Try.ntmps3
  go_wp2_with fail
  refine (drawAv_any _ _ _ _ hlc hcm HB.out).mono ?_
  rintro e w1 ⟨u, h, hu, hh, rfl, hb1⟩
  have HB1 := Lib.hid (balloc hb1 (.cells #[.string u, .string h] 24))
  have BX1 := Lib.hid (Holds.new w1 24 #[.string u, .string h])
  have HU : Hid (u.size ≤ maxLen) := Lib.hid (by unfold maxLen; omega)
  have HH : Hid (h.size ≤ maxLen) := Lib.hid (by unfold maxLen; omega)
  clear hb1
  have c0 := BX1.out.cell 0 _ rfl
  have c1 := BX1.out.cell 1 _ rfl
  obtain ⟨v, hv⟩ : ∃ v, (wordB u.data.toList && wordB h.data.toList) = v := ⟨_, rfl⟩
  have hci : ∀ W : World, Calls Try.prog 10 #[.agg #[.string u, .string h]] W fun e w' => e = .returned (.bool v) ∧ Below W.heap.size W w' := by
    intro W; have := iav_any u h W HU.out HH.out; rw [hv] at this; exact this
  have hcs : ∀ W : World, Calls Try.prog 11 #[.agg #[.string u, .string h]] W fun e w' => e = .returned (.bool v) ∧ Below W.heap.size W w' := by
    intro W; have := sav_any u h W HU.out HH.out; rw [hv] at this; exact this
  have hcx : ∀ W : World, Calls Try.prog 10 #[.agg #[.string h, .string u]] W fun e w' => e = .returned (.bool v) ∧ Below W.heap.size W w' := by
    intro W; have := iav_any h u W HH.out HU.out; rw [Bool.and_comm, hv] at this; exact this
  have hcn : ∀ W : World, Calls Try.prog 10 #[.agg #[.string u, .string ⟨#[]⟩]] W fun e w' => e = .returned (.bool false) ∧ Below W.heap.size W w' := by
    intro W; exact iav_f u ⟨#[]⟩ W HU.out (Nat.zero_le _) (by rw [show wordB (⟨#[]⟩ : ByteArray).data.toList = false from rfl, Bool.and_false])
  have HCI := Lib.hid hci
  have HCS := Lib.hid hcs
  have HCX := Lib.hid hcx
  have HCN := Lib.hid hcn
  clear hci hcs hcx hcn hv
  go_wp2_with fail
  refine (HCI.out _).mono ?_
  rintro e w2 ⟨rfl, hb2⟩
  have HB2 := Lib.hid (btrans HB1.out hb2)
  have BX2 := Lib.hid (BX1.out.call hb2)
  clear hb2 c0 c1
  have c0 := BX2.out.cell 0 _ rfl
  have c1 := BX2.out.cell 1 _ rfl
  go_wp2_with fail
  refine (HCS.out _).mono ?_
  rintro e w3 ⟨rfl, hb3⟩
  have HB3 := Lib.hid (btrans HB2.out hb3)
  have BX3 := Lib.hid (BX2.out.call hb3)
  clear hb3 c0 c1
  have c0 := BX3.out.cell 0 _ rfl
  have c1 := BX3.out.cell 1 _ rfl
  cases v
  all_goals
    go_wp2_with fail
    refine (HCN.out _).mono ?_
    rintro e w4 ⟨rfl, hb4⟩
    have HB4 := Lib.hid (btrans HB3.out hb4)
    have BX4 := Lib.hid (BX3.out.call hb4)
    clear hb4 c0 c1
    have c0 := BX4.out.cell 0 _ rfl
    have c1 := BX4.out.cell 1 _ rfl
    go_wp2_with fail
    refine (HCX.out _).mono ?_
    rintro e w5 ⟨rfl, hb5⟩
    have HB5 := Lib.hid (btrans HB4.out hb5)
    have BX5 := Lib.hid (BX4.out.call hb5)
    clear hb5 c0 c1
    have c0 := BX5.out.cell 0 _ rfl
    have c1 := BX5.out.cell 1 _ rfl
    go_wp2_with fail
    refine (alive_any _).mono ?_
    rintro e w6 ⟨rfl, rfl⟩
    go_wp2
    go_ret
    exact ⟨rfl, HB5.out⟩

set_option maxHeartbeats 1000000 in
theorem walk_FnAddressText (a0 : Option Addr) (len0 cap0 : Nat) (z0 : List Int) (w : World) (w0 : IsBytes w a0 len0 cap0 z0) :
    Calls Try.prog 4 #[.slice a0 len0 cap0] w fun e w' => e = .returned (.bool true) ∧ Below w.heap.size w w' := by
  obtain ⟨hlc, hcm, hb⟩ := bytes_of w0
  have HB := Lib.hid hb
  have hcm' := hcm
  unfold maxLen at hcm'
  clear w0 hb
  by_cases hbig : (1048576 : Int) < len0
  · go_enter Try.func4, Try.ntmps4
    go_wp2
    go_ret
    exact ⟨rfl, Below.refl _ _⟩
  go_enter Try.func4, Try.ntmps4
  go_wp2_with fail
  refine (drawAt_any _ _ _ _ hlc hcm HB.out).mono ?_
  rintro e w1 ⟨u, h, hu, hh, rfl, hb1⟩
  have HB1 := Lib.hid (balloc hb1 (.cells #[.string u, .string h] 24))
  have BX1 := Lib.hid (Holds.new w1 24 #[.string u, .string h])
  have HU : Hid (u.size ≤ maxLen) := Lib.hid (by unfold maxLen; omega)
  have HH : Hid (h.size ≤ maxLen) := Lib.hid (by unfold maxLen; omega)
  clear hb1
  have c0 := BX1.out.cell 0 _ rfl
  have c1 := BX1.out.cell 1 _ rfl
  by_cases hv : (wordB u.data.toList && wordB h.data.toList) = true
  · have hv' := hv
    rw [Bool.and_eq_true] at hv'
    have HV := Lib.hid hv'
    have HR := Lib.hid (readA_text u h hv'.1 hv'.2)
    have hcr : ∀ W : World, Calls Try.prog 16 #[.string (textA u h)] W fun e w' => e = .returned (.tuple #[.agg #[.string u, .string h], .bool true]) ∧ Below W.heap.size W w' := by
      intro W
      have := ira_any (textA u h) W (by have := textA_size u h; unfold maxLen; omega)
      rw [HR.out.1, HR.out.2.1, HR.out.2.2] at this
      exact this
    have HCR := Lib.hid hcr
    clear hv hv' hcr
    go_wp2_with fail
    refine (iat_all _ _ _ HU.out HH.out).mono ?_
    rintro e w2 ⟨rfl, hb2⟩
    have HB2 := Lib.hid (btrans HB1.out hb2)
    have BX2 := Lib.hid (BX1.out.call hb2)
    clear hb2 c0 c1
    have c0 := BX2.out.cell 0 _ rfl
    have c1 := BX2.out.cell 1 _ rfl
    go_wp2_with fail
    refine (sat_all _ _ _ HU.out HH.out).mono ?_
    rintro e w3 ⟨rfl, hb3⟩
    have HB3 := Lib.hid (btrans HB2.out hb3)
    have BX3 := Lib.hid (BX2.out.call hb3)
    clear hb3 c0 c1
    have c0 := BX3.out.cell 0 _ rfl
    have c1 := BX3.out.cell 1 _ rfl
    go_wp2_with fail
    refine (sav_t _ _ _ HV.out.1 HV.out.2).mono ?_
    rintro e w4 ⟨rfl, hb4⟩
    have HB4 := Lib.hid (btrans HB3.out hb4)
    have BX4 := Lib.hid (BX3.out.call hb4)
    clear hb4 c0 c1
    have c0 := BX4.out.cell 0 _ rfl
    have c1 := BX4.out.cell 1 _ rfl
    go_wp2_with fail
    refine (HCR.out _).mono ?_
    rintro e w5 ⟨rfl, hb5⟩
    have HB5 := Lib.hid (balloc (btrans HB4.out hb5) (.cells #[.string u, .string h] 24))
    have BX5 := Lib.hid ((BX4.out.call hb5).alloc (.cells #[.string u, .string h] 24))
    clear hb5 c0 c1
    have c0 := BX5.out.cell 0 _ rfl
    have c1 := BX5.out.cell 1 _ rfl
    go_wp2
    go_ret
    exact ⟨rfl, HB5.out⟩
  · have hv : (wordB u.data.toList && wordB h.data.toList) = false := by simpa using hv
    have HV := Lib.hid hv
    clear hv
    go_wp2_with fail
    refine (iat_f _ _ _ HU.out HH.out HV.out).mono ?_
    rintro e w2 ⟨rfl, hb2⟩
    have HB2 := Lib.hid (btrans HB1.out hb2)
    have BX2 := Lib.hid (BX1.out.call hb2)
    clear hb2 c0 c1
    have c0 := BX2.out.cell 0 _ rfl
    have c1 := BX2.out.cell 1 _ rfl
    go_wp2_with fail
    refine (sat_f _ _ _ HU.out HH.out HV.out).mono ?_
    rintro e w3 ⟨rfl, hb3⟩
    have HB3 := Lib.hid (btrans HB2.out hb3)
    have BX3 := Lib.hid (BX2.out.call hb3)
    clear hb3 c0 c1
    have c0 := BX3.out.cell 0 _ rfl
    have c1 := BX3.out.cell 1 _ rfl
    go_wp2_with fail
    refine (sav_f _ _ _ HU.out HH.out HV.out).mono ?_
    rintro e w4 ⟨rfl, hb4⟩
    have HB4 := Lib.hid (btrans HB3.out hb4)
    have BX4 := Lib.hid (BX3.out.call hb4)
    clear hb4 c0 c1
    have c0 := BX4.out.cell 0 _ rfl
    have c1 := BX4.out.cell 1 _ rfl
    go_wp2_with fail
    refine (alive_any _).mono ?_
    rintro e w5 ⟨rfl, rfl⟩
    go_wp2
    go_ret
    exact ⟨rfl, HB4.out⟩

set_option maxHeartbeats 1000000 in
theorem walk_FnReadAddress (a0 : Option Addr) (len0 cap0 : Nat) (z0 : List Int) (w : World) (w0 : IsBytes w a0 len0 cap0 z0) :
    Calls Try.prog 5 #[.slice a0 len0 cap0] w fun e w' => e = .returned (.bool true) ∧ Below w.heap.size w w' := by
  obtain ⟨hlc, hcm, hb⟩ := bytes_of w0
  have HB := Lib.hid hb
  have hcm' := hcm
  unfold maxLen at hcm'
  clear w0 hb
  by_cases hbig : (1048576 : Int) < len0
  · go_enter Try.func5, Try.ntmps5
    go_wp2
    go_ret
    exact ⟨rfl, Below.refl _ _⟩
  go_enter Try.func5, Try.ntmps5
  go_wp2_with fail
  refine (drawAr_any _ _ _ _ hlc hcm HB.out).mono ?_
  rintro e w1 ⟨s, hs, rfl, hb1⟩
  have HB1 := Lib.hid hb1
  have HS : Hid (s.size ≤ maxLen) := Lib.hid (by unfold maxLen; omega)
  have HSm : Hid ((s ++ ⟨#[64]⟩).size ≤ maxLen) := Lib.hid (by rw [size_cat]; unfold maxLen; show _ + 1 ≤ _; omega)
  clear hb1
  by_cases hv : addrB s.data.toList = true
  · have HV := Lib.hid hv
    have hci : ∀ W : World, Calls Try.prog 16 #[.string s] W fun e w' => e = .returned (.tuple #[.agg #[.string (userS s), .string (hostS s)], .bool true]) ∧ Below W.heap.size W w' := fun W => ira_t s W HS.out hv
    have hcs : ∀ W : World, Calls Try.prog 18 #[.string s] W fun e w' => e = .returned (.tuple #[.agg #[.string (userS s), .string (hostS s)], .bool true]) ∧ Below W.heap.size W w' := fun W => sra_t s W HS.out hv
    have hcm : ∀ W : World, Calls Try.prog 16 #[.string (s ++ ⟨#[64]⟩)] W fun e w' => e = .returned (.tuple #[.agg #[.string ⟨#[]⟩, .string ⟨#[]⟩], .bool false]) ∧ Below W.heap.size W w' := fun W => ira_f _ W HSm.out (by rw [cat_list]; exact addrB_more hv)
    have hct : ∀ W : World, Calls Try.prog 14 #[.agg #[.string (userS s), .string (hostS s)]] W fun e w' => e = .returned (.string s) ∧ Below W.heap.size W w' := by
      intro W
      unfold addrB at hv
      simp only [Bool.and_eq_true, decide_eq_true_eq] at hv
      obtain ⟨⟨⟨h1, h2⟩, h3⟩, h4⟩ := hv
      have := iat_t (userS s) (hostS s) W (by rw [userS_list]; exact h3) (by rw [hostS_list]; exact h4)
      rw [userS_list, hostS_list, addrT_of h1 h2] at this
      exact this
    have HCI := Lib.hid hci
    have HCS := Lib.hid hcs
    have HCM := Lib.hid hcm
    have HCT := Lib.hid hct
    clear hci hcs hcm hct hv
    go_wp2_with fail
    refine (HCI.out _).mono ?_
    rintro e w2 ⟨rfl, hb2⟩
    have HB2 := Lib.hid (balloc (btrans HB1.out hb2) (.cells #[.string (userS s), .string (hostS s)] 24))
    have BX2 := Lib.hid (Holds.new w2 24 #[.string (userS s), .string (hostS s)])
    clear hb2
    go_wp2_with fail
    refine (HCS.out _).mono ?_
    rintro e w3 ⟨rfl, hb3⟩
    have HB3 := Lib.hid (balloc (btrans HB2.out hb3) (.cells #[.string (userS s), .string (hostS s)] 24))
    have BX3 := Lib.hid ((BX2.out.call hb3).alloc (.cells #[.string (userS s), .string (hostS s)] 24))
    clear hb3
    have c0 := BX3.out.cell 0 _ rfl
    have c1 := BX3.out.cell 1 _ rfl
    go_wp2_with fail
    refine (HCM.out _).mono ?_
    rintro e w4 ⟨rfl, hb4⟩
    have HB4 := Lib.hid (balloc (btrans HB3.out hb4) (.cells #[.string ⟨#[]⟩, .string ⟨#[]⟩] 24))
    have BX4 := Lib.hid ((BX3.out.call hb4).alloc (.cells #[.string ⟨#[]⟩, .string ⟨#[]⟩] 24))
    clear hb4 c0 c1
    have c0 := BX4.out.cell 0 _ rfl
    have c1 := BX4.out.cell 1 _ rfl
    go_wp2_with fail
    refine (HCT.out _).mono ?_
    rintro e w5 ⟨rfl, hb5⟩
    have HB5 := Lib.hid (btrans HB4.out hb5)
    clear hb5
    go_wp2
    go_ret
    exact ⟨rfl, HB5.out⟩
  · have hv : addrB s.data.toList = false := by simpa using hv
    have hci : ∀ W : World, Calls Try.prog 16 #[.string s] W fun e w' => e = .returned (.tuple #[.agg #[.string ⟨#[]⟩, .string ⟨#[]⟩], .bool false]) ∧ Below W.heap.size W w' := fun W => ira_f s W HS.out hv
    have hcs : ∀ W : World, Calls Try.prog 18 #[.string s] W fun e w' => e = .returned (.tuple #[.agg #[.string ⟨#[]⟩, .string ⟨#[]⟩], .bool false]) ∧ Below W.heap.size W w' := fun W => sra_f s W HS.out hv
    have HCI := Lib.hid hci
    have HCS := Lib.hid hcs
    clear hci hcs hv
    go_wp2_with fail
    refine (HCI.out _).mono ?_
    rintro e w2 ⟨rfl, hb2⟩
    have HB2 := Lib.hid (balloc (btrans HB1.out hb2) (.cells #[.string ⟨#[]⟩, .string ⟨#[]⟩] 24))
    have BX2 := Lib.hid (Holds.new w2 24 #[.string ⟨#[]⟩, .string ⟨#[]⟩])
    clear hb2
    go_wp2_with fail
    refine (HCS.out _).mono ?_
    rintro e w3 ⟨rfl, hb3⟩
    have HB3 := Lib.hid (balloc (btrans HB2.out hb3) (.cells #[.string ⟨#[]⟩, .string ⟨#[]⟩] 24))
    have BX3 := Lib.hid ((BX2.out.call hb3).alloc (.cells #[.string ⟨#[]⟩, .string ⟨#[]⟩] 24))
    clear hb3
    have c0 := BX3.out.cell 0 _ rfl
    have c1 := BX3.out.cell 1 _ rfl
    go_wp2_with fail
    refine (alive_any _).mono ?_
    rintro e w4 ⟨rfl, rfl⟩
    go_wp2
    go_ret
    exact ⟨rfl, HB3.out⟩
end Go.Proofs.Ytbciclhneajbgaa
