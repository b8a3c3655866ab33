/- The walks of the laws of chapter 2. -/
import Derived.Test.YtbciclhneajbgaaAddrS
import Derived.Test.YtbciclhneajbgaaDrawA
import Derived.Test.YtbciclhneajbgaaAlive
namespace Go.Proofs.Ytbciclhneajbgaa
open Go.RowKit
set_option linter.unusedVariables false

theorem sz_yes (u h : ByteArray) (w : World) (hu : u.size ≤ maxLen) (hh : h.size ≤ maxLen) (hs : u.size + h.size ≤ 1048576) :
    Calls Try.prog 19 #[.agg #[.string u, .string h], .int .i64 1048576] w fun e w' => e = .returned (.int .i64 (1048576 - (u.size : Int) - (h.size : Int))) ∧ Below w.heap.size w w' := by
  unfold maxLen at hu hh
  have h1 : ¬ (1048576 : Int) - u.size < 0 := by omega
  have h2 : ¬ (1048576 : Int) - u.size - h.size < 0 := by omega
  go_enter Try.func19, Try.ntmps19
  go_wp2
  go_ret
  exact ⟨rfl, (Below.refl _ _).alloc (Nat.le_refl _) _⟩
theorem sz_no (u h : ByteArray) (w : World) (hu : u.size ≤ maxLen) (hh : h.size ≤ maxLen) (hs : 1048576 < u.size + h.size) :
    Calls Try.prog 19 #[.agg #[.string u, .string h], .int .i64 1048576] w fun e w' => e = .returned (.int .i64 (-1)) ∧ Below w.heap.size w w' := by
  unfold maxLen at hu hh
  by_cases h1 : (1048576 : Int) - u.size < 0
  · go_enter Try.func19, Try.ntmps19
    go_wp2
    go_ret
    exact ⟨rfl, (Below.refl _ _).alloc (Nat.le_refl _) _⟩
  · have h2 : (1048576 : Int) - u.size - h.size < 0 := by omega
    go_enter Try.func19, Try.ntmps19
    go_wp2
    go_ret
    exact ⟨rfl, (Below.refl _ _).alloc (Nat.le_refl _) _⟩
theorem to_any (u h : ByteArray) (w : World) :
    Calls Try.prog 20 #[.agg #[.string u, .string h]] w fun e w' => e = .returned (.agg #[.string u, .string h]) ∧ Below w.heap.size w w' := by
  go_enter Try.func20, Try.ntmps20
  go_wp2
  refine bodyPost_ret (v := .agg #[.string u, .string h]) (by simp [results, Try.results20, go_sem]) rfl ⟨rfl, ?_⟩
  repeat (first | exact Below.refl _ _ | refine Below.setCell ?_ (by simp <;> omega) _ | refine Below.alloc ?_ (by simp <;> omega) _)
theorem eq_same (u h : ByteArray) (w : World) :
    Calls Try.prog 21 #[.agg #[.string u, .string h], .agg #[.string u, .string h]] w fun e w' => e = .returned (.bool true) ∧ Below w.heap.size w w' := by
  go_enter Try.func21, Try.ntmps21
  go_wp2
  go_ret
  refine ⟨rfl, ?_⟩
  repeat (first | exact Below.refl _ _ | refine Below.setCell ?_ (by simp <;> omega) _ | refine Below.alloc ?_ (by simp <;> omega) _)

/-- The text of an address, valid or not. -/
def textA (u h : ByteArray) : ByteArray := if (wordB u.data.toList && wordB h.data.toList) = true then ⟨(addrT u.data.toList h.data.toList).toArray⟩ else ByteArray.empty
theorem iat_all (u h : ByteArray) (w : World) (hu : u.size ≤ maxLen) (hh : h.size ≤ maxLen) :
    Calls Try.prog 14 #[.agg #[.string u, .string h]] w fun e w' => e = .returned (.string (textA u h)) ∧ Below w.heap.size w w' := by
  unfold textA
  by_cases hv : (wordB u.data.toList && wordB h.data.toList) = true
  · rw [if_pos hv]
    rw [Bool.and_eq_true] at hv
    exact iat_t u h w hv.1 hv.2
  · rw [if_neg hv]
    exact iat_f u h w hu hh (by simpa using hv)
theorem sat_all (u h : ByteArray) (w : World) (hu : u.size ≤ maxLen) (hh : h.size ≤ maxLen) :
    Calls Try.prog 15 #[.agg #[.string u, .string h]] w fun e w' => e = .returned (.string (textA u h)) ∧ Below w.heap.size w w' := by
  unfold textA
  by_cases hv : (wordB u.data.toList && wordB h.data.toList) = true
  · rw [if_pos hv]
    rw [Bool.and_eq_true] at hv
    exact sat_t u h w hv.1 hv.2
  · rw [if_neg hv]
    exact sat_f u h w hu hh (by simpa using hv)
/-- What is read of a text. -/
def readU (s : ByteArray) : ByteArray := if addrB s.data.toList = true then userS s else ⟨#[]⟩
def readH (s : ByteArray) : ByteArray := if addrB s.data.toList = true then hostS s else ⟨#[]⟩
theorem ira_any (s : ByteArray) (w : World) (hs : s.size ≤ maxLen) :
    Calls Try.prog 16 #[.string s] w fun e w' => e = .returned (.tuple #[.agg #[.string (readU s), .string (readH s)], .bool (addrB s.data.toList)]) ∧ Below w.heap.size w w' := by
  unfold readU readH
  by_cases hv : addrB s.data.toList = true
  · rw [if_pos hv, if_pos hv, hv]
    exact ira_t s w hs hv
  · rw [if_neg hv, if_neg hv, show addrB s.data.toList = false by simpa using hv]
    exact ira_f s w hs (by simpa using hv)
theorem sra_any (s : ByteArray) (w : World) (hs : s.size ≤ maxLen) :
    Calls Try.prog 18 #[.string s] w fun e w' => e = .returned (.tuple #[.agg #[.string (readU s), .string (readH s)], .bool (addrB s.data.toList)]) ∧ Below w.heap.size w w' := by
  unfold readU readH
  by_cases hv : addrB s.data.toList = true
  · rw [if_pos hv, if_pos hv, hv]
    exact sra_t s w hs hv
  · rw [if_neg hv, if_neg hv, show addrB s.data.toList = false by simpa using hv]
    exact sra_f s w hs (by simpa using hv)

set_option maxHeartbeats 1000000 in
theorem walk_FnExactAddressValid (u : ByteArray) (hu : u.size ≤ maxLen) (h : ByteArray) (hh : h.size ≤ maxLen) (w : World) :
    Calls Try.prog 6 #[.agg #[.string u, .string h]] w fun e w' => e = .returned (.bool true) ∧ Below w.heap.size w w' := by
  have HU := Lib.hid hu
  have HH := Lib.hid hh
  have HB0 := Lib.hid (bnew w (.cells #[.string u, .string h] 33))
  have BX0 := Lib.hid (Holds.new w 33 #[.string u, .string h])
  clear hu hh
  by_cases hsz : u.size + h.size ≤ 1048576
  · have hn : ¬ (1048576 : Int) - (u.size : Int) - (h.size : Int) < 0 := by omega
    go_enter Try.func6, Try.ntmps6
    go_wp2_with fail
    refine (sz_yes _ _ _ HU.out HH.out hsz).mono ?_
    rintro e w1 ⟨rfl, hb1⟩
    have HB1 := Lib.hid (btrans HB0.out hb1)
    have BX1 := Lib.hid (BX0.out.call hb1)
    clear hb1
    have c0 := BX1.out.cell 0 _ rfl
    have c1 := BX1.out.cell 1 _ rfl
    go_wp2_with fail
    refine (to_any _ _ _).mono ?_
    rintro e w2 ⟨rfl, hb2⟩
    have HB2 := Lib.hid (btrans HB1.out hb2)
    have BX2 := Lib.hid (BX1.out.call hb2)
    clear hb2 c0 c1
    have c0 := BX2.out.cell 0 _ rfl
    have c1 := BX2.out.cell 1 _ rfl
    go_wp2_with fail
    refine (sav_any _ _ _ HU.out HH.out).mono ?_
    rintro e w3 ⟨rfl, hb3⟩
    have HB3 := Lib.hid (btrans HB2.out hb3)
    have BX3 := Lib.hid (BX2.out.call hb3)
    clear hb3 c0 c1
    have c0 := BX3.out.cell 0 _ rfl
    have c1 := BX3.out.cell 1 _ rfl
    go_wp2_with fail
    refine (to_any _ _ _).mono ?_
    rintro e w4 ⟨rfl, hb4⟩
    have HB4 := Lib.hid (btrans HB3.out hb4)
    have BX4 := Lib.hid (BX3.out.call hb4)
    clear hb4 c0 c1
    have c0 := BX4.out.cell 0 _ rfl
    have c1 := BX4.out.cell 1 _ rfl
    go_wp2_with fail
    refine (iav_any _ _ _ HU.out HH.out).mono ?_
    rintro e w5 ⟨rfl, hb5⟩
    have HB5 := Lib.hid (btrans HB4.out hb5)
    have BX5 := Lib.hid (BX4.out.call hb5)
    clear hb5 c0 c1
    have c0 := BX5.out.cell 0 _ rfl
    have c1 := BX5.out.cell 1 _ rfl
    go_wp2
    go_ret
    exact ⟨rfl, HB5.out⟩
  · go_enter Try.func6, Try.ntmps6
    go_wp2_with fail
    refine (sz_no _ _ _ HU.out HH.out (by omega)).mono ?_
    rintro e w1 ⟨rfl, hb1⟩
    have HB1 := Lib.hid (btrans HB0.out hb1)
    have BX1 := Lib.hid (BX0.out.call hb1)
    clear hb1
    have c0 := BX1.out.cell 0 _ rfl
    have c1 := BX1.out.cell 1 _ rfl
    go_wp2
    go_ret
    exact ⟨rfl, HB1.out⟩

set_option maxHeartbeats 1000000 in
theorem walk_FnExactAddressText (u : ByteArray) (hu : u.size ≤ maxLen) (h : ByteArray) (hh : h.size ≤ maxLen) (w : World) :
    Calls Try.prog 7 #[.agg #[.string u, .string h]] w fun e w' => e = .returned (.bool true) ∧ Below w.heap.size w w' := by
  have HU := Lib.hid hu
  have HH := Lib.hid hh
  have HB0 := Lib.hid (bnew w (.cells #[.string u, .string h] 33))
  have BX0 := Lib.hid (Holds.new w 33 #[.string u, .string h])
  clear hu hh
  by_cases hsz : u.size + h.size ≤ 1048576
  · have hn : ¬ (1048576 : Int) - (u.size : Int) - (h.size : Int) < 0 := by omega
    go_enter Try.func7, Try.ntmps7
    go_wp2_with fail
    refine (sz_yes _ _ _ HU.out HH.out hsz).mono ?_
    rintro e w1 ⟨rfl, hb1⟩
    have HB1 := Lib.hid (btrans HB0.out hb1)
    have BX1 := Lib.hid (BX0.out.call hb1)
    clear hb1
    have c0 := BX1.out.cell 0 _ rfl
    have c1 := BX1.out.cell 1 _ rfl
    go_wp2_with fail
    refine (to_any _ _ _).mono ?_
    rintro e w2 ⟨rfl, hb2⟩
    have HB2 := Lib.hid (btrans HB1.out hb2)
    have BX2 := Lib.hid (BX1.out.call hb2)
    clear hb2 c0 c1
    have c0 := BX2.out.cell 0 _ rfl
    have c1 := BX2.out.cell 1 _ rfl
    go_wp2_with fail
    refine (sat_all _ _ _ HU.out HH.out).mono ?_
    rintro e w3 ⟨rfl, hb3⟩
    have HB3 := Lib.hid (btrans HB2.out hb3)
    have BX3 := Lib.hid (BX2.out.call hb3)
    clear hb3 c0 c1
    have c0 := BX3.out.cell 0 _ rfl
    have c1 := BX3.out.cell 1 _ rfl
    go_wp2_with fail
    refine (to_any _ _ _).mono ?_
    rintro e w4 ⟨rfl, hb4⟩
    have HB4 := Lib.hid (btrans HB3.out hb4)
    have BX4 := Lib.hid (BX3.out.call hb4)
    clear hb4 c0 c1
    have c0 := BX4.out.cell 0 _ rfl
    have c1 := BX4.out.cell 1 _ rfl
    go_wp2_with fail
    refine (iat_all _ _ _ HU.out HH.out).mono ?_
    rintro e w5 ⟨rfl, hb5⟩
    have HB5 := Lib.hid (btrans HB4.out hb5)
    have BX5 := Lib.hid (BX4.out.call hb5)
    clear hb5 c0 c1
    have c0 := BX5.out.cell 0 _ rfl
    have c1 := BX5.out.cell 1 _ rfl
    go_wp2
    go_ret
    exact ⟨rfl, HB5.out⟩
  · go_enter Try.func7, Try.ntmps7
    go_wp2_with fail
    refine (sz_no _ _ _ HU.out HH.out (by omega)).mono ?_
    rintro e w1 ⟨rfl, hb1⟩
    have HB1 := Lib.hid (btrans HB0.out hb1)
    have BX1 := Lib.hid (BX0.out.call hb1)
    clear hb1
    have c0 := BX1.out.cell 0 _ rfl
    have c1 := BX1.out.cell 1 _ rfl
    go_wp2
    go_ret
    exact ⟨rfl, HB1.out⟩

set_option maxHeartbeats 1000000 in
theorem walk_FnExactReadAddress (s : ByteArray) (hs : s.size ≤ maxLen) (w : World) :
    Calls Try.prog 8 #[.string s] w fun e w' => e = .returned (.bool true) ∧ Below w.heap.size w w' := by
  by_cases h : (1048576 : Int) < s.size
  · go_enter Try.func8, Try.ntmps8
    go_wp2
    go_ret
    exact ⟨rfl, Below.refl _ _⟩
  · have HS := Lib.hid hs
    clear hs
    go_enter Try.func8, Try.ntmps8
    go_wp2_with fail
    refine (sra_any _ _ HS.out).mono ?_
    rintro e w1 ⟨rfl, hb1⟩
    have HB1 := Lib.hid (balloc hb1 (.cells #[.string (readU s), .string (readH s)] 24))
    have BX1 := Lib.hid (Holds.new w1 24 #[.string (readU s), .string (readH s)])
    clear hb1
    go_wp2_with fail
    refine (ira_any _ _ HS.out).mono ?_
    rintro e w2 ⟨rfl, hb2⟩
    have HB2 := Lib.hid (balloc (btrans HB1.out hb2) (.cells #[.string (readU s), .string (readH s)] 24))
    have BX2 := Lib.hid ((BX1.out.call hb2).alloc (.cells #[.string (readU s), .string (readH s)] 24))
    clear hb2
    have c0 := BX2.out.cell 0 _ rfl
    have c1 := BX2.out.cell 1 _ rfl
    go_wp2_with fail
    refine (eq_same _ _ _).mono ?_
    rintro e w3 ⟨rfl, hb3⟩
    go_wp2
    go_ret
    exact ⟨rfl, btrans HB2.out hb3⟩
end Go.Proofs.Ytbciclhneajbgaa
