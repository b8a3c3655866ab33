/- The contracts of the functions of chapter 2: whether an address is valid, and its text. -/
import Derived.Test.YtdofjbolhgoidaaWords
import Derived.Test.YtdofjbolhgoidaaPlain2
import Derived.Test.YtdofjbolhgoidaaWorld
import Derived.Deep.QuietTactic
import Derived.BigQuiet
import Derived.Outline
namespace Go.Proofs.Ytdofjbolhgoidaa
open Go.RowKit
set_option linter.unusedVariables false

theorem word_size {s : ByteArray} (h : wordB s.data.toList = true) : s.size ≤ 10 := by
  have := word_len h
  have e : s.data.toList.length = s.size := by simp
  omega
theorem word_max {s : ByteArray} (h : wordB s.data.toList = true) : s.size ≤ maxLen := by
  have := word_len h
  have e : s.data.toList.length = s.size := by simp
  unfold maxLen; omega
set_option maxHeartbeats 1000000 in
theorem iav_any (u h : ByteArray) (w : World) (hu : u.size ≤ maxLen) (hh : h.size ≤ maxLen) :
    Calls Try.prog 33 #[.agg #[.string u, .string h]] w fun e w' => e = .returned (.bool (wordB u.data.toList && wordB h.data.toList)) ∧ Below w.heap.size w w' := by
  have HU := Lib.hid hu
  have HH := Lib.hid hh
  clear hu hh
  by_cases h1 : wordB u.data.toList = true
  · have H1 := Lib.hid h1
    clear h1
    go_enter Try.func33, Try.ntmps33
    go_wp2_with fail
    refine (iword_t _ _ HU.out H1.out).mono ?_
    rintro e w' ⟨rfl, rfl⟩
    go_wp2_with fail
    refine (iword_any _ _ HH.out).mono ?_
    rintro e w' ⟨rfl, rfl⟩
    go_wp2
    go_ret
    exact ⟨ret_bool (by rw [H1.out]; rfl), (Below.refl _ _).alloc (Nat.le_refl _) _⟩
  · have h1 : wordB u.data.toList = false := by simpa using h1
    have H1 := Lib.hid h1
    clear h1
    go_enter Try.func33, Try.ntmps33
    go_wp2_with fail
    refine (iword_f _ _ HU.out H1.out).mono ?_
    rintro e w' ⟨rfl, rfl⟩
    go_wp2
    go_ret
    exact ⟨ret_bool (by rw [H1.out]; rfl), (Below.refl _ _).alloc (Nat.le_refl _) _⟩
theorem iav_t (u h : ByteArray) (w : World) (hu : wordB u.data.toList = true) (hh : wordB h.data.toList = true) :
    Calls Try.prog 33 #[.agg #[.string u, .string h]] w fun e w' => e = .returned (.bool true) ∧ Below w.heap.size w w' := by
  have := iav_any u h w (word_max hu) (word_max hh)
  rw [hu, hh] at this; exact this
theorem iav_f (u h : ByteArray) (w : World) (hu : u.size ≤ maxLen) (hh : h.size ≤ maxLen) (hv : (wordB u.data.toList && wordB h.data.toList) = false) :
    Calls Try.prog 33 #[.agg #[.string u, .string h]] w fun e w' => e = .returned (.bool false) ∧ Below w.heap.size w w' := by
  have := iav_any u h w hu hh
  rw [hv] at this; exact this

set_option maxHeartbeats 1000000 in
theorem sav_any (u h : ByteArray) (w : World) (hu : u.size ≤ maxLen) (hh : h.size ≤ maxLen) :
    Calls Try.prog 36 #[.agg #[.string u, .string h]] w fun e w' => e = .returned (.bool (wordB u.data.toList && wordB h.data.toList)) ∧ Below w.heap.size w w' := by
  have HU := Lib.hid hu
  have HH := Lib.hid hh
  clear hu hh
  by_cases h1 : wordB u.data.toList = true
  · have H1 := Lib.hid h1
    clear h1
    go_enter Try.func36, Try.ntmps36
    go_wp2_with fail
    refine (sword_t _ _ HU.out H1.out).mono ?_
    rintro e w' ⟨rfl, rfl⟩
    go_wp2_with fail
    refine (sword_any _ _ HH.out).mono ?_
    rintro e w' ⟨rfl, rfl⟩
    go_wp2
    go_ret
    exact ⟨ret_bool (by rw [H1.out]; rfl), (Below.refl _ _).alloc (Nat.le_refl _) _⟩
  · have h1 : wordB u.data.toList = false := by simpa using h1
    have H1 := Lib.hid h1
    clear h1
    go_enter Try.func36, Try.ntmps36
    go_wp2_with fail
    refine (sword_f _ _ HU.out H1.out).mono ?_
    rintro e w' ⟨rfl, rfl⟩
    go_wp2
    go_ret
    exact ⟨ret_bool (by rw [H1.out]; rfl), (Below.refl _ _).alloc (Nat.le_refl _) _⟩
theorem sav_t (u h : ByteArray) (w : World) (hu : wordB u.data.toList = true) (hh : wordB h.data.toList = true) :
    Calls Try.prog 36 #[.agg #[.string u, .string h]] w fun e w' => e = .returned (.bool true) ∧ Below w.heap.size w w' := by
  have := sav_any u h w (word_max hu) (word_max hh)
  rw [hu, hh] at this; exact this
theorem sav_f (u h : ByteArray) (w : World) (hu : u.size ≤ maxLen) (hh : h.size ≤ maxLen) (hv : (wordB u.data.toList && wordB h.data.toList) = false) :
    Calls Try.prog 36 #[.agg #[.string u, .string h]] w fun e w' => e = .returned (.bool false) ∧ Below w.heap.size w w' := by
  have := sav_any u h w hu hh
  rw [hv] at this; exact this

end Go.Proofs.Ytdofjbolhgoidaa
