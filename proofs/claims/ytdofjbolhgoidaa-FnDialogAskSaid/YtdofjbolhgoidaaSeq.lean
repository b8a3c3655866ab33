/- The contracts of the functions of chapter 5: valid sequences, their texts, what fits. -/
import Derived.Test.YtdofjbolhgoidaaWords
import Derived.Test.YtdofjbolhgoidaaNums
import Derived.Test.YtdofjbolhgoidaaWorld
import Derived.Test.YtdofjbolhgoidaaLists
import Derived.RegionTactic
import Derived.BigRegion
import Derived.Deep.RegionLaw
import Derived.Deep.RegionHeld3
import Derived.StillTailTactics
import Derived.Deep.QuietTactic
import Derived.BigQuiet
import Derived.Outline
namespace Go.Proofs.Ytdofjbolhgoidaa
open Go.RowKit
set_option linter.unusedVariables false
set_option maxRecDepth 20000

/-- A valid sequence. -/
def seqB (a : ByteArray) (n : Int) : Bool := wordB a.data.toList && (decide (1 ≤ n) && decide (n ≤ 1000000))
theorem seq_word {a : ByteArray} {n : Int} (h : seqB a n = true) : wordB a.data.toList = true ∧ 1 ≤ n ∧ n ≤ 1000000 := by
  unfold seqB at h
  simp only [Bool.and_eq_true, decide_eq_true_eq] at h
  exact h
theorem seq_size {a : ByteArray} {n : Int} (h : seqB a n = true) : a.size ≤ 10 := by
  have := word_len (seq_word h).1
  have e : a.data.toList.length = a.size := by simp
  omega
set_option maxHeartbeats 1000000 in
theorem isq_any (a : ByteArray) (n : Int) (w : World) (ha : a.size ≤ maxLen) :
    Calls Try.prog 39 #[.agg #[.string a, .int .i64 n]] w fun e w' => e = .returned (.bool (seqB a n)) ∧ Below w.heap.size w w' := by
  have HA := Lib.hid ha
  clear ha
  by_cases h1 : wordB a.data.toList = true
  · have H1 := Lib.hid h1
    clear h1
    by_cases h2 : 1 ≤ n
    · by_cases h3 : n ≤ 1000000
      all_goals
        go_enter Try.func39, Try.ntmps39
        go_wp2_with fail
        refine (iword_t _ _ HA.out H1.out).mono ?_
        rintro e w' ⟨rfl, rfl⟩
        go_wp2
        go_ret
        exact ⟨ret_bool (by unfold seqB; rw [H1.out]; simp [h3]; try omega), (Below.refl _ _).alloc (Nat.le_refl _) _⟩
    · go_enter Try.func39, Try.ntmps39
      go_wp2_with fail
      refine (iword_t _ _ HA.out H1.out).mono ?_
      rintro e w' ⟨rfl, rfl⟩
      go_wp2
      go_ret
      exact ⟨ret_bool (by unfold seqB; rw [H1.out, decide_eq_false (p := 1 ≤ n) (by omega)]; rfl), (Below.refl _ _).alloc (Nat.le_refl _) _⟩
  · have h1 : wordB a.data.toList = false := by simpa using h1
    have H1 := Lib.hid h1
    clear h1
    go_enter Try.func39, Try.ntmps39
    go_wp2_with fail
    refine (iword_f _ _ HA.out H1.out).mono ?_
    rintro e w' ⟨rfl, rfl⟩
    go_wp2
    go_ret
    exact ⟨ret_bool (by unfold seqB; rw [H1.out]; rfl), (Below.refl _ _).alloc (Nat.le_refl _) _⟩
set_option maxHeartbeats 1000000 in
theorem ssq_any (a : ByteArray) (n : Int) (w : World) (ha : a.size ≤ maxLen) :
    Calls Try.prog 41 #[.agg #[.string a, .int .i64 n]] w fun e w' => e = .returned (.bool (seqB a n)) ∧ Below w.heap.size w w' := by
  have HA := Lib.hid ha
  clear ha
  by_cases h1 : wordB a.data.toList = true
  · have H1 := Lib.hid h1
    clear h1
    go_enter Try.func41, Try.ntmps41
    go_wp2_with fail
    refine (sword_t _ _ HA.out H1.out).mono ?_
    rintro e w' ⟨rfl, rfl⟩
    go_wp2_with fail
    refine (in_any _ _ _ _).mono ?_
    rintro e w' ⟨rfl, rfl⟩
    go_wp2
    go_ret
    exact ⟨ret_bool (by unfold seqB; rw [H1.out]; rfl), (Below.refl _ _).alloc (Nat.le_refl _) _⟩
  · have h1 : wordB a.data.toList = false := by simpa using h1
    have H1 := Lib.hid h1
    clear h1
    go_enter Try.func41, Try.ntmps41
    go_wp2_with fail
    refine (sword_f _ _ HA.out H1.out).mono ?_
    rintro e w' ⟨rfl, rfl⟩
    go_wp2
    go_ret
    exact ⟨ret_bool (by unfold seqB; rw [H1.out]; rfl), (Below.refl _ _).alloc (Nat.le_refl _) _⟩
theorem isq_is (v : Bool) (a : ByteArray) (n : Int) (w : World) (ha : a.size ≤ maxLen) (h : seqB a n = v) :
    Calls Try.prog 39 #[.agg #[.string a, .int .i64 n]] w fun e w' => e = .returned (.bool v) ∧ Below w.heap.size w w' := by
  have := isq_any a n w ha; rw [h] at this; exact this
theorem ssq_is (v : Bool) (a : ByteArray) (n : Int) (w : World) (ha : a.size ≤ maxLen) (h : seqB a n = v) :
    Calls Try.prog 41 #[.agg #[.string a, .int .i64 n]] w fun e w' => e = .returned (.bool v) ∧ Below w.heap.size w w' := by
  have := ssq_any a n w ha; rw [h] at this; exact this

/-- The text of a sequence. -/
def seqT (a : ByteArray) (n : Int) : ByteArray := textS n ++ ⟨#[32]⟩ ++ a
def textQ (a : ByteArray) (n : Int) : ByteArray := if seqB a n = true then seqT a n else ByteArray.empty
theorem textS_size (n : Int) : (textS n).size ≤ 7 := by
  unfold textS textN
  split
  · have := numT_len7 n.toNat (by omega)
    show (numT n.toNat).toArray.size ≤ 7
    simpa using this
  · decide
end Go.Proofs.Ytdofjbolhgoidaa
