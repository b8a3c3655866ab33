/- Exact values: words, lines and addresses drawn by a reader: proofs. -/
import Derived.Test.YtgoheolehnahkaaRw
namespace Go.Proofs.Ytgoheolehnahkaa.Mini
open Go Go.RowKit
set_option linter.unusedVariables false
set_option linter.unusedSimpArgs false
set_option maxRecDepth 20000
/-- A reader comes in. -/
theorem rd_split {t n : Nat} {r l : List D} {c : Int} (h : rdIn (.list t n r :: l) c) : ∃ (L : D) (p : Int), r = rdL L p ∧ bytesOk L ∧ 0 ≤ p ∧ p + c ≤ 1000000 := h
theorem word_small {s : ByteArray} (h : wOk s) : s.size ≤ 10 := by
  have := (word_len h).2
  simpa using this
theorem line_small {s : ByteArray} (h : lOk s) : s.size ≤ 60 := by
  have h1 : lineB s.data.toList = true := h
  unfold lineB at h1
  simp only [Bool.and_eq_true, decide_eq_true_eq] at h1
  simpa using h1.1.1
theorem word_max {s : ByteArray} (h : wOk s) : s.size ≤ maxLen := by have := word_small h; unfold maxLen; omega
theorem line_max {s : ByteArray} (h : lOk s) : s.size ≤ maxLen := by have := line_small h; unfold maxLen; omega
end Go.Proofs.Ytgoheolehnahkaa.Mini
