/- Parts of the proof: SMath. -/
import Derived.Test.YtjleempapphlhabGeSOffer
section
namespace Go.Proofs.Ytjleempapphlhab.Mini
open Go Go.RowKit
set_option linter.unusedVariables false
set_option linter.unusedSimpArgs false
set_option maxRecDepth 20000
theorem off_parts {l : List Med} (h : offB l = true) : (∀ m ∈ l, medB m = true) ∧ l.length ≤ 4 := by
  unfold offB at h
  simp only [Bool.and_eq_true, List.all_eq_true, decide_eq_true_eq] at h
  exact h
theorem offD_push (l : List Med) (m : Med) : offD (l ++ [m]) = offD l ++ medD m := by unfold offD; rw [flatD_append, flatD_one]
theorem offD_take (l : List Med) : List.take (l.length * 5) (offD l) = offD l := List.take_of_length_le (by rw [offD_len]; omega)
end Go.Proofs.Ytjleempapphlhab.Mini
end
