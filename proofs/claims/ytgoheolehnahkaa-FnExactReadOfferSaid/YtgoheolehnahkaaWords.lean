/- The contracts of WordValid, one for each answer. -/
import Derived.Test.YtgoheolehnahkaaTexts
namespace Go.Proofs.Ytgoheolehnahkaa
open Go.RowKit
set_option maxRecDepth 20000
set_option linter.unusedVariables false

theorem iword_t (s : ByteArray) (w : World) (hs : s.size ≤ maxLen) (h : wordB s.data.toList = true) :
    Calls Try.prog 41 #[.string s] w fun e w' => e = .returned (.bool true) ∧ w = w' := by
  have := iword_any s w hs; rw [h] at this; exact this
theorem iword_f (s : ByteArray) (w : World) (hs : s.size ≤ maxLen) (h : wordB s.data.toList = false) :
    Calls Try.prog 41 #[.string s] w fun e w' => e = .returned (.bool false) ∧ w = w' := by
  have := iword_any s w hs; rw [h] at this; exact this
theorem sword_t (s : ByteArray) (w : World) (hs : s.size ≤ maxLen) (h : wordB s.data.toList = true) :
    Calls Try.prog 43 #[.string s] w fun e w' => e = .returned (.bool true) ∧ w = w' := by
  have := sword_any s w hs; rw [h] at this; exact this
theorem sword_f (s : ByteArray) (w : World) (hs : s.size ≤ maxLen) (h : wordB s.data.toList = false) :
    Calls Try.prog 43 #[.string s] w fun e w' => e = .returned (.bool false) ∧ w = w' := by
  have := sword_any s w hs; rw [h] at this; exact this

end Go.Proofs.Ytgoheolehnahkaa
