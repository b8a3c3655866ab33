/- The contracts of the functions of chapter 2: whether an address is valid, and its text. -/
import Derived.Test.YtgoheolehnahkaaWords
import Derived.Test.YtgoheolehnahkaaPlain2
import Derived.Test.YtgoheolehnahkaaWorld
import Derived.Deep.QuietTactic
import Derived.BigQuiet
import Derived.Outline
namespace Go.Proofs.Ytgoheolehnahkaa
open Go.RowKit
set_option maxRecDepth 20000
set_option linter.unusedVariables false

theorem word_size {s : ByteArray} (h : wordB s.data.toList = true) : s.size ≤ 10 := by
  have := word_len h
  have e : s.data.toList.length = s.size := by simp
  omega
theorem word_max {s : ByteArray} (h : wordB s.data.toList = true) : s.size ≤ maxLen := by
  have := word_len h
  have e : s.data.toList.length = s.size := by simp
  unfold maxLen; omega
end Go.Proofs.Ytgoheolehnahkaa
