/- Parts of the proof: Addr. -/
import Derived.Deep.QuietTactic
import Derived.BigQuiet
import Derived.Outline
import Derived.Test.YtjleempapphlhaaGeTexts
import Derived.Test.YtjleempapphlhaaGePlain
import Derived.Test.YtjleempapphlhaaGeWorld
section
namespace Go.Proofs.Ytjleempapphlhaa
open Go.RowKit
set_option maxRecDepth 20000
set_option linter.unusedVariables false
theorem word_size {s : ByteArray} (h : wordB s.data.toList = true) : s.size ≤ 10 := by
  have := word_len h
  have e : s.data.toList.length = s.size := by simp
  omega
end Go.Proofs.Ytjleempapphlhaa
end
