/- Parts of the proof: Addr, Seq. -/
import Derived.Deep.QuietTactic
import Derived.BigQuiet
import Derived.Outline
import Derived.RegionTactic
import Derived.BigRegion
import Derived.Deep.RegionLaw
import Derived.Deep.RegionHeld3
import Derived.StillTailTactics
import Derived.Test.YtjleempapphlhaaGdTexts
import Derived.Test.YtjleempapphlhaaGdPlain
import Derived.Test.YtjleempapphlhaaGdLists
import Derived.Test.YtjleempapphlhaaGdNums
section
namespace Go.Proofs.Ytjleempapphlhaa
open Go.RowKit
set_option maxRecDepth 20000
set_option linter.unusedVariables false
theorem word_size {s : ByteArray} (h : wordB s.data.toList = true) : s.size ≤ 10 := by
  have := word_len h
  have e : s.data.toList.length = s.size := by simp
  omega
end Go.Proofs.Ytjleempapphlhaa
end
section
namespace Go.Proofs.Ytjleempapphlhaa
open Go.RowKit
set_option linter.unusedVariables false
set_option maxRecDepth 20000
theorem textS_size (n : Int) : (textS n).size ≤ 7 := by
  unfold textS textN
  split
  · have := numT_len7 n.toNat (by omega)
    show (numT n.toNat).toArray.size ≤ 7
    simpa using this
  · decide
end Go.Proofs.Ytjleempapphlhaa
end
