/- Parts of the proof: Seq. -/
import Derived.RegionTactic
import Derived.BigRegion
import Derived.Deep.RegionLaw
import Derived.Deep.RegionHeld3
import Derived.StillTailTactics
import Derived.Deep.QuietTactic
import Derived.BigQuiet
import Derived.Outline
import Derived.Test.YtjleempapphlhaaGeTexts
import Derived.Test.YtjleempapphlhaaGeNums
import Derived.Test.YtjleempapphlhaaGeWorld
import Derived.Test.YtjleempapphlhaaGeLists
section
namespace Go.Proofs.Ytjleempapphlhaa
open Go.RowKit
set_option linter.unusedVariables false
set_option maxRecDepth 20000
theorem textS_size (n : Int) : (textS n).size ≤ 7 := by
  unfold textS textN
  split
  · have := numT_len7 n.toNat (by omega)
    show (numT n.toNat).toArray.size ≤ 7
    simpa using this
  · decide
end Go.Proofs.Ytjleempapphlhaa
end
