/- The contract of the function that makes the texts of marks. -/
import Derived.Test.YtmgjgmbdfkkagaaConv
import Derived.Test.YtmgjgmbdfkkagaaWorld
import Derived.WalkKit
import Derived.WalkSpells
import Derived.LoopTactic
import Derived.Lib.Hide
namespace Go.Proofs.Ytmgjgmbdfkkagaa
open Go.RowKit
set_option linter.unusedVariables false

/-- The text of a mark. -/
def mtxt (k : Nat) : ByteArray := ⟨(109 :: preT k).toArray⟩

theorem preT_len (k : Nat) (h : k < 1000000000000000) : (preT k).length ≤ 15 := by
  unfold preT
  split
  · simp
  · exact numT_len 14 k (by omega)

end Go.Proofs.Ytmgjgmbdfkkagaa
