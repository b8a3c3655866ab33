/- The helpers of the exact laws for Message. Written by gen_s.py. -/
import Derived.Test.YtplcdadedpbkpaaTHead
import Derived.Test.YtplcdadedpbkpaaTString
import Derived.Test.YtplcdadedpbkpaaGr
import Derived.Test.YtplcdadedpbkpaaOpenS
namespace Go.Proofs.Ytplcdadedpbkpaa
open Go.RowKit
set_option linter.unusedVariables false
set_option maxRecDepth 20000


/-- A copy: its rows are new. -/
def toMessageP (x0 : ByteArray) (x1 : ByteArray) (x2 : ByteArray) (x3 : Int) (n4 : Nat) (h4 : List HeadM) (n5 : Nat) (h5 : List ByteArray) (w : World) (e : Ending) (w' : World) : Prop :=
  ∃ g4 g5 : Nat, e = .returned (.agg #[.string x0, .string x1, .string x2, .int .i64 x3, .slice (some ⟨g4, 0, none⟩) n4 n4, .slice (some ⟨g5, 0, none⟩) n5 n5]) ∧ w'.ownsRow w.heap.size 68 2 (.slice (some ⟨g4, 0, none⟩) n4 n4) n4 (flat headC h4) ∧ w'.ownsRow w.heap.size 9 1 (.slice (some ⟨g5, 0, none⟩) n5 n5) n5 (flat strC h5) ∧ (w.heap.size ≤ g4 ∧ g5 < w'.heap.size ∧ g4 < g5) ∧ Below w.heap.size w w'
end Go.Proofs.Ytplcdadedpbkpaa
