/- Parts of the proof: Mini17. -/
import Derived.Test.YtcnmpghenfbflaaGdMini16
import Derived.Test.YtcnmpghenfbflaaGdTyp3
section
namespace Go.Proofs.Ytcnmpghenfbflaa.Mini
open Go Go.RowKit
set_option linter.unusedVariables false
set_option maxRecDepth 20000
section
variable {E : Typ.Env} {κ : Typ.Kr} {q : Nat} {w : World}
end
section
variable {E : Typ.Env} {κ : Typ.Kr} {q : Nat} {w : World}
end
/-- Bytes. -/
def bytesD (el : Nat) (xs : List D) : Prop := ∃ n l, xs = [.list el n l] ∧ ∀ d ∈ l, ∃ z : Int, d = .int .u8 z ∧ 0 ≤ z ∧ z ≤ 255
end Go.Proofs.Ytcnmpghenfbflaa.Mini
end
