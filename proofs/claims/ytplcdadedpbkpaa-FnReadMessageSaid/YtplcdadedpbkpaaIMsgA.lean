/- The contracts of the program's functions of chapter 4: answers to messages. -/
import Derived.Test.YtplcdadedpbkpaaIMsgL
import Derived.Test.YtplcdadedpbkpaaMsgA
namespace Go.Proofs.Ytplcdadedpbkpaa
open Go.RowKit
set_option linter.unusedVariables false
set_option maxRecDepth 20000

theorem filter_take_yes {hs : List HeadM} {k : Nat} {p : HeadM} {f : HeadM → Bool} (hp : hs[k]? = some p) (h : f p = true) : (hs.take (k + 1)).filter f = (hs.take k).filter f ++ [p] := by
  obtain ⟨h1, h2⟩ := List.getElem?_eq_some_iff.mp hp
  rw [List.take_add_one, hp, List.filter_append]; simp [h]
theorem filter_take_no {hs : List HeadM} {k : Nat} {p : HeadM} {f : HeadM → Bool} (hp : hs[k]? = some p) (h : f p = false) : (hs.take (k + 1)).filter f = (hs.take k).filter f := by
  rw [List.take_add_one, hp, List.filter_append]; simp [h]

end Go.Proofs.Ytplcdadedpbkpaa
