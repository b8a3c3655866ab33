/- Structs that came in as arguments of a law: their fields, whatever they are. -/
import Derived.Test.YtgoheolehnahkaaOpen
namespace Go.Proofs.Ytgoheolehnahkaa
open Go.RowKit Go.ChangeShapes Go.WideShapes Go.Deep
set_option linter.unusedVariables false

section
variable {H : Type} {enc : TypeId × Value → H} {P : Program} {w : World}
/-- A struct by its cells: each field reads its own. -/
theorem open_struct {r : Reach} {b0 : Nat} {t : TypeId} {fs : Array Field} {v : Value} {d : DataW H} {p : List MemPlace} (hs : P.underlying t = some (.struct fs)) (hv : Value.okWide P w r b0 t v) (h : DataW.Trod enc P w 0 (fun _ => true) true t v d p) :
    ∃ (cs : List Value) (n : Nat), v = .agg cs.toArray ∧ cs.length = P.cellsOf t ∧ ∀ (i : Nat) (f : Field), fs[i]? = some f → ∃ y, DataW.trod enc P w 0 (fun _ => true) true n f.type ((cs.drop f.offset).take (P.cellsOf f.type)) = some y := by
  obtain ⟨cs, rfl, hsz⟩ := okWide_struct hs hv
  obtain ⟨fuel, hf⟩ := h
  obtain ⟨xs, n, _, _, hl, hlen, hx⟩ := DataW.trod_struct hs hf
  refine ⟨cs.toList, n, by simp, by simpa using hsz, fun i f hi => ?_⟩
  have hlt : i < xs.length := by rw [hlen]; exact (Array.getElem?_eq_some_iff.mp hi).1
  have := hx i f hi
  rw [List.getElem?_eq_getElem hlt] at this
  exact ⟨xs[i], this⟩
/-- A field that is a slice. -/
theorem open_cell_slice {t e : TypeId} {n : Nat} {c : Value} {y : DataW H × List MemPlace} (ht : P.underlying t = some (.slice e)) (h : DataW.trod enc P w 0 (fun _ => true) true n t [c] = some y) :
    ∃ A l k, c = .slice A l k ∧ DataW.Trod enc P w 0 (fun _ => true) true t (.slice A l k) y.1 y.2 := by
  rcases open_slice ht h with ⟨hcs, _⟩ | ⟨ad, l, c', k, n', D, Pl, hcs, _⟩
  · obtain rfl : c = .slice none 0 0 := by simpa using hcs
    exact ⟨_, _, _, rfl, n, h⟩
  · obtain rfl : c = .slice (some ad) l c' := by simpa using hcs
    exact ⟨_, _, _, rfl, n, h⟩
end
end Go.Proofs.Ytgoheolehnahkaa
