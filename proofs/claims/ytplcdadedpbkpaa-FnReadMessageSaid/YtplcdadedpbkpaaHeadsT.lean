/- The contracts of the model's functions of chapter 3: set heads. -/
import Derived.Test.YtplcdadedpbkpaaHeadsS
namespace Go.Proofs.Ytplcdadedpbkpaa
open Go.RowKit
set_option linter.unusedVariables false

/-- A result that is a list in new memory, and a bool. -/
def RowB (w : World) (E m : Nat) (n : Nat) (xs : List Value) (ok : Bool) (e : Ending) (w' : World) : Prop :=
  ∃ A c, e = .returned (.tuple #[.slice A n c, .bool ok]) ∧ w'.ownsRow w.heap.size E m (.slice A n c) n xs ∧ Below w.heap.size w w'
/-- Heads with a line set: the place of the first one with the name, or a new one. -/
def setH (hs : List HeadM) (nm ln : ByteArray) : List HeadM :=
  if hs.findIdx (nameB nm) < hs.length then hs.set (hs.findIdx (nameB nm)) ⟨nm, ln⟩ else hs ++ [⟨nm, ln⟩]
/-- One list or the other one. -/
def pickL (v : Bool) (a b : List Value) : List Value := if v = true then a else b
def pickN (v : Bool) (a b : Nat) : Nat := if v = true then a else b
theorem head_ones (hs : List HeadM) : ∀ u ∈ flat headC hs, u.oneCell' = true := by
  intro u hu
  unfold flat at hu
  rw [List.mem_flatMap] at hu
  obtain ⟨p, _, hp⟩ := hu
  simp [headC] at hp
  rcases hp with rfl | rfl <;> rfl
theorem name_eq {p : HeadM} {nm : ByteArray} (h : nameB nm p = true) : p.x0 = nm := by
  unfold nameB at h
  have := eq_of_beq h
  rw [ByteArray.toList_eq, ByteArray.toList_eq] at this
  exact str_of this
theorem flat_new (hs : List HeadM) (n : Nat) (hn : n = hs.length) (nm ln : ByteArray) : (flat headC hs ++ [Value.string nm, Value.string ⟨#[]⟩]).set (n * 2 + 1) (.string ln) = flat headC (hs ++ [⟨nm, ln⟩]) := by
  have h := flat_set (u := Value.string ln) (a' := ⟨nm, ln⟩) headC_len (hs ++ [⟨nm, ⟨#[]⟩⟩]) (k := n) (j := 1) (a := ⟨nm, ⟨#[]⟩⟩) (by rw [hn]; simp) (by omega) rfl
  rw [flat_append, flat_one] at h
  refine h.trans ?_
  rw [List.set_append_right _ _ (by rw [hn]; exact Nat.le_refl _), ← hn]
  simp
theorem max_set {hs : List HeadM} {p : HeadM} {k : Nat} (h : headMax hs) (hp : headOk maxLen p) : headMax (hs.set k p) := by
  intro q hq
  rcases List.mem_or_eq_of_mem_set hq with h1 | h1
  · exact h q h1
  · rw [h1]; exact hp
theorem max_app {hs : List HeadM} {p : HeadM} (h : headMax hs) (hp : headOk maxLen p) : headMax (hs ++ [p]) := by
  intro q hq
  rw [List.mem_append, List.mem_singleton] at hq
  rcases hq with h1 | h1
  · exact h q h1
  · rw [h1]; exact hp
theorem setH_found {hs : List HeadM} {nm ln : ByteArray} {k : Nat} {p : HeadM} (hk : hs[k]? = some p) (h1 : ∀ q ∈ hs.take k, nameB nm q = false) (h2 : nameB nm p = true) : setH hs nm ln = hs.set k ⟨p.x0, ln⟩ := by
  have e : hs.findIdx (nameB nm) = k := by
    obtain ⟨hlt, he⟩ := List.getElem?_eq_some_iff.mp hk
    rw [List.findIdx_eq hlt, he]
    refine ⟨h2, fun j hj => ?_⟩
    exact h1 _ (List.mem_of_getElem? (i := j) (by rw [List.getElem?_take, if_pos hj]; exact List.getElem?_eq_getElem (by omega)))
  have hlt := (List.getElem?_eq_some_iff.mp hk).1
  unfold setH
  rw [e, if_pos hlt, name_eq h2]
theorem setH_new {hs : List HeadM} {nm ln : ByteArray} (h1 : ∀ q ∈ hs, nameB nm q = false) : setH hs nm ln = hs ++ [⟨nm, ln⟩] := by
  have e : hs.findIdx (nameB nm) = hs.length := by
    rw [List.findIdx_eq_length]
    intro x hx; simp [h1 x hx]
  unfold setH
  rw [e, if_neg (by omega)]

/-- What the model's SetHead answers. -/
def setN (hs : List HeadM) (nm ln : ByteArray) : List HeadM := if headsB hs = true then (if headsB (setH hs nm ln) = true then setH hs nm ln else hs) else []
def setOk (hs : List HeadM) (nm ln : ByteArray) : Bool := headsB hs && headsB (setH hs nm ln)
end Go.Proofs.Ytplcdadedpbkpaa
