/- Parts of the proof: RosM. -/
import Derived.Test.YtdhjfbnlkecggaaGdRos
section
namespace Go.Proofs.Ytdhjfbnlkecggaa.Mini
open Go Go.RowKit
set_option linter.unusedVariables false
set_option linter.unusedSimpArgs false
set_option maxRecDepth 20000
abbrev ltP (a b : Per) : Prop := ltS a.w b.w = true
theorem asc_iff : ∀ {l : List Per}, ascB l = true ↔ l.Pairwise ltP
  | [] => by simp [ascB]
  | [a] => by simp [ascB]
  | a :: b :: l => by
    have ih := @asc_iff (b :: l)
    rw [List.pairwise_cons, ← ih]
    show (ltS a.w b.w && ascB (b :: l)) = true ↔ _
    rw [Bool.and_eq_true]
    constructor
    · rintro ⟨h1, h2⟩
      refine ⟨fun x hx => ?_, h2⟩
      rcases List.mem_cons.mp hx with rfl | hx
      · exact h1
      · exact ltS_trans h1 ((List.pairwise_cons.mp (ih.mp h2)).1 x hx)
    · rintro ⟨h1, h2⟩
      exact ⟨h1 b (by simp), h2⟩
theorem ros_iff {l : List Per} : rosB l = true ↔ (∀ p ∈ l, perB p = true) ∧ l.Pairwise ltP ∧ l.length ≤ 8 := by
  unfold rosB
  rw [Bool.and_eq_true, Bool.and_eq_true, List.all_eq_true, asc_iff, decide_eq_true_eq]
  exact ⟨fun ⟨⟨a, b⟩, c⟩ => ⟨a, b, c⟩, fun ⟨a, b, c⟩ => ⟨⟨a, b⟩, c⟩⟩
theorem ros_at {l : List Per} (h : rosB l = true) {i j : Nat} {p q : Per} (hi : l[i]? = some p) (hj : l[j]? = some q) (hij : i < j) : ltS p.w q.w = true := by
  obtain ⟨a, rfl⟩ := List.getElem?_eq_some_iff.mp hi
  obtain ⟨b, rfl⟩ := List.getElem?_eq_some_iff.mp hj
  exact List.pairwise_iff_getElem.mp (ros_iff.mp h).2.1 i j a b hij
theorem place_is {l : List Per} {w : ByteArray} {i : Nat} {p : Per} (hi : l[i]? = some p) (hw : p.w = w) (hn : ∀ (j : Nat) (q : Per), j < i → l[j]? = some q → q.w ≠ w) : placeP w l = i := by
  obtain ⟨a, e⟩ := List.getElem?_eq_some_iff.mp hi
  unfold placeP
  rw [List.findIdx_eq a]
  refine ⟨by rw [e]; exact eqS_iff.mpr hw, fun j hj => ?_⟩
  have := hn j l[j] hj (List.getElem?_eq_getElem (by omega))
  cases h : eqS l[j].w w with
  | false => rfl
  | true => exact absurd (eqS_iff.mp h) this
theorem place_no {l : List Per} {w : ByteArray} (hn : ∀ q ∈ l, q.w ≠ w) : placeP w l = l.length := by
  unfold placeP
  rw [List.findIdx_eq_length]
  intro q hq
  cases h : eqS q.w w with
  | false => rfl
  | true => exact absurd (eqS_iff.mp h) (hn q hq)
theorem place_at {l : List Per} {w : ByteArray} (h : placeP w l < l.length) : ∃ p, l[placeP w l]? = some p ∧ p.w = w ∧ ∀ (j : Nat) (q : Per), j < placeP w l → l[j]? = some q → q.w ≠ w := by
  refine ⟨l[placeP w l], List.getElem?_eq_getElem h, eqS_iff.mp (List.findIdx_getElem (w := h)), fun j q hj hq e => ?_⟩
  obtain ⟨a, rfl⟩ := List.getElem?_eq_some_iff.mp hq
  have := List.not_of_lt_findIdx hj
  rw [eqS_iff.mpr e] at this
  cases this
/-- Where a word belongs: all before it are less, and what is there is not. -/
theorem gap_le (w : ByteArray) (l : List Per) : gapP w l ≤ l.length := List.findIdx_le_length
theorem gap_is {l : List Per} {w : ByteArray} {i : Nat} (hi : i ≤ l.length) (hb : ∀ (j : Nat) (q : Per), j < i → l[j]? = some q → ltS q.w w = true) (he : ∀ q, l[i]? = some q → ltS q.w w = false) : gapP w l = i := by
  by_cases h : i < l.length
  · unfold gapP
    rw [List.findIdx_eq h]
    refine ⟨by rw [he _ (List.getElem?_eq_getElem h)]; rfl, fun j hj => ?_⟩
    rw [hb j _ hj (List.getElem?_eq_getElem (by omega))]; rfl
  · have e : i = l.length := by omega
    subst e
    unfold gapP
    rw [List.findIdx_eq_length]
    intro q hq
    obtain ⟨j, hj, rfl⟩ := List.getElem_of_mem hq
    rw [hb j _ hj (List.getElem?_eq_getElem hj)]; rfl
theorem ins_len (p : Per) (l : List Per) : (insP p l).length = l.length + 1 := by
  have := gap_le p.w l
  unfold insP
  rw [List.length_append, List.length_take, List.length_cons, List.length_drop]
  omega
theorem join_mem {l : List Per} {p q : Per} (h : q ∈ (joinP l p).1) : q ∈ l ∨ q = p := by
  unfold joinP at h
  split at h
  · split at h
    · have h : q ∈ insP p l := h
      unfold insP at h
      rcases List.mem_append.mp h with h | h
      · exact .inl (List.mem_of_mem_take h)
      · rcases List.mem_cons.mp h with h | h
        · exact .inr h
        · exact .inl (List.mem_of_mem_drop h)
    · exact .inl h
  · simp at h
theorem join_len {l : List Per} {p : Per} : (joinP l p).1.length ≤ l.length + 1 := by
  unfold joinP
  split
  · split
    · exact Nat.le_of_eq (ins_len p l)
    · exact Nat.le_succ _
  · exact Nat.zero_le _
end Go.Proofs.Ytdhjfbnlkecggaa.Mini
end
