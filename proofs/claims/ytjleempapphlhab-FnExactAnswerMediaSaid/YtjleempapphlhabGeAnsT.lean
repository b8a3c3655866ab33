/- Parts of the proof: AnsT. -/
import Derived.Test.YtjleempapphlhabGeSAnsP
section
namespace Go.Proofs.Ytjleempapphlhab.Mini
open Go Go.RowKit
set_option linter.unusedVariables false
set_option linter.unusedSimpArgs false
set_option maxRecDepth 20000
theorem ansO_len {l o : List Med} : (ansO l o).length ≤ l.length := by
  unfold ansO
  split
  · rw [ansL_len]; exact Nat.le_refl _
  · simp
theorem ansL_each {Q : Med → Prop} {own : List Med} (h1 : ∀ o w, Q o → (Q w ∨ w = zeroMd) → Q (ansM o w)) (h2 : ∀ o, Q o → Q (refM o)) (hw : ∀ m ∈ own, Q m) : ∀ (l : List Med) (u : List Bool), (∀ m ∈ l, Q m) → ∀ m ∈ ansL own l u, Q m
  | [], u, _, m, hm => by simp [ansL] at hm
  | o :: l, u, h, m, hm => by
    have ho := h o (by simp)
    have hl : ∀ m ∈ l, Q m := fun m hm => h m (by simp [hm])
    rw [ansL_cons] at hm
    split at hm
    · rename_i j hj
      rcases List.mem_cons.mp hm with rfl | hm
      · obtain ⟨w, q1, _⟩ := findU_lt hj
        have e : own.getD j zeroMd = w := by rw [List.getD_eq_getElem?_getD, q1]; rfl
        rw [e]
        exact h1 o w ho (.inl (hw w (List.mem_of_getElem? q1)))
      · exact ansL_each h1 h2 hw l _ hl m hm
    · rcases List.mem_cons.mp hm with rfl | hm
      · exact h1 o _ ho (.inl (h2 o ho))
      · exact ansL_each h1 h2 hw l _ hl m hm
theorem ansO_each {Q : Med → Prop} {l own : List Med} (h1 : ∀ o w, Q o → (Q w ∨ w = zeroMd) → Q (ansM o w)) (h2 : ∀ o, Q o → Q (refM o)) (hl : ∀ m ∈ l, Q m) (hw : ∀ m ∈ own, Q m) : ∀ m ∈ ansO l own, Q m := by
  intro m hm
  unfold ansO at hm
  split at hm
  · exact ansL_each h1 h2 hw l _ hl m hm
  · simp at hm
theorem sm_ref {o : Med} (h : smM o) : smM (refM o) := ⟨h.1, h.2.1, h.2.2⟩
theorem sm_zero : smM zeroMd := ⟨by decide, by simp [zeroMd], by simp [zeroMd]⟩
theorem sm_ans {o w : Med} (h : smM o) : smM (ansM o w) := by
  unfold ansM
  split
  · split
    · have := comS_len o.c w.c
      exact ⟨h.1, by show (comS o.c w.c).length ≤ _; have := h.2.1; omega, fun x hx => h.2.2 x (List.mem_filter.mp hx).1⟩
    · exact sm_ref h
  · exact sm_zero
theorem sm_ansO {l own : List Med} (hl : ∀ m ∈ l, smM m) (hw : ∀ m ∈ own, smM m) : ∀ m ∈ ansO l own, smM m := ansO_each (fun o w h _ => sm_ans h) (fun o h => sm_ref h) hl hw
end Go.Proofs.Ytjleempapphlhab.Mini
end
