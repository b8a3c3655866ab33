/- Parts of the proof: SAnsM. -/
import Derived.Test.YtjleempapphlhabGeSAns
section
namespace Go.Proofs.Ytjleempapphlhab.Mini
open Go Go.RowKit
set_option linter.unusedVariables false
set_option linter.unusedSimpArgs false
set_option maxRecDepth 20000
theorem sameK_iff {x y : ByteArray} : sameK x y = true ↔ x = y := by
  unfold sameK
  rw [beq_iff_eq]
  exact ⟨text_eq, fun h => by rw [h]⟩
theorem comS_len (a b : List ByteArray) : (comS a b).length ≤ a.length := List.length_filter_le _ _
theorem med_iff {m : Med} : medB m = true ↔ ((∀ x ∈ m.c, wordS x = true) ∧ distB m.c = true) ∧ wordS m.k = true ∧ (0 ≤ m.p ∧ m.p ≤ 65535) ∧ 1 ≤ m.c.length ∧ m.c.length ≤ 4 := by
  unfold medB
  simp only [Bool.and_eq_true, List.all_eq_true, inB_iff]
  constructor
  · rintro ⟨h1, h2, h3, h4⟩
    exact ⟨h1, h2, h3, by omega, by omega⟩
  · rintro ⟨h1, h2, h3, h4, h5⟩
    exact ⟨h1, h2, h3, by omega, by omega⟩
theorem okA_parts {o w : Med} (h : okA o w = true) : o.k = w.k ∧ o.p ≠ 0 ∧ w.p ≠ 0 ∧ (comS o.c w.c).length ≠ 0 := by
  unfold okA at h
  simp only [Bool.and_eq_true, bne_iff_ne, sameK_iff] at h
  exact ⟨h.1.1, h.1.2, h.2.1, h.2.2⟩
theorem ref_valid {o : Med} (h : medB o = true) : medB (refM o) = true := by
  rw [med_iff] at h ⊢
  exact ⟨h.1, h.2.1, by simp [refM], h.2.2.2⟩
theorem findU_lt {k : ByteArray} : ∀ {own : List Med} {u : List Bool} {j : Nat}, findU k own u = some j → ∃ m, own[j]? = some m ∧ u[j]? = some false ∧ m.k = k
  | [], _, j, h => by simp [findU] at h
  | m :: l, [], j, h => by simp [findU] at h
  | m :: l, b :: us, j, h => by
    unfold findU at h
    split at h
    · rename_i hc
      injection h with h
      subst h
      simp only [Bool.and_eq_true, Bool.not_eq_true', sameK_iff] at hc
      exact ⟨m, rfl, by rw [hc.1]; rfl, hc.2⟩
    · obtain ⟨i, hi, rfl⟩ := Option.map_eq_some_iff.mp h
      obtain ⟨m', q1, q2, q3⟩ := findU_lt hi
      exact ⟨m', by simpa using q1, by simpa using q2, q3⟩
theorem ansL_len {own : List Med} : ∀ (l : List Med) (u : List Bool), (ansL own l u).length = l.length
  | [], _ => rfl
  | o :: l, u => by
    unfold ansL
    split <;> simp [ansL_len l]
end Go.Proofs.Ytjleempapphlhab.Mini
end
