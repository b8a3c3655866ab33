/- The walks of the laws of chapter 4 over drawn inputs. -/
import Derived.Test.YtplcdadedpbkpaaLaws4
import Derived.Test.YtplcdadedpbkpaaDrawMd
import Derived.Test.YtplcdadedpbkpaaSame
import Derived.Test.YtplcdadedpbkpaaAlive
namespace Go.Proofs.Ytplcdadedpbkpaa
open Go.RowKit
set_option linter.unusedVariables false
set_option maxRecDepth 20000

theorem sees_call {w w1 : World} {m n : Nat} {A : Option Addr} {xs : List Value} (h : Sees w w.heap.size m A n xs) (hb : Below w.heap.size w w1) : Sees w1 w1.heap.size m A n xs := (h.below hb (Nat.le_refl _)).more hb.size
theorem sees_alloc {w : World} {m n : Nat} {A : Option Addr} {xs : List Value} (h : Sees w w.heap.size m A n xs) (o : Obj) : Sees (w.alloc o) (w.alloc o).heap.size m A n xs := (h.alloc (Nat.le_refl _) o).more (by simp)
theorem heads_4000 {hs : List HeadM} (h : ∀ p ∈ hs, p.x0.size ≤ 4000 ∧ p.x1.size ≤ 4000) : headMax hs := fun p hp => by
  have := h p hp
  exact ⟨by unfold maxLen; omega, by unfold maxLen; omega⟩
theorem msgL_sm {p : MsgM} (h : msgB p = true) : ∀ s ∈ msgL p, s.size ≤ 1048576 := by
  obtain ⟨x0, x1, x2, x3, hh, bb⟩ := p
  obtain ⟨h1, h2, h3, h4⟩ := msgB_parts h
  unfold msgL
  rw [if_pos h]
  intro s hs
  simp only [List.mem_cons, List.mem_append, List.mem_map] at hs
  have hl : ∀ s : ByteArray, s.data.toList.length = s.size := fun s => by simp
  rcases hs with rfl | ⟨q, hq, rfl⟩ | rfl | hs
  · have hA : ∀ u h : ByteArray, (wordB u.data.toList && wordB h.data.toList) = true → (textA u h).size ≤ 25 := by
      intro u h hv
      unfold textA
      rw [if_pos hv]
      rw [Bool.and_eq_true] at hv
      have h1 := word_len hv.1
      have h2 := word_len hv.2
      rw [hl] at h1 h2
      show (addrT u.data.toList h.data.toList).toArray.size ≤ 25
      unfold addrT
      simp
      omega
    have hT : (textS x3).size ≤ 7 := by
      unfold textS textN
      split
      · have := numT_len7 x3.toNat (by omega)
        show (numT x3.toNat).toArray.size ≤ 7
        simpa using this
      · decide
    unfold firstL
    split
    · rw [size_cat]; show 7 + (textS x3).size ≤ _; omega
    · rename_i hne
      rw [Bool.or_eq_true] at h1
      rcases h1 with h1 | h1
      · unfold reqB at h1
        simp only [Bool.and_eq_true] at h1
        have h5 := word_len h1.1.1.1
        rw [hl] at h5
        have h6 := hA _ _ (by rw [Bool.and_eq_true]; exact h1.2)
        rw [size_cat, size_cat]
        show x0.size + 1 + (textA x1 x2).size ≤ _
        change 1 ≤ x0.size ∧ x0.size ≤ 10 at h5
        change (textA x1 x2).size ≤ 25 at h6
        omega
      · unfold ansB at h1
        simp only [Bool.and_eq_true] at h1
        exact absurd h1.1.1 hne
  · have := headB_size (p := q) (by
      have h5 : headsB hh = true := h2
      unfold headsB at h5
      rw [Bool.and_eq_true] at h5
      exact List.all_eq_true.mp h5.2 q hq)
    unfold headL
    rw [size_cat, size_cat]
    show _ + 2 + _ ≤ _
    omega
  · exact Nat.zero_le _
  · have h5 := List.all_eq_true.mp h4 s hs
    unfold lineN at h5
    rw [Bool.and_eq_true] at h5
    have h6 := h5.1
    unfold lineB at h6
    simp only [Bool.and_eq_true, decide_eq_true_eq] at h6
    rw [hl] at h6
    omega

theorem msg_max {p : MsgM} (h : msgB p = true) : (p.x0.size ≤ maxLen ∧ p.x1.size ≤ maxLen ∧ p.x2.size ≤ maxLen) ∧ headMax p.h ∧ ∀ s ∈ p.b, s.size ≤ maxLen := by
  obtain ⟨h1, h2, h3, h4⟩ := msgB_parts h
  have hl : ∀ s : ByteArray, s.data.toList.length = s.size := fun s => by simp
  have hz : ∀ s : ByteArray, (s.toList == []) = true → s.size ≤ maxLen := by
    intro s hs
    have := eq_of_beq hs
    rw [ByteArray.toList_eq] at this
    have e := hl s
    rw [this] at e
    simp at e
    omega
  refine ⟨?_, heads_valid_max h2, fun s hs => ?_⟩
  · rw [Bool.or_eq_true] at h1
    rcases h1 with h1 | h1
    · unfold reqB at h1
      simp only [Bool.and_eq_true] at h1
      exact ⟨word_max h1.1.1.1, word_max h1.2.1, word_max h1.2.2⟩
    · unfold ansB at h1
      simp only [Bool.and_eq_true] at h1
      exact ⟨hz _ h1.1.1, hz _ h1.2.1, hz _ h1.2.2⟩
  · have h5 := List.all_eq_true.mp h4 s hs
    unfold lineN at h5
    rw [Bool.and_eq_true] at h5
    have h6 := h5.1
    unfold lineB at h6
    simp only [Bool.and_eq_true, decide_eq_true_eq] at h6
    rw [hl] at h6
    unfold maxLen; omega
end Go.Proofs.Ytplcdadedpbkpaa
