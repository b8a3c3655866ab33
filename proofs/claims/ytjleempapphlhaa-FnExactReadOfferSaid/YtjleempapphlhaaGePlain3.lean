/- Parts of the proof: Plain3. -/
import Derived.Test.YtjleempapphlhaaGePlain
section
namespace Go.Proofs.Ytjleempapphlhaa
open Go.RowKit
set_option linter.unusedVariables false
set_option maxRecDepth 20000
def wordsL : List UInt8 → List (List UInt8)
  | [] => [[]]
  | c :: t => if c = 32 then [] :: wordsL t else match wordsL t with
    | [] => [[c]]
    | h :: r => (c :: h) :: r
theorem wordsL_ne (l : List UInt8) : wordsL l ≠ [] := by
  cases l with
  | nil => simp [wordsL]
  | cons c t =>
    rw [wordsL]
    split
    · simp
    · split <;> simp
theorem wordsL_snoc (l : List UInt8) (c : UInt8) : ∃ i a, wordsL l = i ++ [a] ∧ wordsL (l ++ [c]) = if c = 32 then i ++ [a] ++ [[]] else i ++ [a ++ [c]] := by
  by_cases hc : c = 32
  · simp only [if_pos hc]
    induction l with
    | nil => exact ⟨[], [], rfl, by rw [List.nil_append, wordsL, if_pos hc]; rfl⟩
    | cons d t ih =>
      obtain ⟨i, a, h1, h2⟩ := ih
      rw [List.cons_append, wordsL, wordsL]
      by_cases hd : d = 32
      · rw [if_pos hd, if_pos hd, h1, h2]
        exact ⟨[] :: i, a, rfl, by simp⟩
      · rw [if_neg hd, if_neg hd, h1, h2]
        cases i with
        | nil => exact ⟨[], d :: a, rfl, rfl⟩
        | cons e r => exact ⟨(d :: e) :: r, a, rfl, rfl⟩
  · simp only [if_neg hc]
    induction l with
    | nil => exact ⟨[], [], rfl, by rw [List.nil_append, wordsL, if_neg hc]; rfl⟩
    | cons d t ih =>
      obtain ⟨i, a, h1, h2⟩ := ih
      rw [List.cons_append, wordsL, wordsL]
      by_cases hd : d = 32
      · rw [if_pos hd, if_pos hd, h1, h2]
        exact ⟨[] :: i, a, rfl, by simp⟩
      · rw [if_neg hd, if_neg hd, h1, h2]
        cases i with
        | nil => exact ⟨[], d :: a, rfl, rfl⟩
        | cons e r => exact ⟨(d :: e) :: r, a, rfl, rfl⟩
theorem wordsL_plain {l : List UInt8} (h : ∀ c ∈ l, c ≠ 32) : wordsL l = [l] := by
  induction l with
  | nil => rfl
  | cons c t ih =>
    rw [wordsL, if_neg (h c (by simp)), ih (fun x hx => h x (by simp [hx]))]
theorem wordsL_cut {a b : List UInt8} (h : ∀ c ∈ a, c ≠ 32) : wordsL (a ++ 32 :: b) = a :: wordsL b := by
  induction a with
  | nil => rw [List.nil_append, wordsL, if_pos rfl]
  | cons c t ih => rw [List.cons_append, wordsL, if_neg (h c (by simp)), ih (fun x hx => h x (by simp [hx]))]
/-- The place of the first space; the length, if there is none. -/
def spL (l : List UInt8) : Nat := l.findIdx (· == 32)
theorem sp_split (l : List UInt8) (h : spL l < l.length) : l = l.take (spL l) ++ 32 :: l.drop (spL l + 1) ∧ ∀ c ∈ l.take (spL l), c ≠ 32 := by
  have e := List.findIdx_getElem (w := h)
  refine ⟨?_, ?_⟩
  · conv => lhs; rw [← List.take_append_drop (spL l) l]
    rw [List.drop_eq_getElem_cons h]
    congr 2
    exact eq_of_beq e
  · intro c hc
    obtain ⟨j, hj, he⟩ := List.getElem_of_mem hc
    rw [List.length_take] at hj
    rw [List.getElem_take] at he
    have := List.not_of_lt_findIdx (show j < l.findIdx (· == 32) by unfold spL at hj; omega)
    rw [he] at this
    simpa using this
theorem sp_none (l : List UInt8) (h : ¬ spL l < l.length) : ∀ c ∈ l, c ≠ 32 := by
  intro c hc e
  exact h (List.findIdx_lt_length_of_exists ⟨c, hc, by rw [e]; rfl⟩)
def bytesOf (l : List UInt8) : ByteArray := ⟨l.toArray⟩
def wordsS (s : ByteArray) : List ByteArray := (wordsL s.data.toList).map bytesOf
theorem ext_one (s : ByteArray) (k : Nat) (h : k < s.size) : (s.extract k (k + 1)).data.toList = [s[k]] := by
  have e1 : s.data.toList[k]'(by simp; omega) = s[k] := rfl
  simp only [ByteArray.data_extract, Array.toList_extract, List.extract_eq_take_drop]
  rw [List.drop_eq_getElem_cons (by simp; omega), show k + 1 - k = 1 by omega]
  simp [e1]
end Go.Proofs.Ytjleempapphlhaa
end
