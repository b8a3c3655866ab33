/- Plain facts about addresses. Nothing here speaks of the program. -/
import Derived.Test.YtgoheolehnahkaaPlain
namespace Go.Proofs.Ytgoheolehnahkaa
open Go.RowKit
set_option linter.unusedVariables false

/-- The place of the first @; the length, if there is none. -/
def atL (l : List UInt8) : Nat := l.findIdx (· == 64)
/-- A text begins with sip: -/
def sipB (l : List UInt8) : Bool := l.take 4 == [115, 105, 112, 58]
def userOf (l : List UInt8) : List UInt8 := (l.drop 4).take (atL (l.drop 4))
def hostOf (l : List UInt8) : List UInt8 := (l.drop 4).drop (atL (l.drop 4) + 1)
/-- A text is the text of a valid address. -/
def addrB (l : List UInt8) : Bool := sipB l && decide (atL (l.drop 4) < (l.drop 4).length) && wordB (userOf l) && wordB (hostOf l)
/-- The text of a valid address. -/
def addrT (u h : List UInt8) : List UInt8 := [115, 105, 112, 58] ++ u ++ [64] ++ h

theorem atL_le (l : List UInt8) : atL l ≤ l.length := List.findIdx_le_length
theorem atL_eq {l : List UInt8} {k : Nat} (hk : k < l.length) (h1 : l[k] = 64) (h2 : ∀ (j : Nat) (hj : j < k), l[j]'(by omega) ≠ 64) : atL l = k := by
  unfold atL
  rw [List.findIdx_eq hk]
  exact ⟨by simp [h1], fun j hj => by simpa using h2 j hj⟩
theorem atL_none {l : List UInt8} (h : ∀ (j : Nat) (hj : j < l.length), l[j] ≠ 64) : atL l = l.length := by
  unfold atL
  rw [List.findIdx_eq_length]
  intro x hx
  obtain ⟨j, hj, rfl⟩ := List.getElem_of_mem hx
  simpa using h j hj
theorem isLd_at : isLd 64 = false := rfl
theorem word_no_at {l : List UInt8} (h : wordB l = true) (j : Nat) (hj : j < l.length) : l[j] ≠ 64 := by
  unfold wordB at h
  simp only [Bool.and_eq_true] at h
  have := List.all_eq_true.mp h.2 _ (List.getElem_mem hj)
  intro e
  rw [e, isLd_at] at this
  cases this
theorem atL_user {u h : List UInt8} (hu : wordB u = true) : atL (u ++ [64] ++ h) = u.length := by
  apply atL_eq (by simp)
  · simp
  · intro j hj
    simp only [List.append_assoc]
    rw [List.getElem_append_left hj]
    exact word_no_at hu j hj
theorem drop_addrT (u h : List UInt8) : (addrT u h).drop 4 = u ++ [64] ++ h := by simp [addrT]
theorem user_addrT {u h : List UInt8} (hu : wordB u = true) : userOf (addrT u h) = u := by
  unfold userOf; rw [drop_addrT, atL_user hu]; simp
theorem host_addrT {u h : List UInt8} (hu : wordB u = true) : hostOf (addrT u h) = h := by
  unfold hostOf; rw [drop_addrT, atL_user hu]; simp
theorem addrB_addrT {u h : List UInt8} (hu : wordB u = true) (hh : wordB h = true) : addrB (addrT u h) = true := by
  unfold addrB
  rw [user_addrT hu, host_addrT hu, hu, hh, drop_addrT, atL_user hu]
  simp [sipB, addrT]
theorem at_split {l : List UInt8} (h : atL l < l.length) : l.take (atL l) ++ [64] ++ l.drop (atL l + 1) = l := by
  have h1 : l[atL l] = 64 := by
    have := List.findIdx_getElem (p := (· == (64 : UInt8))) (w := h)
    exact eq_of_beq this
  conv => rhs; rw [← List.take_append_drop (atL l) l]
  rw [List.append_assoc, List.drop_eq_getElem_cons h, h1]
  rfl
theorem addrT_of {l : List UInt8} (h1 : sipB l = true) (h2 : atL (l.drop 4) < (l.drop 4).length) : addrT (userOf l) (hostOf l) = l := by
  have e : l.take 4 = [115, 105, 112, 58] := by simpa [sipB] using h1
  have := at_split h2
  unfold addrT userOf hostOf
  rw [List.append_assoc, List.append_assoc, ← List.append_assoc _ [64], this, ← e, List.take_append_drop]
theorem addrT_sip (u h : List UInt8) : sipB (addrT u h) = true := by simp [sipB, addrT]
/-- An accepted text with @ behind it is refused. -/
theorem addrB_more {l : List UInt8} (h : addrB l = true) : addrB (l ++ [64]) = false := by
  unfold addrB at h
  simp only [Bool.and_eq_true, decide_eq_true_eq] at h
  obtain ⟨⟨⟨h1, h2⟩, h3⟩, h4⟩ := h
  have e := addrT_of h1 h2
  have e2 : l ++ [64] = addrT (userOf l) (hostOf l ++ [64]) := by
    have e3 : addrT (userOf l) (hostOf l ++ [64]) = addrT (userOf l) (hostOf l) ++ [64] := by simp [addrT]
    rw [e3, e]
  rw [Bool.eq_false_iff]
  intro hb
  rw [e2] at hb
  unfold addrB at hb
  simp only [Bool.and_eq_true] at hb
  have h5 := hb.2
  rw [host_addrT h3] at h5
  exact word_no_at h5 (hostOf l).length (by simp) (by simp)
end Go.Proofs.Ytgoheolehnahkaa
