/- Parts of the proof: RwP, Tord. -/
import Derived.Test.YtdhjfbnlkecggaaGdRdP
import Derived.Test.YtdhjfbnlkecggaaGdHx
section
namespace Go.Proofs.Ytdhjfbnlkecggaa.Mini
open Go Go.RowKit
set_option linter.unusedVariables false
set_option linter.unusedSimpArgs false
set_option maxRecDepth 20000
/-- A reader comes in. -/
theorem rd_split {t n : Nat} {r l : List D} {c : Int} (h : rdIn (.list t n r :: l) c) : ∃ (L : D) (p : Int), r = rdL L p ∧ bytesOk L ∧ 0 ≤ p ∧ p + c ≤ 1000000 := h
end Go.Proofs.Ytdhjfbnlkecggaa.Mini
end
section
namespace Go.Proofs.Ytdhjfbnlkecggaa.Mini
open Go Go.RowKit
set_option linter.unusedVariables false
set_option linter.unusedSimpArgs false
set_option maxRecDepth 20000
def ltS (a b : ByteArray) : Bool := Op.bytesLess a.data.toList b.data.toList
def eqS (a b : ByteArray) : Bool := a.data.toList == b.data.toList
theorem less_irr : ∀ x : List UInt8, Op.bytesLess x x = false
  | [] => rfl
  | a :: x => by simp [Op.bytesLess, less_irr x]
theorem less_trans : ∀ {x y z : List UInt8}, Op.bytesLess x y = true → Op.bytesLess y z = true → Op.bytesLess x z = true
  | _, _, [], _, h => by simp [Op.bytesLess] at h
  | [], _, _ :: _, _, _ => rfl
  | _ :: _, [], _ :: _, h, _ => by simp [Op.bytesLess] at h
  | a :: x, b :: y, c :: z, h1, h2 => by
    simp only [Op.bytesLess, Bool.or_eq_true, Bool.and_eq_true, decide_eq_true_eq, beq_iff_eq] at h1 h2 ⊢
    rcases h1 with h1 | ⟨rfl, h1⟩ <;> rcases h2 with h2 | ⟨rfl, h2⟩
    · exact .inl (UInt8.lt_trans h1 h2)
    · exact .inl h1
    · exact .inl h2
    · exact .inr ⟨rfl, less_trans h1 h2⟩
theorem less_tri : ∀ (x y : List UInt8), Op.bytesLess x y = true ∨ x = y ∨ Op.bytesLess y x = true
  | [], [] => .inr (.inl rfl)
  | [], _ :: _ => .inl rfl
  | _ :: _, [] => .inr (.inr rfl)
  | a :: x, b :: y => by
    simp only [Op.bytesLess, Bool.or_eq_true, Bool.and_eq_true, decide_eq_true_eq, beq_iff_eq]
    rcases Nat.lt_trichotomy a.toNat b.toNat with h | h | h
    · exact .inl (.inl (UInt8.lt_iff_toNat_lt.mpr h))
    · have e : a = b := UInt8.toNat_inj.mp h
      subst e
      rcases less_tri x y with h | h | h
      · exact .inl (.inr ⟨rfl, h⟩)
      · exact .inr (.inl (by rw [h]))
      · exact .inr (.inr (.inr ⟨rfl, h⟩))
    · exact .inr (.inr (.inl (UInt8.lt_iff_toNat_lt.mpr h)))
theorem text_eqR {s t : ByteArray} (h : s.data.toList = t.data.toList) : s = t := ByteArray.ext (Array.ext' h)
theorem eqS_iff {a b : ByteArray} : eqS a b = true ↔ a = b := by
  unfold eqS
  rw [beq_iff_eq]
  exact ⟨text_eqR, fun h => by rw [h]⟩
theorem ltS_irr (a : ByteArray) : ltS a a = false := less_irr _
theorem ltS_trans {a b c : ByteArray} (h1 : ltS a b = true) (h2 : ltS b c = true) : ltS a c = true := less_trans h1 h2
theorem ltS_tri (a b : ByteArray) : ltS a b = true ∨ a = b ∨ ltS b a = true := (less_tri _ _).imp id fun h => h.imp text_eqR id
theorem le_not {a b : ByteArray} : (Op.bytesLess a.data.toList b.data.toList || a.data.toList == b.data.toList) = !ltS b a := by
  have e : (a.data.toList == b.data.toList) = eqS a b := rfl
  have e2 : Op.bytesLess a.data.toList b.data.toList = ltS a b := rfl
  rw [e, e2]
  rcases ltS_tri a b with h | h | h
  · have h2 : ltS b a = false := by
      cases h3 : ltS b a with
      | false => rfl
      | true => have := ltS_trans h h3; rw [ltS_irr] at this; cases this
    rw [h, h2]; rfl
  · subst h
    rw [ltS_irr, eqS_iff.mpr rfl]; rfl
  · have h2 : ltS a b = false := by
      cases h3 : ltS a b with
      | false => rfl
      | true => have := ltS_trans h h3; rw [ltS_irr] at this; cases this
    have h3 : eqS a b = false := by
      cases h4 : eqS a b with
      | false => rfl
      | true => rw [eqS_iff.mp h4, ltS_irr] at h; cases h
    rw [h, h2, h3]; rfl
end Go.Proofs.Ytdhjfbnlkecggaa.Mini
end
