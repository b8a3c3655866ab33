/- The contracts of the functions of chapter 1: lines and numbers. -/
import Derived.Test.YtdofjbolhgoidaaTexts
import Derived.Test.YtdofjbolhgoidaaLine
import Derived.Test.YtdofjbolhgoidaaConv
import Derived.OwnWalk
import Derived.Lib.SlBytesConst
import Derived.Outline
namespace Go.Proofs.Ytdofjbolhgoidaa
open Go.RowKit
set_option linter.unusedVariables false

theorem dg_lit (d : Nat) (h : d < 10) : ByteArray.extract ⟨#[48, 49, 50, 51, 52, 53, 54, 55, 56, 57]⟩ d (d + 1) = ⟨#[dg d]⟩ := by
  match d, h with
  | 0, _ => rfl
  | 1, _ => rfl
  | 2, _ => rfl
  | 3, _ => rfl
  | 4, _ => rfl
  | 5, _ => rfl
  | 6, _ => rfl
  | 7, _ => rfl
  | 8, _ => rfl
  | 9, _ => rfl


/-- The text of a number, as bytes. -/
def textS (n : Int) : ByteArray := ⟨(textN n).toArray⟩
theorem textS_yes {n : Int} (h : 0 ≤ n) (h1 : n ≤ 1000000) : textS n = ⟨(numT n.toNat).toArray⟩ := by
  unfold textS textN; rw [if_pos ⟨h, h1⟩]
theorem textS_no {n : Int} (h : n < 0 ∨ 1000000 < n) : textS n = ByteArray.empty := by
  unfold textS textN; rw [if_neg (by omega)]; rfl
theorem bk_nd (c : UInt8) (w : World) (h : isDi c = false) :
    Calls Try.prog 47 #[.int .u8 (c.toNat : Int)] w fun e w' => (∃ k : Int, (k != 3) = true ∧ e = .returned (.int .i64 k)) ∧ w = w' := by
  by_cases hl : isLo c = true
  · exact (bk_4 c w hl).mono fun _ _ ⟨he, hw⟩ => ⟨⟨4, rfl, he⟩, hw⟩
  · exact (bk_0 c w (by simpa using hl) h).mono fun _ _ ⟨⟨k, _, h3, he⟩, hw⟩ => ⟨⟨k, h3, he⟩, hw⟩
theorem val_step (s : ByteArray) (k : Nat) (h : k < s.size) : val (s.data.toList.take (k + 1)) = val (s.data.toList.take k) * 10 + ((s[k].toNat : Int) - 48) := by
  rw [take_snoc s k h, val_snoc]; omega

theorem take8 (s : ByteArray) (k : Nat) (hk : k ≤ s.size) (h8 : k ≤ 8) (h : s.size ≤ k ∨ k = 8) : s.data.toList.take k = s.data.toList.take 8 := by
  rcases h with h | h
  · rw [List.take_of_length_le (by simp; omega), List.take_of_length_le (by simp; omega)]
  · rw [h]
end Go.Proofs.Ytdofjbolhgoidaa
