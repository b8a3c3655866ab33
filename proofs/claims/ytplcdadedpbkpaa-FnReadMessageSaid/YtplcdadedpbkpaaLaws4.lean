/- The walks of the exact laws of chapter 4. -/
import Derived.Test.YtplcdadedpbkpaaIMsg
import Derived.Test.YtplcdadedpbkpaaTMessage
import Derived.Deep.RegionHeld3
namespace Go.Proofs.Ytplcdadedpbkpaa
open Go.RowKit
set_option linter.unusedVariables false
set_option maxRecDepth 20000

theorem msg_few {p : MsgM} (h : msgB p = true) : p.h.length ≤ 8 ∧ p.b.length ≤ 8 := ⟨headsB_len (msgB_parts h).2.1, (msgB_parts h).2.2.1⟩
theorem msgL_few (p : MsgM) : (msgL p).length ≤ 18 := by
  unfold msgL
  by_cases hv : msgB p = true
  · rw [if_pos hv]
    have := msg_few hv
    simp
    omega
  · rw [if_neg hv]; exact Nat.zero_le _
theorem rmM_few (ls : List ByteArray) : (rmM ls).h.length ≤ 8 ∧ (rmM ls).b.length ≤ 8 := by
  unfold rmM
  by_cases hv : rmB ls = true
  · rw [if_pos hv]
    unfold rmB saidB at hv
    simp only [Bool.and_eq_true] at hv
    exact msg_few hv.2.2
  · rw [if_neg hv]; exact ⟨Nat.zero_le _, Nat.zero_le _⟩
theorem ansR_few (p : MsgM) (cd : Int) : (ansR p cd).h.length ≤ 8 ∧ (ansR p cd).b.length ≤ 8 := by
  unfold ansR
  by_cases hv : ansOk p cd = true
  · rw [if_pos hv]
    unfold ansOk at hv
    simp only [Bool.and_eq_true] at hv
    have h1 := (msg_few hv.1.1).1
    have h2 := List.length_filter_le viaB p.h
    exact ⟨by show (p.h.filter viaB).length ≤ 8; omega, Nat.zero_le _⟩
  · rw [if_neg hv]; exact ⟨Nat.zero_le _, Nat.zero_le _⟩

end Go.Proofs.Ytplcdadedpbkpaa
