/- The contracts of the model's functions of chapter 4: answers to messages. -/
import Derived.Test.YtplcdadedpbkpaaMsgR
namespace Go.Proofs.Ytplcdadedpbkpaa
open Go.RowKit
set_option linter.unusedVariables false
set_option maxRecDepth 20000

/-- The names whose heads go into an answer. -/
def nmL : List ByteArray := [⟨#[118, 105, 97]⟩, ⟨#[102, 114, 111, 109]⟩, ⟨#[116, 111]⟩, ⟨#[99, 97, 108, 108]⟩, ⟨#[99, 115, 101, 113]⟩]
def isN (p : HeadM) (n : ByteArray) : Bool := p.x0.toList == n.toList
def viaB (p : HeadM) : Bool := nmL.any (isN p)
def ansM (p : MsgM) (cd : Int) : MsgM := ⟨⟨#[]⟩, ⟨#[]⟩, ⟨#[]⟩, cd, p.h.filter viaB, []⟩
def ansOk (p : MsgM) (cd : Int) : Bool := msgB p && !(p.x0.toList == []) && (decide (100 ≤ cd) && decide (cd ≤ 699))
def ansR (p : MsgM) (cd : Int) : MsgM := if ansOk p cd = true then ansM p cd else zeroM
/-- What has been taken of a head behind j names. -/
def tookL (p : HeadM) (j : Nat) : List HeadM := if (nmL.take j).any (isN p) = true then [p] else []
theorem took_zero (p : HeadM) : tookL p 0 = [] := rfl
theorem took_five (p : HeadM) : tookL p 5 = [p].filter viaB := by
  unfold tookL
  rw [show nmL.take 5 = nmL from rfl]
  change (if viaB p = true then [p] else []) = _
  by_cases h : viaB p = true
  · rw [List.filter_cons_of_pos h, if_pos h]; rfl
  · rw [List.filter_cons_of_neg h, if_neg h]; rfl
theorem took_no {p : HeadM} {j : Nat} {n : ByteArray} (hn : nmL[j]? = some n) (h : isN p n = false) : tookL p (j + 1) = tookL p j := by
  unfold tookL
  rw [take_more hn, List.any_append]
  simp [h]
theorem nm_apart : ∀ j, j < 5 → ∀ i, i < j → ∀ a b, nmL[j]? = some a → nmL[i]? = some b → a.toList ≠ b.toList := by
  intro j hj i hi a b ha hb
  have hh : ∀ j : Fin 5, ∀ i : Fin 5, i.val < j.val → ((nmL[j.val]?).map (·.data.toList)) ≠ ((nmL[i.val]?).map (·.data.toList)) := by decide
  have := hh ⟨j, hj⟩ ⟨i, by omega⟩ hi
  intro e
  apply this
  rw [ha, hb]
  rw [ByteArray.toList_eq, ByteArray.toList_eq] at e
  simp [e]
theorem took_yes {p : HeadM} {j : Nat} {n : ByteArray} (hj : j < 5) (hn : nmL[j]? = some n) (h : isN p n = true) : tookL p j = [] ∧ tookL p (j + 1) = [p] := by
  have h0 : (nmL.take j).any (isN p) = false := by
    rw [Bool.eq_false_iff]
    intro ha
    obtain ⟨b, hb, hb2⟩ := List.any_eq_true.mp ha
    obtain ⟨i, hi, he⟩ := List.getElem_of_mem hb
    rw [List.length_take] at hi
    rw [List.getElem_take] at he
    have hi5 : i < nmL.length := by omega
    refine nm_apart j hj i (by omega) n b hn (by rw [List.getElem?_eq_getElem hi5, he]) ?_
    unfold isN at h hb2
    rw [← eq_of_beq h, ← eq_of_beq hb2]
  unfold tookL
  refine ⟨by rw [if_neg (by rw [h0]; simp)], ?_⟩
  rw [take_more hn, List.any_append]
  simp [h]
theorem strs_names : flat strC nmL = [.string ⟨#[118, 105, 97]⟩, .string ⟨#[102, 114, 111, 109]⟩, .string ⟨#[116, 111]⟩, .string ⟨#[99, 97, 108, 108]⟩, .string ⟨#[99, 115, 101, 113]⟩] := rfl

theorem names_at (j : Nat) (hj : j < 5) : ∃ nm, nmL[j]? = some nm ∧ (#[.string ⟨#[118, 105, 97]⟩, .string ⟨#[102, 114, 111, 109]⟩, .string ⟨#[116, 111]⟩, .string ⟨#[99, 97, 108, 108]⟩, .string ⟨#[99, 115, 101, 113]⟩] : Array Value)[j]? = some (.string nm) := by
  rcases j with _ | _ | _ | _ | _ | j
  · exact ⟨_, rfl, rfl⟩
  · exact ⟨_, rfl, rfl⟩
  · exact ⟨_, rfl, rfl⟩
  · exact ⟨_, rfl, rfl⟩
  · exact ⟨_, rfl, rfl⟩
  · omega
end Go.Proofs.Ytplcdadedpbkpaa
