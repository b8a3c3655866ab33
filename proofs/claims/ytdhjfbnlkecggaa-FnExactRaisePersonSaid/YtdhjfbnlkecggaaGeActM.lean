/- Parts of the proof: ActM. -/
import Derived.Test.YtdhjfbnlkecggaaGeAct
section
namespace Go.Proofs.Ytdhjfbnlkecggaa.Mini
open Go Go.RowKit
set_option linter.unusedVariables false
set_option linter.unusedSimpArgs false
set_option maxRecDepth 20000
/-- The one with a word is at its place. -/
theorem at_one {l : List Per} {w : ByteArray} (h : 0 ≤ atP l w) : rosB l = true ∧ (atP l w).toNat < l.length ∧ l[(atP l w).toNat]? = some (oneP l w) ∧ (oneP l w).w = w := by
  unfold atP at h
  split at h
  · rename_i hp
    obtain ⟨p, p1, p2, -⟩ := place_at hp.2
    have e : atP l w = (placeP w l : Int) := by unfold atP; rw [if_pos hp]
    unfold oneP
    rw [e, Int.toNat_natCast, List.getD_eq_getElem?_getD, p1]
    exact ⟨hp.1, hp.2, rfl, p2⟩
  · omega
theorem at_lt {l : List Per} {w : ByteArray} : atP l w < l.length := by
  unfold atP
  split
  · rename_i hp
    have := hp.2
    omega
  · omega
theorem one_in {l : List Per} {w : ByteArray} (h : 0 ≤ atP l w) : inB (oneP l w).r 0 2 = true ∧ oneP l w ∈ l := by
  obtain ⟨h1, h2, h3, -⟩ := at_one h
  have hm := List.mem_of_getElem? h3
  have := (ros_iff.mp h1).1 _ hm
  unfold perB at this
  rw [Bool.and_eq_true] at this
  exact ⟨this.2, hm⟩
theorem act_at {l : List Per} {a b : ByteArray} {d : Int} (h : actB l a d b = true) : 0 ≤ atP l a ∧ 0 ≤ atP l b ∧ 0 ≤ d ∧ d ≤ 3 := by
  unfold actB at h
  split at h
  · cases h
  · rename_i hn
    rw [not_or] at hn
    refine ⟨by omega, by omega, ?_⟩
    split at h
    · omega
    · split at h
      · omega
      · split at h
        · omega
        · split at h
          · omega
          · cases h
theorem mute_cases (l : List Per) (a b : ByteArray) (m : Bool) : ((muteP l a b m).2 = false ∧ ((muteP l a b m).1 = l ∨ (muteP l a b m).1 = [])) ∨ ((muteP l a b m).2 = true ∧ rosB l = true ∧ actB l a 1 b = true ∧ (m = true ∨ a = b) ∧ (muteP l a b m).1 = setM l b m) := by
  unfold muteP
  split
  · rename_i h
    split
    · rename_i h2
      exact .inr ⟨rfl, h, h2.1, h2.2, rfl⟩
    · exact .inl ⟨rfl, .inl rfl⟩
  · exact .inl ⟨rfl, .inr rfl⟩
theorem raise_cases (l : List Per) (a b : ByteArray) (r : Int) : ((raiseP l a b r).2 = false ∧ ((raiseP l a b r).1 = l ∨ (raiseP l a b r).1 = [])) ∨ ((raiseP l a b r).2 = true ∧ rosB l = true ∧ actB l a 3 b = true ∧ inB r 0 2 = true ∧ anyH (setR l b r) = true ∧ (raiseP l a b r).1 = setR l b r) := by
  unfold raiseP
  split
  · rename_i h
    split
    · rename_i h2
      split
      · rename_i h3
        exact .inr ⟨rfl, h, h2.1, h2.2, h3, rfl⟩
      · exact .inl ⟨rfl, .inl rfl⟩
    · exact .inl ⟨rfl, .inl rfl⟩
  · exact .inl ⟨rfl, .inr rfl⟩
end Go.Proofs.Ytdhjfbnlkecggaa.Mini
end
