/- Parts of the proof: Lists. -/
import Derived.Laws.OwnMore
import Derived.Laws.AppendOwn
import Derived.OwnWalk
import Derived.Deep.Draws
import Derived.Deep.AppendLies
import Derived.Laws.MakeOwn
import Derived.Laws.Concat
import Derived.Maps.AppendAt
import Derived.RegionTactic
import Derived.Test.YtjleempapphlhabGeWorld
section
namespace Go.Proofs.Ytjleempapphlhab
open Go.RowKit
set_option linter.unusedVariables false
/-- A slice of n elements of m cells each, as a call may read it: its cells lie in a block below B. -/
def Sees (w : World) (B m : Nat) (A : Option Addr) (n : Nat) (xs : List Value) : Prop :=
  xs.length = n * m ∧ (0 < n → ∃ b off, A = some ⟨b, off, none⟩ ∧ b < B ∧ ∀ j u, xs[j]? = some u → w.cell? ⟨b, off + j, none⟩ = some u)
section
variable {w w' : World} {B B' m n : Nat} {A : Option Addr} {xs : List Value}
theorem Sees.keep (h : Sees w B m A n xs) (hk : ∀ p : Addr, p.block < B → w'.cell? p = w.cell? p) : Sees w' B m A n xs :=
  ⟨h.1, fun hn => by
    obtain ⟨b, off, e, hb, hc⟩ := h.2 hn
    exact ⟨b, off, e, hb, fun j u hu => (hk ⟨b, off + j, none⟩ hb).trans (hc j u hu)⟩⟩
theorem Sees.more (h : Sees w B m A n xs) (hB : B ≤ B') : Sees w B' m A n xs :=
  ⟨h.1, fun hn => by
    obtain ⟨b, off, e, hb, hc⟩ := h.2 hn
    exact ⟨b, off, e, by omega, hc⟩⟩
theorem Sees.below (h : Sees w B m A n xs) (hb : Below B' w w') (hB : B ≤ B') : Sees w' B m A n xs := h.keep fun _ hp => hb.cell (Nat.lt_of_lt_of_le hp hB)
theorem Sees.drew (h : Sees w B m A n xs) : Sees w.drew B m A n xs := h
theorem Sees.alloc (h : Sees w B m A n xs) (hB : B ≤ w.heap.size) (o : Obj) : Sees (w.alloc o) B m A n xs := h.below ((Below.refl _ _).alloc hB o) (Nat.le_refl _)
theorem Sees.set (h : Sees w B m A n xs) {p : Addr} (hp : B ≤ p.block) (u : Value) : Sees (w.setCell p u) B m A n xs := h.below ((Below.refl _ _).setCell hp u) (Nat.le_refl _)
theorem Sees.grown (h : Sees w B m A n xs) {row : Option Nat} (hg : w.grownBy w' row) (hB : B ≤ w.heap.size) (hr : ∀ g, row = some g → B ≤ g) : Sees w' B m A n xs :=
  h.keep fun p hp => World.cell?_of_block (hg.block p.block (by omega) (fun e => by have := hr _ e.symm; omega))
/-- The rest of a slice. -/
theorem Sees.cut {b off : Nat} (h : Sees w B m (some ⟨b, off, none⟩) n xs) {k : Nat} (hk : k ≤ n) : Sees w B m (some ⟨b, off + k * m, none⟩) (n - k) (xs.drop (k * m)) := by
  refine ⟨by rw [List.length_drop, h.1, Nat.sub_mul], fun hn => ?_⟩
  obtain ⟨b', off', e, hb, hc⟩ := h.2 (by omega)
  injection e with e
  injection e with e1 e2 _
  subst e1; subst e2
  refine ⟨b, off + k * m, rfl, hb, fun j u hu => ?_⟩
  rw [List.getElem?_drop] at hu
  rw [Nat.add_assoc]
  exact hc _ u hu
theorem Sees.rest (h : Sees w B m A n xs) {k : Nat} (hk : k ≤ n) : Sees w B m (A.map fun x => x.add (k * m)) (n - k) (xs.drop (k * m)) := by
  by_cases hn : 0 < n
  · obtain ⟨b, off, e, _⟩ := h.2 hn
    subst e
    have e2 : (⟨b, off, none⟩ : Addr).add (k * m) = ⟨b, off + k * m, none⟩ := by
      generalize k * m = x
      cases x <;> simp [Addr.add]
    show Sees w B m (some ((⟨b, off, none⟩ : Addr).add (k * m))) (n - k) (xs.drop (k * m))
    rw [e2]
    exact h.cut hk
  · exact ⟨by rw [List.length_drop, h.1, Nat.sub_mul], fun h2 => absurd h2 (by omega)⟩
theorem Sees.nothing {A' : Option Addr} (h : Sees w B m A 0 xs) : Sees w B m A' 0 [] := ⟨by simp, fun h => absurd h (by omega)⟩
/-- One cell of an element. -/
theorem Sees.at (h : Sees w B m A n xs) {k j : Nat} (hk : k < n) (hj : j < m) : ∃ b off, A = some ⟨b, off, none⟩ ∧ b < B ∧ (∀ j u, xs[j]? = some u → w.cell? ⟨b, off + j, none⟩ = some u) := by
  obtain ⟨b, off, e, hb, hc⟩ := h.2 (by omega)
  exact ⟨b, off, e, hb, hc⟩
end
def flat {α : Type} (C : α → List Value) (hs : List α) : List Value := hs.flatMap C
section
variable {α : Type} {C : α → List Value} {m : Nat}
end
section
variable {w w1 w2 : World} {row : Option Nat}
end
section
variable {P : Program} {w : World}
end
end Go.Proofs.Ytjleempapphlhab
end
