/- Parts of the proof: Draw. -/
import Derived.Test.YtjleempapphlhabChecked
import Derived.WalkKit
import Derived.WalkSpells
import Derived.LoopTactic
import Derived.Lib.Hide
import Derived.OwnWalk
import Derived.Deep.QuietTactic
import Derived.BigQuiet
import Derived.Outline
import Derived.Laws.BitsAllLaws
import Derived.Lib.SmallJoins
import Derived.Test.YtjleempapphlhabGePlain
section
namespace Go.Proofs.Ytjleempapphlhab
open Go.RowKit
set_option maxRecDepth 20000
set_option linter.unusedVariables false
/-- The bytes that a reader reads. -/
def Bytes (w : World) (ao : Option Addr) (len : Nat) (top : Nat) : Prop :=
  len = 0 ∨ ∃ b off, ao = some ⟨b, off, none⟩ ∧ b < top ∧ ∀ i, i < len → ∃ z : Int, 0 ≤ z ∧ z ≤ 255 ∧ w.cell? ⟨b, off + i, none⟩ = some (.int .u8 z)
/-- A reader of drawn inputs lies in block g; at most q numbers were drawn. -/
def Rd (w : World) (g q : Nat) : Prop :=
  ∃ (ao : Option Addr) (len cap p : Nat), w.heap[g]? = some (.cells #[.slice ao len cap, .int .i64 (p : Int)] 65 (0, 0)) ∧ p ≤ q ∧ len ≤ 2000 ∧ Bytes w ao len g
/-- The same; the bytes lie below top. -/
def RdT (top : Nat) (w : World) (g q : Nat) : Prop :=
  ∃ (ao : Option Addr) (len cap p : Nat), w.heap[g]? = some (.cells #[.slice ao len cap, .int .i64 (p : Int)] 65 (0, 0)) ∧ p ≤ q ∧ len ≤ 2000 ∧ Bytes w ao len top
theorem Rd.below {w w' : World} {g q : Nat} (h : Rd w g q) (hb : Below (g + 1) w w') : Rd w' g q := by
  obtain ⟨ao, len, cap, p, hg, hp, hlen, hy⟩ := h
  refine ⟨ao, len, cap, p, (hb.block g (by omega)).trans hg, hp, hlen, ?_⟩
  rcases hy with hy | ⟨b, off, h1, h2, h3⟩
  · exact .inl hy
  · refine .inr ⟨b, off, h1, h2, fun i hi => ?_⟩
    obtain ⟨z, z0, z1, hz⟩ := h3 i hi
    exact ⟨z, z0, z1, (hb.cell (p := ⟨b, off + i, none⟩) (by show b < g + 1; omega)).trans hz⟩
theorem Rd.lt {w : World} {g q : Nat} (h : Rd w g q) : g < w.heap.size := by
  obtain ⟨_, _, _, _, hg, _⟩ := h
  exact (Array.getElem?_eq_some_iff.mp hg).1
theorem Rd.alloc {w : World} {g q : Nat} (h : Rd w g q) (o : Obj) : Rd (w.alloc o) g q :=
  h.below ((Below.refl _ _).alloc h.lt _)
theorem Rd.drew {w : World} {g q : Nat} (h : Rd w g q) : Rd w.drew g q := h
theorem Rd.mono {w : World} {g q q' : Nat} (h : Rd w g q) (hq : q ≤ q') : Rd w g q' := by
  obtain ⟨ao, len, cap, p, hg, hp, r⟩ := h
  exact ⟨ao, len, cap, p, hg, by omega, r⟩
theorem Bytes.later {w w' : World} {ao : Option Addr} {len : Nat} (h : Bytes w ao len w.heap.size) (hb : Below w.heap.size w w') : Bytes w' ao len w'.heap.size := by
  rcases h with h | ⟨b, off, h1, h2, h3⟩
  · exact .inl h
  · refine .inr ⟨b, off, h1, Nat.lt_of_lt_of_le h2 hb.size, fun i hi => ?_⟩
    obtain ⟨z, z0, z1, hz⟩ := h3 i hi
    exact ⟨z, z0, z1, (hb.cell (p := ⟨b, off + i, none⟩) h2).trans hz⟩
theorem Bytes.alloc {w : World} {ao : Option Addr} {len : Nat} (h : Bytes w ao len w.heap.size) (o : Obj) : Bytes (w.alloc o) ao len (w.alloc o).heap.size :=
  h.later ((Below.refl _ _).alloc (Nat.le_refl _) _)
end Go.Proofs.Ytjleempapphlhab
end
