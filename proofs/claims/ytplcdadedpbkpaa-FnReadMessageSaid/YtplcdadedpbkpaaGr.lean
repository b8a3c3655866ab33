/- Worlds in which some blocks may have changed: a set of them. -/
import Derived.Test.YtplcdadedpbkpaaGa
namespace Go.Proofs.Ytplcdadedpbkpaa
open Go.RowKit
set_option linter.unusedVariables false

/-- All blocks that were stay as they were, but for those of R. -/
structure Gr (w w' : World) (R : Nat → Prop) : Prop where
  os : w'.os = w.os
  tape : w'.tape = w.tape
  output : w'.output = w.output
  size : w.heap.size ≤ w'.heap.size
  block : ∀ k, k < w.heap.size → ¬ R k → w'.heap[k]? = w.heap[k]?
/-- The block of a row's value. -/
def Blk (v : Value) (k : Nat) : Prop := v.ownBlock = some k
section
variable {w w1 w2 w0 : World} {R R' : Nat → Prop}
theorem Gr.refl (w : World) (R : Nat → Prop) : Gr w w R := ⟨rfl, rfl, rfl, Nat.le_refl _, fun _ _ _ => rfl⟩
theorem Gr.of_grown {row : Option Nat} (h : w.grownBy w1 row) : Gr w w1 (fun k => row = some k) :=
  ⟨h.os, h.tape, h.output, h.size, fun k hk hn => h.block k hk (fun e => hn e.symm)⟩
theorem Gr.of_below (h : Below w.heap.size w w1) (R : Nat → Prop) : Gr w w1 R := ⟨h.os, h.tape, h.output, h.size, fun k hk _ => h.block k hk⟩
theorem Gr.mono (h : Gr w w1 R) (hr : ∀ k, k < w.heap.size → R k → R' k) : Gr w w1 R' := ⟨h.os, h.tape, h.output, h.size, fun k hk hn => h.block k hk (fun e => hn (hr k hk e))⟩
theorem Gr.trans (h : Gr w w1 R) (h2 : Gr w1 w2 R) : Gr w w2 R :=
  ⟨h2.os.trans h.os, h2.tape.trans h.tape, h2.output.trans h.output, Nat.le_trans h.size h2.size, fun k hk hn => (h2.block k (Nat.lt_of_lt_of_le hk h.size) hn).trans (h.block k hk hn)⟩
theorem Gr.then_below (h : Gr w w1 R) (hb : Below w1.heap.size w1 w2) : Gr w w2 R := h.trans (Gr.of_below hb R)
theorem Gr.alloc (h : Gr w w1 R) (o : Obj) : Gr w (w1.alloc o) R := h.then_below (bnew w1 o)
theorem Gr.drew (h : Gr w w1 R) : Gr w w1.drew R := ⟨h.os, h.tape, h.output, h.size, h.block⟩
theorem Gr.drewN (h : Gr w w1 R) (n : Nat) : Gr w (w1.drewN n) R := ⟨h.os, h.tape, h.output, h.size, h.block⟩
theorem Gr.below {B : Nat} (hb : Below B w0 w) (h : Gr w w1 R) (hB : B ≤ w.heap.size) (hr : ∀ k, k < w.heap.size → R k → B ≤ k) : Below B w0 w1 :=
  hb.trans ⟨h.os, h.tape, h.output, h.size, fun k hk => h.block k (by omega) (fun e => by have := hr k (by omega) e; omega)⟩
theorem Gr.none (h : Gr w w1 R) (hr : ∀ k, k < w.heap.size → ¬ R k) : Below w.heap.size w w1 :=
  ⟨h.os, h.tape, h.output, h.size, fun k hk => h.block k hk (hr k hk)⟩
theorem Gr.heap (h : Gr w w1 R) {g : Nat} {o : Obj} (hg : w.heap[g]? = some o) (hr : ¬ R g) : w1.heap[g]? = some o := by
  rw [h.block g (Array.getElem?_eq_some_iff.mp hg).1 hr]; exact hg
theorem Gr.cell (h : Gr w w1 R) {b o : Nat} (hb : b < w.heap.size) (hr : ¬ R b) : w1.cell? ⟨b, o, .none⟩ = w.cell? ⟨b, o, .none⟩ := World.cell?_of_block (h.block b hb hr)
/-- A row that is not among what may have changed. -/
theorem own_gr {base e size n : Nat} {v : Value} {xs : List Value} (ho : w.ownsRow base e size v n xs) (h : Gr w w1 R) (hd : ∀ k, v.ownBlock = some k → ¬ R k) : w1.ownsRow base e size v n xs := by
  refine ⟨ho.1, ?_⟩
  rcases ho.2 with hn | ⟨g, cap, cur, rfl, hb, hgg, rest⟩
  · exact .inl hn
  · exact .inr ⟨g, cap, cur, rfl, hb, h.heap hgg (hd g rfl), rest⟩
theorem Sees.gr {B m n : Nat} {A : Option Addr} {xs : List Value} (hs : Sees w B m A n xs) (h : Gr w w1 R) (hB : B ≤ w.heap.size) (hr : ∀ k, k < B → ¬ R k) : Sees w1 B m A n xs :=
  hs.keep fun p hp => World.cell?_of_block (h.block p.block (by omega) (hr p.block hp))
theorem Gr.setCell (h : Gr w w1 R) {p : Addr} (hp : w.heap.size ≤ p.block ∨ R p.block) (u : Value) : Gr w (w1.setCell p u) R :=
  ⟨h.os, h.tape, h.output, by have := h.size; simpa using this, fun k hk hn => by
    rw [Below.heap_setCell w1 p u k (fun e => by subst e; rcases hp with h1 | h1; omega; exact hn h1)]
    exact h.block k hk hn⟩
theorem own_far {base e size n : Nat} {v : Value} {xs : List Value} (ho : w.ownsRow base e size v n xs) {p : Addr} (hp : ∀ k, v.ownBlock = some k → k ≠ p.block) (u : Value) : (w.setCell p u).ownsRow base e size v n xs :=
  own_gr ho (R := fun k => k = p.block) (Gr.setCell (R := fun k => k = p.block) (Gr.refl w _) (p := p) (.inr rfl) u) (fun k hk e => hp k hk e)
theorem Holds.gr {g : Nat} {t : TypeId} {cs : Array Value} (hh : Holds w g t cs) (h : Gr w w1 R) (hr : ¬ R g) : Holds w1 g t cs := h.heap hh hr
theorem Holds.new' {g : Nat} (w : World) (t : TypeId) (cs : Array Value) (hg : g = w.heap.size) : Holds (w.alloc (.cells cs t)) g t cs := by subst hg; exact Holds.new w t cs
theorem Holds.put {g : Nat} {t : TypeId} {cs cs' : Array Value} (hh : Holds w g t cs) {i : Nat} {u : Value} (h : cs.setIfInBounds i u = cs') : Holds (w.setCell ⟨g, i, .none⟩ u) g t cs' := by rw [← h]; exact hh.set i u
end
theorem own_rng {w : World} {base e size n lo : Nat} {v : Value} {xs : List Value} (h : w.ownsRow base e size v n xs) (hl : lo ≤ base) : ∀ k, v.ownBlock = some k → lo ≤ k ∧ k < w.heap.size :=
  fun k hk => ⟨Nat.le_trans hl (h.lt k hk).1, (h.lt k hk).2⟩
section
variable {w : World} {g : Nat} {t : TypeId} {a0 a1 a2 a3 a4 a5 : Value}
/-- Six cells, one by one. -/
theorem six_cells (h : Holds w g t #[a0, a1, a2, a3, a4, a5]) : w.cell? ⟨g, 0, none⟩ = some a0 ∧ w.cell? ⟨g, 1, none⟩ = some a1 ∧ w.cell? ⟨g, 2, none⟩ = some a2 ∧ w.cell? ⟨g, 3, none⟩ = some a3 ∧ w.cell? ⟨g, 4, none⟩ = some a4 ∧ w.cell? ⟨g, 5, none⟩ = some a5 :=
  ⟨h.cell 0 _ rfl, h.cell 1 _ rfl, h.cell 2 _ rfl, h.cell 3 _ rfl, h.cell 4 _ rfl, h.cell 5 _ rfl⟩
theorem six_free (h : Holds w g t #[a0, a1, a2, a3, a4, a5]) : w.frozen? ⟨g, 0, none⟩ = false ∧ w.frozen? ⟨g, 1, none⟩ = false ∧ w.frozen? ⟨g, 2, none⟩ = false ∧ w.frozen? ⟨g, 3, none⟩ = false ∧ w.frozen? ⟨g, 4, none⟩ = false ∧ w.frozen? ⟨g, 5, none⟩ = false :=
  ⟨h.free 0, h.free 1, h.free 2, h.free 3, h.free 4, h.free 5⟩
/-- Six cells behind the stores into all of them. -/
theorem six_put (h : Holds w g t #[a0, a1, a2, a3, a4, a5]) (v0 v1 v2 v3 v4 v5 : Value) : (w.setCell ⟨g, 0, none⟩ v0).cell? ⟨g, 0, none⟩ = some v0 ∧ ((w.setCell ⟨g, 0, none⟩ v0).setCell ⟨g, 1, none⟩ v1).cell? ⟨g, 1, none⟩ = some v1 ∧ (((w.setCell ⟨g, 0, none⟩ v0).setCell ⟨g, 1, none⟩ v1).setCell ⟨g, 2, none⟩ v2).cell? ⟨g, 2, none⟩ = some v2 ∧ ((((w.setCell ⟨g, 0, none⟩ v0).setCell ⟨g, 1, none⟩ v1).setCell ⟨g, 2, none⟩ v2).setCell ⟨g, 3, none⟩ v3).cell? ⟨g, 3, none⟩ = some v3 ∧ (((((w.setCell ⟨g, 0, none⟩ v0).setCell ⟨g, 1, none⟩ v1).setCell ⟨g, 2, none⟩ v2).setCell ⟨g, 3, none⟩ v3).setCell ⟨g, 4, none⟩ v4).cell? ⟨g, 4, none⟩ = some v4 ∧ ((((((w.setCell ⟨g, 0, none⟩ v0).setCell ⟨g, 1, none⟩ v1).setCell ⟨g, 2, none⟩ v2).setCell ⟨g, 3, none⟩ v3).setCell ⟨g, 4, none⟩ v4).setCell ⟨g, 5, none⟩ v5).cell? ⟨g, 5, none⟩ = some v5 := by
  have h0 : Holds _ g t #[v0, a1, a2, a3, a4, a5] := h.set 0 v0
  have h1 : Holds _ g t #[v0, v1, a2, a3, a4, a5] := h0.set 1 v1
  have h2 : Holds _ g t #[v0, v1, v2, a3, a4, a5] := h1.set 2 v2
  have h3 : Holds _ g t #[v0, v1, v2, v3, a4, a5] := h2.set 3 v3
  have h4 : Holds _ g t #[v0, v1, v2, v3, v4, a5] := h3.set 4 v4
  have h5 : Holds _ g t #[v0, v1, v2, v3, v4, v5] := h4.set 5 v5
  exact ⟨h0.cell 0 _ rfl, h1.cell 1 _ rfl, h2.cell 2 _ rfl, h3.cell 3 _ rfl, h4.cell 4 _ rfl, h5.cell 5 _ rfl⟩
end
/-- A new row: its block, its cells; all else as it was. -/
def NewRow (w : World) (E m n : Nat) (xs : List Value) (e : Ending) (w' : World) : Prop :=
  ∃ g : Nat, e = .returned (.slice (some ⟨g, 0, none⟩) n n) ∧ w'.ownsRow w.heap.size E m (.slice (some ⟨g, 0, none⟩) n n) n xs ∧ (w.heap.size ≤ g ∧ g < w'.heap.size) ∧ Below w.heap.size w w'
theorem NewRow.of {w : World} {E m n : Nat} {xs : List Value} {e : Ending} {w' : World} (h : e = .returned (.slice (some ⟨w.heap.size, 0, none⟩) n n) ∧ w'.ownsRow w.heap.size E m (.slice (some ⟨w.heap.size, 0, none⟩) n n) n xs ∧ Below w.heap.size w w') : NewRow w E m n xs e w' :=
  ⟨_, h.1, h.2.1, h.2.1.lt _ rfl, h.2.2⟩
end Go.Proofs.Ytplcdadedpbkpaa
