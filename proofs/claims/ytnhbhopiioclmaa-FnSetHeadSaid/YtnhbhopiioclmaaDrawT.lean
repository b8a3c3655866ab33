/- Tables of drawn things, and the worlds behind the calls that draw. -/
import Derived.Test.YtnhbhopiioclmaaDraw
import Derived.Deep.RegionWith
import Derived.Deep.RegionHeld3
namespace Go.Proofs.Ytnhbhopiioclmaa
open Go.RowKit
set_option linter.unusedVariables false

/-- Every cell is a text of at most M bytes. -/
def strsB (M : Nat) (C : Array Value) : Bool := C.toList.all fun v => match v with
  | .string s => decide (s.size ≤ M)
  | _ => false
theorem strs_at {M : Nat} {C : Array Value} (h : strsB M C = true) (i : Nat) (hi : i < C.size) : ∃ s : ByteArray, s.size ≤ M ∧ C[i]? = some (.string s) := by
  unfold strsB at h
  rw [List.all_eq_true] at h
  have := h C[i] (by simp)
  rw [Array.getElem?_eq_getElem hi]
  revert this
  cases C[i] with
  | string s => intro this; exact ⟨s, of_decide_eq_true this, rfl⟩
  | _ => intro this; cases this
theorem cell_table {w w' : World} {g : Nat} {C : Array Value} {t : TypeId} (hg : (w.alloc (.cells C t)).grownBy w' (some g)) (hlt : g < w.heap.size) (i : Nat) : w'.cell? ⟨w.heap.size, i, none⟩ = C[i]? := by
  rw [World.cell?_of_block (w := w.alloc (.cells C t)) (hg.block w.heap.size (by simp) (by intro e; injection e with e; omega))]
  exact World.cell?_alloc_mark w C t _ i
theorem pick_str {w w' : World} {g : Nat} {C : Array Value} {t : TypeId} (hg : (w.alloc (.cells C t)).grownBy w' (some g)) (hlt : g < w.heap.size) (M : Nat) (h : strsB M C = true) (x : Int) (h0 : 0 ≤ x) (h1 : x < C.size) :
    ∃ s : ByteArray, s.size ≤ M ∧ w'.cell? ⟨w.heap.size, x.toNat, none⟩ = some (.string s) := by
  obtain ⟨s, hs, hc⟩ := strs_at h x.toNat (by omega)
  exact ⟨s, hs, by rw [cell_table hg hlt, hc]⟩
/-- New blocks, and writes to the reader's block. -/
theorem grown_step {w w1 w2 : World} {g : Nat} (h1 : w.grownBy w1 (some g)) (h2 : w1.grownBy w2 (some g)) : w.grownBy w2 (some g) :=
  ⟨h2.os.trans h1.os, h2.tape.trans h1.tape, h2.output.trans h1.output, Nat.le_trans h1.size h2.size, fun k hk hne => (h2.block k (Nat.lt_of_lt_of_le hk h1.size) hne).trans (h1.block k hk hne)⟩
theorem grown_alloc {w w1 : World} {g : Nat} (h1 : w.grownBy w1 (some g)) (o : Obj) : w.grownBy (w1.alloc o) (some g) :=
  ⟨h1.os, h1.tape, h1.output, Nat.le_trans h1.size (by simp), fun k hk hne => (Below.heap_alloc w1 o k (Nat.lt_of_lt_of_le hk h1.size)).trans (h1.block k hk hne)⟩
theorem grown_refl (w : World) (g : Nat) : w.grownBy w (some g) := ⟨rfl, rfl, rfl, Nat.le_refl _, fun _ _ _ => rfl⟩

theorem grown_set {a w : World} {g : Nat} (h : a.grownBy w (some g)) {p : Addr} (hp : a.heap.size ≤ p.block) (u : Value) : a.grownBy (w.setCell p u) (some g) :=
  ⟨h.os, h.tape, h.output, by simpa [World.setCell] using h.size, fun i hi hne => (Below.heap_setCell w p u i (by rintro rfl; omega)).trans (h.block i hi hne)⟩
theorem grown_below {a w w1 : World} {g : Nat} (h : a.grownBy w (some g)) (hb : Below w.heap.size w w1) : a.grownBy w1 (some g) :=
  ⟨hb.os.trans h.os, hb.tape.trans h.tape, hb.output.trans h.output, Nat.le_trans h.size hb.size, fun i hi hne => (hb.block i (Nat.lt_of_lt_of_le hi h.size)).trans (h.block i hi hne)⟩
theorem Rd.setCell {w : World} {g q : Nat} (h : Rd w g q) {p : Addr} (hp : g < p.block) (u : Value) : Rd (w.setCell p u) g q :=
  h.below ((Below.refl _ _).setCell hp u)
/-- What a call that writes to the reader's block alone leaves: the cells of all other blocks. -/
theorem gcell {w w' : World} {g : Nat} (h : w.grownBy w' (some g)) : (∀ b o, b < w.heap.size → b ≠ g → w'.cell? ⟨b, o, none⟩ = w.cell? ⟨b, o, none⟩) ∧ (∀ b o, b < w.heap.size → b ≠ g → w'.frozen? ⟨b, o, none⟩ = w.frozen? ⟨b, o, none⟩) := by
  refine ⟨fun b o hb hne => World.cell?_of_block (h.block b hb (by intro e; injection e with e; exact hne e)), fun b o hb hne => ?_⟩
  unfold World.frozen?
  rw [h.block b hb (by intro e; injection e with e; exact hne e)]
/-- A row of the call's own behind a call that writes to the reader alone. -/
theorem grown_own {a w w1 : World} {g : Nat} {v : Value} (h : a.grownBy w (some g)) (hg : w.grownBy w1 v.ownBlock) (hv : ∀ b, v.ownBlock = some b → a.heap.size ≤ b) : a.grownBy w1 (some g) :=
  ⟨hg.os.trans h.os, hg.tape.trans h.tape, hg.output.trans h.output, Nat.le_trans h.size hg.size, fun k hk hne => (hg.block k (Nat.lt_of_lt_of_le hk h.size) (fun e => by have := hv k e.symm; omega)).trans (h.block k hk hne)⟩
theorem Rd.row {w w1 : World} {g q : Nat} {row : Option Nat} (h : Rd w g q) (hg : w.grownBy w1 row) (hv : ∀ b, row = some b → g < b) : Rd w1 g q :=
  h.below ⟨hg.os, hg.tape, hg.output, hg.size, fun k hk => hg.block k (by have := h.lt; omega) (fun e => by have := hv k e.symm; omega)⟩
theorem gda {w w1 : World} {g : Nat} {o : Obj} (h : (w.alloc o).drew.grownBy w1 (some g)) : w.grownBy w1 (some g) := grown_step (grown_alloc (grown_refl w g) o) ⟨h.os, h.tape, h.output, h.size, h.block⟩
theorem gda' {w w1 : World} {g : Nat} {o : Obj} (h : (w.alloc o).grownBy w1 (some g)) : w.grownBy w1 (some g) := grown_step (grown_alloc (grown_refl w g) o) h
theorem gd {w w1 : World} {g : Nat} (h : w.drew.grownBy w1 (some g)) : w.grownBy w1 (some g) := ⟨h.os, h.tape, h.output, h.size, h.block⟩
/-- A table of texts, one of which is picked. -/
theorem tab_at (C : Array Value) (M : Nat) (h : strsB M C = true) (y : Int) (h0 : 0 ≤ y) (h1 : y < C.size) (t : TypeId) :
    ∃ s : ByteArray, s.size ≤ M ∧ (∀ W : World, (W.alloc (.cells C t)).cell? ⟨W.heap.size, y.toNat, none⟩ = some (.string s)) ∧ C[y.toNat]? = some (.string s) := by
  obtain ⟨s, hs, hc⟩ := strs_at h y.toNat (by omega)
  exact ⟨s, hs, fun W => by rw [World.cell?_alloc_mark]; exact hc, hc⟩
theorem tabd {w w1 : World} {g i : Nat} {C : Array Value} {t : TypeId} {v : Value} (hc : C[i]? = some v) (hlt : g < w.heap.size) (hg : (w.alloc (.cells C t)).drew.grownBy w1 (some g)) : w1.cell? ⟨w.heap.size, i, none⟩ = some v := by
  have h2 : (w.alloc (.cells C t)).grownBy w1 (some g) := ⟨hg.os, hg.tape, hg.output, hg.size, hg.block⟩
  rw [cell_table h2 hlt i]; exact hc
theorem tabn {w w1 : World} {g i : Nat} {C : Array Value} {t : TypeId} {v : Value} (hc : C[i]? = some v) (hlt : g < w.heap.size) (hg : (w.alloc (.cells C t)).grownBy w1 (some g)) : w1.cell? ⟨w.heap.size, i, none⟩ = some v := by
  rw [cell_table hg hlt i]; exact hc
theorem tabk {w w1 : World} {g b i : Nat} {v : Value} (hc : w.cell? ⟨b, i, none⟩ = some v) (hne : b ≠ g) (hg : w.grownBy w1 (some g)) : w1.cell? ⟨b, i, none⟩ = some v := by
  rw [World.cell?_of_block (hg.block b (block_lt_of_cell hc) (by intro e; injection e with e; exact hne e))]; exact hc

/-- Every cell is a number in lo..hi. -/
def intsB (lo hi : Int) (C : Array Value) : Bool := C.toList.all fun v => match v with
  | .int .i64 n => decide (lo ≤ n) && decide (n ≤ hi)
  | _ => false
theorem ints_at {lo hi : Int} {C : Array Value} (h : intsB lo hi C = true) (i : Nat) (hi' : i < C.size) : ∃ n : Int, lo ≤ n ∧ n ≤ hi ∧ C[i]? = some (.int .i64 n) := by
  unfold intsB at h
  rw [List.all_eq_true] at h
  have := h C[i] (by simp)
  rw [Array.getElem?_eq_getElem hi']
  revert this
  cases C[i] with
  | int k n =>
    cases k with
    | i64 => intro this; simp only [Bool.and_eq_true] at this; exact ⟨n, of_decide_eq_true this.1, of_decide_eq_true this.2, rfl⟩
    | _ => intro this; cases this
  | _ => intro this; cases this
/-- The world behind a call that writes to the reader alone, which lies in the first new block. -/
theorem below_g {w w1 w2 : World} (h : Below w.heap.size w w1) (hg : w1.grownBy w2 (some w.heap.size)) : Below w.heap.size w w2 :=
  h.grown hg h.size (by intro k hk; injection hk with hk; omega)
theorem below_a {w w1 : World} (h : Below w.heap.size w w1) (o : Obj) : Below w.heap.size w (w1.alloc o) := h.alloc h.size o
/-- Two new blocks, and writes to the reader's block: the cells of both. -/
theorem two_tables {w w' : World} {g : Nat} {C D : Array Value} {t u : TypeId} (hg : ((w.alloc (.cells C t)).alloc (.cells D u)).grownBy w' (some g)) (hlt : g < w.heap.size) (i : Nat) :
    w'.cell? ⟨w.heap.size, i, none⟩ = C[i]? ∧ w'.cell? ⟨w.heap.size + 1, i, none⟩ = D[i]? := by
  constructor
  · rw [World.cell?_of_block (w := (w.alloc (.cells C t)).alloc (.cells D u)) (hg.block w.heap.size (by simp; omega) (by intro e; injection e with e; omega))]
    rw [((Below.refl (w.heap.size + 1) (w.alloc (.cells C t))).alloc (by simp) (.cells D u)).cell (p := ⟨w.heap.size, i, none⟩) (Nat.lt_succ_self _)]
    exact World.cell?_alloc_mark w C t _ i
  · have := cell_table (w := w.alloc (.cells C t)) hg (by simp; omega) i
    rw [World.size_alloc] at this
    exact this

end Go.Proofs.Ytnhbhopiioclmaa
