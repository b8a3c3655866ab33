/- Parts of the proof: Draw, Alive. -/
import Derived.Test.YtjleempapphlhabChecked
import Derived.WalkKit
import Derived.WalkSpells
import Derived.LoopTactic
import Derived.Lib.Hide
import Derived.OwnWalk
import Derived.Deep.QuietTactic
import Derived.BigQuiet
import Derived.Outline
import Derived.Laws.BitsAllLaws
import Derived.Lib.SmallJoins
import Derived.OpenShut
import Derived.Test.YtjleempapphlhabGdPlain
import Derived.Test.YtjleempapphlhabGdTexts
section
namespace Go.Proofs.Ytjleempapphlhab
open Go.RowKit
set_option maxRecDepth 20000
set_option linter.unusedVariables false
/-- The bytes that a reader reads. -/
def Bytes (w : World) (ao : Option Addr) (len : Nat) (top : Nat) : Prop :=
  len = 0 ∨ ∃ b off, ao = some ⟨b, off, none⟩ ∧ b < top ∧ ∀ i, i < len → ∃ z : Int, 0 ≤ z ∧ z ≤ 255 ∧ w.cell? ⟨b, off + i, none⟩ = some (.int .u8 z)
/-- A reader of drawn inputs lies in block g; at most q numbers were drawn. -/
def Rd (w : World) (g q : Nat) : Prop :=
  ∃ (ao : Option Addr) (len cap p : Nat), w.heap[g]? = some (.cells #[.slice ao len cap, .int .i64 (p : Int)] 65 (0, 0)) ∧ p ≤ q ∧ len ≤ 2000 ∧ Bytes w ao len g
/-- The same; the bytes lie below top. -/
def RdT (top : Nat) (w : World) (g q : Nat) : Prop :=
  ∃ (ao : Option Addr) (len cap p : Nat), w.heap[g]? = some (.cells #[.slice ao len cap, .int .i64 (p : Int)] 65 (0, 0)) ∧ p ≤ q ∧ len ≤ 2000 ∧ Bytes w ao len top
theorem xor_nonneg (a b : Int) (ha : 0 ≤ a) (ha2 : a < 4611686018427387904) (hb : 0 ≤ b) (hb2 : b < 4611686018427387904) : 0 ≤ bits .xor .i64 a b := by
  obtain ⟨x, rfl⟩ : ∃ x : Nat, a = x := ⟨a.toNat, by omega⟩
  obtain ⟨y, rfl⟩ : ∃ y : Nat, b = y := ⟨b.toNat, by omega⟩
  have hx : x ^^^ y < 2 ^ 62 := Nat.xor_lt_two_pow (by omega) (by omega)
  show 0 ≤ IntKind.i64.wrap ((BitVec.ofInt 64 (x : Int) ^^^ BitVec.ofInt 64 (y : Int)).toNat : Int)
  rw [BitVec.toNat_xor, ofInt_u64 x (by omega), ofInt_u64 y (by omega)]
  simp [IntKind.wrap, IntKind.bits, IntKind.signed]
  omega
theorem tmod_ok (a n : Int) (ha : 0 ≤ a) (hn : 1 ≤ n) : 0 ≤ a.tmod n ∧ a.tmod n < n :=
  ⟨Int.tmod_nonneg n ha, Int.tmod_lt_of_pos a (by omega)⟩
theorem Rd.below {w w' : World} {g q : Nat} (h : Rd w g q) (hb : Below (g + 1) w w') : Rd w' g q := by
  obtain ⟨ao, len, cap, p, hg, hp, hlen, hy⟩ := h
  refine ⟨ao, len, cap, p, (hb.block g (by omega)).trans hg, hp, hlen, ?_⟩
  rcases hy with hy | ⟨b, off, h1, h2, h3⟩
  · exact .inl hy
  · refine .inr ⟨b, off, h1, h2, fun i hi => ?_⟩
    obtain ⟨z, z0, z1, hz⟩ := h3 i hi
    exact ⟨z, z0, z1, (hb.cell (p := ⟨b, off + i, none⟩) (by show b < g + 1; omega)).trans hz⟩
theorem Rd.lt {w : World} {g q : Nat} (h : Rd w g q) : g < w.heap.size := by
  obtain ⟨_, _, _, _, hg, _⟩ := h
  exact (Array.getElem?_eq_some_iff.mp hg).1
theorem Rd.alloc {w : World} {g q : Nat} (h : Rd w g q) (o : Obj) : Rd (w.alloc o) g q :=
  h.below ((Below.refl _ _).alloc h.lt _)
theorem Rd.drew {w : World} {g q : Nat} (h : Rd w g q) : Rd w.drew g q := h
theorem Rd.mono {w : World} {g q q' : Nat} (h : Rd w g q) (hq : q ≤ q') : Rd w g q' := by
  obtain ⟨ao, len, cap, p, hg, hp, r⟩ := h
  exact ⟨ao, len, cap, p, hg, by omega, r⟩
theorem Bytes.later {w w' : World} {ao : Option Addr} {len : Nat} (h : Bytes w ao len w.heap.size) (hb : Below w.heap.size w w') : Bytes w' ao len w'.heap.size := by
  rcases h with h | ⟨b, off, h1, h2, h3⟩
  · exact .inl h
  · refine .inr ⟨b, off, h1, Nat.lt_of_lt_of_le h2 hb.size, fun i hi => ?_⟩
    obtain ⟨z, z0, z1, hz⟩ := h3 i hi
    exact ⟨z, z0, z1, (hb.cell (p := ⟨b, off + i, none⟩) h2).trans hz⟩
theorem Bytes.alloc {w : World} {ao : Option Addr} {len : Nat} (h : Bytes w ao len w.heap.size) (o : Obj) : Bytes (w.alloc o) ao len (w.alloc o).heap.size :=
  h.later ((Below.refl _ _).alloc (Nat.le_refl _) _)
end Go.Proofs.Ytjleempapphlhab
end
section
namespace Go.Proofs.Ytjleempapphlhab
open Go.RowKit
set_option maxRecDepth 20000
set_option linter.unusedVariables false
theorem alive_any (w : World) : Calls Try.prog 14 #[] w fun e w' => e = .returned (.bool true) ∧ w = w' := by
  have h1 : ∀ W : World, Calls Try.prog 41 #[.string ⟨#[97, 49]⟩] W fun e w' => e = .returned (.bool true) ∧ W = w' := fun W => iword_any ⟨#[97, 49]⟩ W (by decide)
  have h2 : ∀ W : World, Calls Try.prog 41 #[.string ⟨#[49, 97]⟩] W fun e w' => e = .returned (.bool false) ∧ W = w' := fun W => iword_any ⟨#[49, 97]⟩ W (by decide)
  have H1 := Lib.hid h1
  have H2 := Lib.hid h2
  clear h1 h2
  go_enter Try.func14, Try.ntmps14
  go_wp2_with fail
  refine (H1.out _).mono ?_
  rintro e w1 ⟨rfl, rfl⟩
  go_wp2_with fail
  refine (H2.out _).mono ?_
  rintro e w1 ⟨rfl, rfl⟩
  go_wp2
  go_ret
  exact ⟨rfl, rfl⟩
end Go.Proofs.Ytjleempapphlhab
end
