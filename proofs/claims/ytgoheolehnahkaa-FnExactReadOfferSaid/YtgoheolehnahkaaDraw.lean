/- The contracts of the reader of drawn inputs. -/
import Derived.Test.YtgoheolehnahkaaChecked
import Derived.Test.YtgoheolehnahkaaPlain
import Derived.WalkKit
import Derived.WalkSpells
import Derived.LoopTactic
import Derived.Lib.Hide
import Derived.OwnWalk
import Derived.Deep.QuietTactic
import Derived.BigQuiet
import Derived.Outline
import Derived.Laws.BitsAllLaws
import Derived.Lib.SmallJoins
namespace Go.Proofs.Ytgoheolehnahkaa
open Go.RowKit
set_option maxRecDepth 20000
set_option linter.unusedVariables false

/-- The bytes that a reader reads. -/
def Bytes (w : World) (ao : Option Addr) (len : Nat) (top : Nat) : Prop :=
  len = 0 ∨ ∃ b off, ao = some ⟨b, off, none⟩ ∧ b < top ∧ ∀ i, i < len → ∃ z : Int, 0 ≤ z ∧ z ≤ 255 ∧ w.cell? ⟨b, off + i, none⟩ = some (.int .u8 z)
/-- A reader of drawn inputs lies in block g; at most q numbers were drawn. -/
def Rd (w : World) (g q : Nat) : Prop :=
  ∃ (ao : Option Addr) (len cap p : Nat), w.heap[g]? = some (.cells #[.slice ao len cap, .int .i64 (p : Int)] 69 (0, 0)) ∧ p ≤ q ∧ len ≤ 2000 ∧ Bytes w ao len g

/-- The same; the bytes lie below top. -/
def RdT (top : Nat) (w : World) (g q : Nat) : Prop :=
  ∃ (ao : Option Addr) (len cap p : Nat), w.heap[g]? = some (.cells #[.slice ao len cap, .int .i64 (p : Int)] 69 (0, 0)) ∧ p ≤ q ∧ len ≤ 2000 ∧ Bytes w ao len top

theorem xor_nonneg (a b : Int) (ha : 0 ≤ a) (ha2 : a < 4611686018427387904) (hb : 0 ≤ b) (hb2 : b < 4611686018427387904) : 0 ≤ bits .xor .i64 a b := by
  obtain ⟨x, rfl⟩ : ∃ x : Nat, a = x := ⟨a.toNat, by omega⟩
  obtain ⟨y, rfl⟩ : ∃ y : Nat, b = y := ⟨b.toNat, by omega⟩
  have hx : x ^^^ y < 2 ^ 62 := Nat.xor_lt_two_pow (by omega) (by omega)
  show 0 ≤ IntKind.i64.wrap ((BitVec.ofInt 64 (x : Int) ^^^ BitVec.ofInt 64 (y : Int)).toNat : Int)
  rw [BitVec.toNat_xor, ofInt_u64 x (by omega), ofInt_u64 y (by omega)]
  simp [IntKind.wrap, IntKind.bits, IntKind.signed]
  omega
theorem tmod_ok (a n : Int) (ha : 0 ≤ a) (hn : 1 ≤ n) : 0 ≤ a.tmod n ∧ a.tmod n < n :=
  ⟨Int.tmod_nonneg n ha, Int.tmod_lt_of_pos a (by omega)⟩

set_option maxHeartbeats 1000000 in
theorem pick_top (w : World) (g q top : Nat) (n : Int) (htop : top ≤ g) (hr : RdT top w g q) (hq : q ≤ 1000000) (hn : 1 ≤ n) (hn2 : n ≤ 2147483647) :
    Calls Try.prog 53 #[.pointer (some ⟨g, 0, none⟩), .int .i64 n] w fun e w' => ∃ x : Int, 0 ≤ x ∧ x < n ∧ e = .returned (.int .i64 x) ∧ RdT top w' g (q + 1) ∧ w.grownBy w' (some g) := by
  obtain ⟨ao, len, cap, p, hg, hp, hlen, hb⟩ := hr
  have c0 : w.cell? ⟨g, 0, none⟩ = some (.slice ao len cap) := by simp [World.cell?, hg]
  have c1 : w.cell? ⟨g, 1, none⟩ = some (.int .i64 (p : Int)) := by simp [World.cell?, hg]
  have f1 : w.frozen? ⟨g, 1, none⟩ = false := by simp [World.frozen?, hg]
  have hpb : (p : Int) ≤ 1000000 := by omega
  have hgrow : w.grownBy (w.setCell ⟨g, 1, none⟩ (.int .i64 ((p : Int) + 1))) (some g) :=
    ⟨rfl, rfl, rfl, by simp [World.setCell], fun k hk hne => Below.heap_setCell w _ _ k (fun e => hne (by rw [e]))⟩
  have HR : Hid (RdT top (w.setCell ⟨g, 1, none⟩ (.int .i64 ((p : Int) + 1))) g (q + 1)) := by
    refine ⟨ao, len, cap, p + 1, ?_, by omega, hlen, ?_⟩
    · exact Joins.block_setCell hg _
    · rcases hb with hb | ⟨b, off, h1, h2, h3⟩
      · exact .inl hb
      · refine .inr ⟨b, off, h1, h2, fun i hi => ?_⟩
        obtain ⟨z, z0, z1, hz⟩ := h3 i hi
        exact ⟨z, z0, z1, by rw [World.cell?_of_block (w := w) (hgrow.block b (block_lt_of_cell hz) (by intro e; injection e with e; omega)), hz]⟩
  have HW := Lib.hid hgrow
  have HG := Lib.hid hg
  clear hgrow hg
  by_cases h0 : len = 0
  · subst h0
    go_enter Try.func53, Try.ntmps53
    go_wp2
    go_ret
    exact ⟨0, by omega, by omega, rfl, HR.out, HW.out⟩
  · have hl0 : ((len : Int) == 0) = false := beq_eq_false_iff_ne.mpr (by omega)
    have hl1 : (0 : Int) < len := by omega
    have hlen' : (len : Int) ≤ 2000 := by omega
    obtain ⟨b, off, rfl, hbg, hcell⟩ : ∃ b off, ao = some ⟨b, off, none⟩ ∧ b < top ∧ ∀ i, i < len → ∃ z : Int, 0 ≤ z ∧ z ≤ 255 ∧ w.cell? ⟨b, off + i, none⟩ = some (.int .u8 z) := hb.resolve_left h0
    have HC : Hid (∀ i, i < len → ∃ z : Int, 0 ≤ z ∧ z ≤ 255 ∧ (w.setCell ⟨g, 1, none⟩ (.int .i64 ((p : Int) + 1))).cell? ⟨b, off + i, none⟩ = some (.int .u8 z)) := by
      intro i hi
      obtain ⟨z, z0, z1, hz⟩ := hcell i hi
      exact ⟨z, z0, z1, by rw [World.cell?_of_block (w := w) (HW.out.block b (by
        have := block_lt_of_cell hz
        exact this) (by intro e; injection e with e; omega)), hz]⟩
    clear hcell hb
    by_cases hk : p < len
    · obtain ⟨z, z0, z1, hz⟩ := HC.out p hk
      go_enter Try.func53, Try.ntmps53
      go_wp2
      go_ret
      refine ⟨_, ?_, ?_, rfl, HR.out, HW.out⟩
      · first | exact (tmod_ok z n z0 hn).1 | exact Int.emod_nonneg _ (by omega)
      · first | exact (tmod_ok z n z0 hn).2 | exact Int.emod_lt_of_pos _ (by omega)
    · obtain ⟨z, z0, z1, hz⟩ := HC.out (p % len) (Nat.mod_lt _ (by omega))
      obtain ⟨y, y0, y1, hy⟩ := HC.out ((p * 7 + 3) % len) (Nat.mod_lt _ (by omega))
      have e1 : (((p % len : Nat)) : Int) = (p : Int) % len := by simp
      have e2 : ((((p * 7 + 3) % len : Nat)) : Int) = ((p : Int) * 7 + 3) % len := by simp
      have b1 : 0 ≤ (p : Int) % len := Int.emod_nonneg _ (by omega)
      have b2 : (p : Int) % len < len := Int.emod_lt_of_pos _ hl1
      have b3 : 0 ≤ ((p : Int) * 7 + 3) % len := Int.emod_nonneg _ (by omega)
      have b4 : ((p : Int) * 7 + 3) % len < len := Int.emod_lt_of_pos _ hl1
      have d0 : 0 ≤ (p : Int) / len := Int.ediv_nonneg (by omega) (by omega)
      have d1 : (p : Int) / len ≤ 1000000 := Int.le_trans (Int.ediv_le_self _ (by omega)) hpb
      have HE1 := Lib.hid e1
      have HE2 := Lib.hid e2
      clear e1 e2
      go_enter Try.func53, Try.ntmps53
      go_wp2
      go_quiet (fail)
      go_wp2
      go_ret
      refine ⟨_, ?_, ?_, rfl, HR.out, ⟨HW.out.os, HW.out.tape, HW.out.output, HW.out.size, HW.out.block⟩⟩
      · exact (tmod_ok _ n (xor_nonneg _ _ (by omega) (by omega) (by omega) (by omega)) hn).1
      · exact (tmod_ok _ n (xor_nonneg _ _ (by omega) (by omega) (by omega) (by omega)) hn).2

/-- The same, where the bytes lie in the reader's past. -/
theorem pick_pos (w : World) (g q : Nat) (n : Int) (hr : Rd w g q) (hq : q ≤ 1000000) (hn : 1 ≤ n) (hn2 : n ≤ 2147483647) :
    Calls Try.prog 53 #[.pointer (some ⟨g, 0, none⟩), .int .i64 n] w fun e w' => ∃ x : Int, 0 ≤ x ∧ x < n ∧ e = .returned (.int .i64 x) ∧ Rd w' g (q + 1) ∧ w.grownBy w' (some g) :=
  pick_top w g q g n (Nat.le_refl _) hr hq hn hn2

theorem Rd.below {w w' : World} {g q : Nat} (h : Rd w g q) (hb : Below (g + 1) w w') : Rd w' g q := by
  obtain ⟨ao, len, cap, p, hg, hp, hlen, hy⟩ := h
  refine ⟨ao, len, cap, p, (hb.block g (by omega)).trans hg, hp, hlen, ?_⟩
  rcases hy with hy | ⟨b, off, h1, h2, h3⟩
  · exact .inl hy
  · refine .inr ⟨b, off, h1, h2, fun i hi => ?_⟩
    obtain ⟨z, z0, z1, hz⟩ := h3 i hi
    exact ⟨z, z0, z1, (hb.cell (p := ⟨b, off + i, none⟩) (by show b < g + 1; omega)).trans hz⟩
theorem Rd.lt {w : World} {g q : Nat} (h : Rd w g q) : g < w.heap.size := by
  obtain ⟨_, _, _, _, hg, _⟩ := h
  exact (Array.getElem?_eq_some_iff.mp hg).1
theorem Rd.alloc {w : World} {g q : Nat} (h : Rd w g q) (o : Obj) : Rd (w.alloc o) g q :=
  h.below ((Below.refl _ _).alloc h.lt _)
theorem Rd.drewN {w : World} {g q : Nat} (h : Rd w g q) (n : Nat) : Rd (w.drewN n) g q := h
theorem Rd.drew {w : World} {g q : Nat} (h : Rd w g q) : Rd w.drew g q := h
theorem Rd.mono {w : World} {g q q' : Nat} (h : Rd w g q) (hq : q ≤ q') : Rd w g q' := by
  obtain ⟨ao, len, cap, p, hg, hp, r⟩ := h
  exact ⟨ao, len, cap, p, hg, by omega, r⟩

set_option maxHeartbeats 1000000 in
theorem odd_top (w : World) (g q top : Nat) (n : Int) (htop : top ≤ g) (hr : RdT top w g q) (hq : q ≤ 1000000) (hn : 1 ≤ n) (hn2 : n ≤ 2147483647) :
    Calls Try.prog 52 #[.pointer (some ⟨g, 0, none⟩), .int .i64 n] w fun e w' => ∃ x : Bool, e = .returned (.bool x) ∧ RdT top w' g (q + 1) ∧ w.grownBy w' (some g) := by
  have hn3 : 0 < n := by omega
  have HR := Lib.hid hr
  clear hr
  go_enter Try.func52, Try.ntmps52
  go_wp2_with (go_at_call 53; refine (pick_top _ g q top n htop HR.out hq hn hn2).mono ?_; rintro e w1 ⟨x, hx0, hx1, rfl, hr1, hg1⟩)
  go_ret
  exact ⟨_, rfl, hr1, hg1⟩

theorem odd_pos (w : World) (g q : Nat) (n : Int) (hr : Rd w g q) (hq : q ≤ 1000000) (hn : 1 ≤ n) (hn2 : n ≤ 2147483647) :
    Calls Try.prog 52 #[.pointer (some ⟨g, 0, none⟩), .int .i64 n] w fun e w' => ∃ x : Bool, e = .returned (.bool x) ∧ Rd w' g (q + 1) ∧ w.grownBy w' (some g) :=
  odd_top w g q g n (Nat.le_refl _) hr hq hn hn2

theorem odd_zero (w : World) (g : Nat) :
    Calls Try.prog 52 #[.pointer (some ⟨g, 0, none⟩), .int .i64 0] w fun e w' => e = .returned (.bool false) ∧ w = w' := by
  go_enter Try.func52, Try.ntmps52
  go_wp2
  go_ret
  exact ⟨rfl, rfl⟩
theorem odd_any (w : World) (g q : Nat) (n : Int) (hr : Rd w g q) (hq : q ≤ 1000000) (hn : 0 ≤ n) (hn2 : n ≤ 2147483647) :
    Calls Try.prog 52 #[.pointer (some ⟨g, 0, none⟩), .int .i64 n] w fun e w' => ∃ x : Bool, e = .returned (.bool x) ∧ Rd w' g (q + 1) ∧ w.grownBy w' (some g) := by
  by_cases h : 1 ≤ n
  · exact odd_pos w g q n hr hq h hn2
  · obtain rfl : n = 0 := by omega
    refine (odd_zero w g).mono ?_
    rintro e w' ⟨rfl, rfl⟩
    exact ⟨false, rfl, hr.mono (by omega), rfl, rfl, rfl, Nat.le_refl _, fun _ _ _ => rfl⟩

theorem Bytes.later {w w' : World} {ao : Option Addr} {len : Nat} (h : Bytes w ao len w.heap.size) (hb : Below w.heap.size w w') : Bytes w' ao len w'.heap.size := by
  rcases h with h | ⟨b, off, h1, h2, h3⟩
  · exact .inl h
  · refine .inr ⟨b, off, h1, Nat.lt_of_lt_of_le h2 hb.size, fun i hi => ?_⟩
    obtain ⟨z, z0, z1, hz⟩ := h3 i hi
    exact ⟨z, z0, z1, (hb.cell (p := ⟨b, off + i, none⟩) h2).trans hz⟩
theorem Bytes.alloc {w : World} {ao : Option Addr} {len : Nat} (h : Bytes w ao len w.heap.size) (o : Obj) : Bytes (w.alloc o) ao len (w.alloc o).heap.size :=
  h.later ((Below.refl _ _).alloc (Nat.le_refl _) _)
theorem rd_new (w : World) (ao : Option Addr) (len cap : Nat) (h : len ≤ 2000) (hb : Bytes w ao len w.heap.size) :
    Rd (w.alloc (.cells #[.slice ao len cap, .int .i64 0] 69)) w.heap.size 0 := by
  refine ⟨ao, len, cap, 0, by show (w.heap.push _)[_]? = _; simp, Nat.le_refl _, h, ?_⟩
  rcases hb with hb | ⟨b, off, h1, h2, h3⟩
  · exact .inl hb
  · refine .inr ⟨b, off, h1, h2, fun i hi => ?_⟩
    obtain ⟨z, z0, z1, hz⟩ := h3 i hi
    exact ⟨z, z0, z1, (((Below.refl w.heap.size w).alloc (Nat.le_refl _) _).cell (p := ⟨b, off + i, none⟩) h2).trans hz⟩

theorem rd_top (w : World) (ao : Option Addr) (len cap top : Nat) (h : len ≤ 2000) (ht : top ≤ w.heap.size) (hb : Bytes w ao len top) :
    RdT top (w.alloc (.cells #[.slice ao len cap, .int .i64 0] 69)) w.heap.size 0 := by
  refine ⟨ao, len, cap, 0, by show (w.heap.push _)[_]? = _; simp, Nat.le_refl _, h, ?_⟩
  rcases hb with hb | ⟨b, off, h1, h2, h3⟩
  · exact .inl hb
  · refine .inr ⟨b, off, h1, h2, fun i hi => ?_⟩
    obtain ⟨z, z0, z1, hz⟩ := h3 i hi
    exact ⟨z, z0, z1, (((Below.refl w.heap.size w).alloc (Nat.le_refl _) _).cell (p := ⟨b, off + i, none⟩) (by show b < _; omega)).trans hz⟩
set_option maxHeartbeats 1000000 in
theorem open_any (w : World) (ao : Option Addr) (len cap : Nat) (hlc : len ≤ cap) (hc : cap ≤ maxLen) (hb : Bytes w ao len w.heap.size) :
    Calls Try.prog 40 #[.slice ao len cap] w fun e w' => e = .returned (.pointer (some ⟨w.heap.size, 0, none⟩)) ∧ Rd w' w.heap.size 0 ∧ Below w.heap.size w w' := by
  unfold maxLen at hc
  by_cases h : 2000 < len
  · go_enter Try.func40, Try.ntmps40
    go_wp2
    go_ret
    exact ⟨rfl, rd_new w ao 2000 cap (by omega) (by
      rcases hb with hb | ⟨b, off, h1, h2, h3⟩
      · omega
      · exact .inr ⟨b, off, h1, h2, fun i hi => h3 i (by omega)⟩), (Below.refl _ _).alloc (Nat.le_refl _) _⟩
  · go_enter Try.func40, Try.ntmps40
    go_wp2
    go_ret
    exact ⟨rfl, rd_new w ao len cap (by omega) hb, (Below.refl _ _).alloc (Nat.le_refl _) _⟩
set_option maxHeartbeats 1000000 in
theorem open_top (w : World) (ao : Option Addr) (len cap top : Nat) (hlc : len ≤ cap) (ht : top ≤ w.heap.size) (hb : Bytes w ao len top) :
    Calls Try.prog 40 #[.slice ao len cap] w fun e w' => e = .returned (.pointer (some ⟨w.heap.size, 0, none⟩)) ∧ RdT top w' w.heap.size 0 ∧ Below w.heap.size w w' := by
  by_cases h : 2000 < len
  · go_enter Try.func40, Try.ntmps40
    go_wp2
    go_ret
    exact ⟨rfl, rd_top w ao 2000 cap top (by omega) ht (by
      rcases hb with hb | ⟨b, off, h1, h2, h3⟩
      · omega
      · exact .inr ⟨b, off, h1, h2, fun i hi => h3 i (by omega)⟩), (Below.refl _ _).alloc (Nat.le_refl _) _⟩
  · go_enter Try.func40, Try.ntmps40
    go_wp2
    go_ret
    exact ⟨rfl, rd_top w ao len cap top (by omega) ht hb, (Below.refl _ _).alloc (Nat.le_refl _) _⟩
end Go.Proofs.Ytgoheolehnahkaa
