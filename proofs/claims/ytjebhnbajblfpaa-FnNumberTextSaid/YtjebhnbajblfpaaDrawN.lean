/- The contracts of the functions that draw numbers. -/
import Derived.Test.YtjebhnbajblfpaaDrawS
import Derived.Test.YtjebhnbajblfpaaNums
namespace Go.Proofs.Ytjebhnbajblfpaa
open Go.RowKit
set_option linter.unusedVariables false

/-- Every cell is a number in lo..hi. -/
def intsB (lo hi : Int) (C : Array Value) : Bool := C.toList.all fun v => match v with
  | .int .i64 n => decide (lo ≤ n) && decide (n ≤ hi)
  | _ => false
theorem ints_at {lo hi : Int} {C : Array Value} (h : intsB lo hi C = true) (i : Nat) (hi' : i < C.size) : ∃ n : Int, lo ≤ n ∧ n ≤ hi ∧ C[i]? = some (.int .i64 n) := by
  unfold intsB at h
  rw [List.all_eq_true] at h
  have := h C[i] (by simp)
  rw [Array.getElem?_eq_getElem hi']
  revert this
  cases C[i] with
  | int k n =>
    cases k with
    | i64 => intro this; simp only [Bool.and_eq_true] at this; exact ⟨n, of_decide_eq_true this.1, of_decide_eq_true this.2, rfl⟩
    | _ => intro this; cases this
  | _ => intro this; cases this
/-- The world behind a call that writes to the reader alone, which lies in the first new block. -/
theorem below_g {w w1 w2 : World} (h : Below w.heap.size w w1) (hg : w1.grownBy w2 (some w.heap.size)) : Below w.heap.size w w2 :=
  h.grown hg h.size (by intro k hk; injection hk with hk; omega)
theorem below_a {w w1 : World} (h : Below w.heap.size w w1) (o : Obj) : Below w.heap.size w (w1.alloc o) := h.alloc h.size o
/-- Two new blocks, and writes to the reader's block: the cells of both. -/
theorem two_tables {w w' : World} {g : Nat} {C D : Array Value} {t u : TypeId} (hg : ((w.alloc (.cells C t)).alloc (.cells D u)).grownBy w' (some g)) (hlt : g < w.heap.size) (i : Nat) :
    w'.cell? ⟨w.heap.size, i, none⟩ = C[i]? ∧ w'.cell? ⟨w.heap.size + 1, i, none⟩ = D[i]? := by
  constructor
  · rw [World.cell?_of_block (w := (w.alloc (.cells C t)).alloc (.cells D u)) (hg.block w.heap.size (by simp; omega) (by intro e; injection e with e; omega))]
    rw [((Below.refl (w.heap.size + 1) (w.alloc (.cells C t))).alloc (by simp) (.cells D u)).cell (p := ⟨w.heap.size, i, none⟩) (Nat.lt_succ_self _)]
    exact World.cell?_alloc_mark w C t _ i
  · have := cell_table (w := w.alloc (.cells C t)) hg (by simp; omega) i
    rw [World.size_alloc] at this
    exact this

set_option maxHeartbeats 1000000 in
theorem drawNum_any (w : World) (ao : Option Addr) (len cap : Nat) (hlc : len ≤ cap) (hc : cap ≤ maxLen) (hb : Bytes w ao len w.heap.size) :
    Calls Try.prog 18 #[.slice ao len cap] w fun e w' => ∃ n : Int, -1 ≤ n ∧ n ≤ 1000001 ∧ e = .returned (.int .i64 n) ∧ Below w.heap.size w w' := by
  have HB := Lib.hid hb
  clear hb
  go_enter Try.func18, Try.ntmps18
  go_wp2_with fail
  refine (open_any _ _ _ _ hlc hc HB.out).mono ?_
  rintro e w1 ⟨rfl, hr1, hb1⟩
  have HR1 := Lib.hid hr1
  have HB1 := Lib.hid hb1
  clear hr1 hb1
  go_wp2_with fail
  refine (pick_pos _ _ 0 256 HR1.out (by omega) (by omega) (by omega)).mono ?_
  rintro e w2 ⟨y1, y10, y11, rfl, hr2, hg2⟩
  have HR2 := Lib.hid hr2
  have HG2 := Lib.hid hg2
  clear hr2 hg2
  go_wp2_with fail
  refine (pick_pos _ _ 1 256 HR2.out (by omega) (by omega) (by omega)).mono ?_
  rintro e w3 ⟨y2, y20, y21, rfl, hr3, hg3⟩
  have HR3 := Lib.hid hr3
  have HG3 := Lib.hid hg3
  clear hr3 hg3
  go_wp2_with fail
  refine (pick_pos _ _ 2 7 ((HR3.out.alloc _).alloc _) (by omega) (by omega) (by omega)).mono ?_
  rintro e w4 ⟨y3, y30, y31, rfl, hr4, hg4⟩
  have HG4 := Lib.hid hg4
  have hT := Lib.hid (two_tables hg4 HR3.out.lt)
  clear hr4 hg4
  obtain ⟨j, j0, j1, hj⟩ := ints_at (lo := 0) (hi := 4) (C := #[.int .i64 0, .int .i64 0, .int .i64 1, .int .i64 1, .int .i64 2, .int .i64 3, .int .i64 4]) rfl y3.toNat (by show y3.toNat < 7; omega)
  obtain ⟨v, v0, v1, hv⟩ := ints_at (lo := -1) (hi := 1000001) (C := #[.int .i64 y1, .int .i64 (y2 * 3900), .int .i64 1000000, .int .i64 1000001, .int .i64 (-1)]) (by
    unfold intsB
    simp
    omega) j.toNat (by show j.toNat < 5; omega)
  have hcj := (hT.out y3.toNat).2.trans hj
  have hcv := (hT.out j.toNat).1.trans hv
  clear hj hv
  go_wp2
  go_ret
  exact ⟨v, v0, v1, rfl, below_g (below_a (below_a (below_g (below_g HB1.out HG2.out) HG3.out) _) _) HG4.out⟩

theorem textS_size (n : Int) : (textS n).size ≤ 7 := by
  have e : (textS n).size = (textN n).length := rfl
  rw [e]
  unfold textN
  split
  · exact numT_len7 _ (by omega)
  · simp
theorem size_cat (a b : ByteArray) : (a ++ b).size = a.size + b.size := by simp

set_option maxHeartbeats 1000000 in
theorem drawRead_any (w : World) (ao : Option Addr) (len cap : Nat) (hlc : len ≤ cap) (hc : cap ≤ maxLen) (hb : Bytes w ao len w.heap.size) :
    Calls Try.prog 22 #[.slice ao len cap] w fun e w' => ∃ s : ByteArray, s.size ≤ 20 ∧ e = .returned (.string s) ∧ Below w.heap.size w w' := by
  have HB := Lib.hid hb
  clear hb
  go_enter Try.func22, Try.ntmps22
  go_wp2_with fail
  refine (open_any _ _ _ _ hlc hc HB.out).mono ?_
  rintro e w1 ⟨rfl, hr1, hb1⟩
  have HR1 := Lib.hid hr1
  have HB1 := Lib.hid hb1
  clear hr1 hb1
  go_wp2_with fail
  refine (pick_pos _ _ 0 256 HR1.out (by omega) (by omega) (by omega)).mono ?_
  rintro e w2 ⟨y1, y10, y11, rfl, hr2, hg2⟩
  have HR2 := Lib.hid hr2
  have HG2 := Lib.hid hg2
  clear hr2 hg2
  go_wp2_with fail
  refine (pick_pos _ _ 1 256 HR2.out (by omega) (by omega) (by omega)).mono ?_
  rintro e w3 ⟨y2, y20, y21, rfl, hr3, hg3⟩
  have HR3 := Lib.hid hr3
  have HG3 := Lib.hid hg3
  have HB3 := Lib.hid (below_g (below_g HB1.out HG2.out) HG3.out)
  clear hr3 hg3
  go_wp2_with fail
  refine (snum_any _ _).mono ?_
  rintro e w4 ⟨rfl, hb4⟩
  have HR4 := Lib.hid (HR3.out.below (hb4.mono HR3.out.lt))
  have HB4 := Lib.hid (HB3.out.trans (hb4.mono HB3.out.size))
  clear hb4
  obtain ⟨t, ht⟩ : ∃ t, t = textS (wrap64 (y1 * y2)) := ⟨_, rfl⟩
  have hts : t.size ≤ 7 := by rw [ht]; exact textS_size _
  rw [← ht]
  clear ht
  go_wp2_with fail
  refine (odd_pos _ _ 2 3 HR4.out (by omega) (by omega) (by omega)).mono ?_
  rintro e w5 ⟨x, rfl, hr5, hg5⟩
  have HR5 := Lib.hid hr5
  have HB5 := Lib.hid (below_g HB4.out hg5)
  clear hr5 hg5
  cases x
  · go_wp2
    go_ret
    exact ⟨t, by omega, rfl, HB5.out⟩
  · go_wp2_with fail
    refine (pick_pos _ _ 3 9 (HR5.out.alloc _) (by omega) (by omega) (by omega)).mono ?_
    rintro e w6 ⟨y3, y30, y31, rfl, hr6, hg6⟩
    have HB6 := Lib.hid (below_g (below_a HB5.out _) hg6)
    have hT := Lib.hid (cell_table hg6 HR5.out.lt y3.toNat)
    clear hr6 hg6
    obtain ⟨s, hs, hc⟩ := strs_at (M := 20) (C := #[.string ⟨#[]⟩, .string ⟨#[48, 49]⟩, .string ⟨#[49, 48, 48, 48, 48, 48, 49]⟩, .string ⟨#[97]⟩, .string ⟨#[45, 49]⟩, .string ⟨#[49, 32]⟩, .string ⟨#[57, 57, 57, 57, 57, 57, 57, 57, 57, 57, 57, 57, 57, 57, 57, 57, 57, 57, 57, 57]⟩, .string (t ++ ⟨#[48, 48, 48, 48, 48, 48, 48]⟩), .string (⟨#[48]⟩ ++ t)]) (by
      have e1 : (t ++ ⟨#[48, 48, 48, 48, 48, 48, 48]⟩).size ≤ 20 := by rw [size_cat]; show _ + 7 ≤ _; omega
      have e2 : ((⟨#[48]⟩ : ByteArray) ++ t).size ≤ 20 := by rw [size_cat]; show 1 + _ ≤ _; omega
      unfold strsB
      simp only [List.all_cons, List.all_nil, decide_eq_true e1, decide_eq_true e2]
      rfl) y3.toNat (by show y3.toNat < 9; omega)
    have hcs := hT.out.trans hc
    clear hc
    go_wp2
    go_ret
    exact ⟨s, hs, rfl, HB6.out⟩
end Go.Proofs.Ytjebhnbajblfpaa
