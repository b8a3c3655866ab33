/- The contract of the function that draws a line. -/
import Derived.Test.YtnhbhopiioclmaaDrawW
namespace Go.Proofs.Ytnhbhopiioclmaa
open Go.RowKit
set_option linter.unusedVariables false

/-- Cells of zero bytes, and the text of them. -/
def zer (n : Nat) : Array Value := Array.replicate n (.int .u8 0)
def zerS (n : Nat) : ByteArray := ⟨Array.replicate n 0⟩
theorem run_zer (w w' : World) (b n : Nat) (h : ∀ i, i < n → w'.cell? ⟨b, i, none⟩ = some (.int .u8 0)) :
    (convert 22 9 (.slice (some ⟨b, 0, none⟩) n n)).run Try.prog w' = .ok (.string (zerS n)) w' := by
  have := run_convert_bytes_back (P := Try.prog) w' 22 9 5 ⟨b, 0, none⟩ n (List.replicate n 0) Try.underlying22 Try.underlying5 Try.underlying9 (fun j hj => by
    rw [List.length_replicate] at hj
    have := h j hj
    have e : (⟨b, 0, none⟩ : Addr).add j = ⟨b, j, none⟩ := by
      cases j with
      | zero => rfl
      | succ j => simp [Addr.add]
    rw [e]; simpa using this)
  simpa [zerS] using this
theorem zer_at (n i : Nat) (h : i < n) : (zer n)[i]? = some (.int .u8 0) := by
  unfold zer; simp [h]
theorem conv_new (w : World) (n : Nat) :
    (convert 22 9 (.slice (some ⟨w.heap.size, 0, none⟩) n n)).run Try.prog (w.alloc (.cells (zer n) 5)) = .ok (.string (zerS n)) (w.alloc (.cells (zer n) 5)) :=
  run_zer w _ _ n (fun i hi => by rw [World.cell?_alloc_mark, zer_at n i hi])
theorem conv_drew (w : World) (n : Nat) :
    (convert 22 9 (.slice (some ⟨w.heap.size, 0, none⟩) n n)).run Try.prog (w.alloc (.cells (zer n) 5)).drew = .ok (.string (zerS n)) (w.alloc (.cells (zer n) 5)).drew :=
  run_zer w _ _ n (fun i hi => by show (w.alloc (.cells (zer n) 5)).cell? _ = _; rw [World.cell?_alloc_mark, zer_at n i hi])

theorem lines_at (y : Int) (h0 : 0 ≤ y) (h1 : y < 4) : ∃ s : ByteArray, s.size ≤ 61 ∧ (∀ W : World, (W.alloc (.cells #[.string ⟨#[32, 97]⟩, .string ⟨#[97, 32]⟩, .string ⟨#[10]⟩, .string (zerS 61)] 9)).cell? ⟨W.heap.size, y.toNat, none⟩ = some (.string s)) ∧ (#[.string ⟨#[32, 97]⟩, .string ⟨#[97, 32]⟩, .string ⟨#[10]⟩, .string (zerS 61)] : Array Value)[y.toNat]? = some (.string s) := by
  obtain ⟨s, hs, hc⟩ := strs_at (M := 61) (C := #[.string ⟨#[32, 97]⟩, .string ⟨#[97, 32]⟩, .string ⟨#[10]⟩, .string (zerS 61)]) rfl y.toNat (by show y.toNat < 4; omega)
  exact ⟨s, hs, fun W => by rw [World.cell?_alloc_mark]; exact hc, hc⟩
theorem val_of {l : List Value} {i : Nat} {v : Value} (h : l.toArray[i]? = some v) (hi : i < l.length) : l[i] = v := by
  simpa [List.getElem?_eq_getElem hi] using h
theorem cell_A {w1 w2 : World} {g i : Nat} {C D : Array Value} {t u : TypeId} {v : Value} (hlt : g < w1.heap.size) (hc : D[i]? = some v) (hg : ((w1.alloc (.cells C t)).alloc (.cells D u)).drew.grownBy w2 (some g)) :
    w2.cell? ⟨w1.heap.size + 1, i, none⟩ = some v := by
  rw [World.cell?_of_block (w := ((w1.alloc (.cells C t)).alloc (.cells D u)).drew) (hg.block (w1.heap.size + 1) (by show _ < ((w1.alloc (.cells C t)).alloc (.cells D u)).heap.size; simp) (by intro e; injection e with e; omega))]
  have := World.cell?_alloc_mark (w1.alloc (.cells C t)) D u (0, 0) i
  rw [World.size_alloc] at this
  exact this.trans hc
theorem conv_B {w1 w2 : World} {g n : Nat} (hlt : g < w1.heap.size) (hg : (w1.alloc (.cells (zer n) 5)).drew.grownBy w2 (some g)) :
    (convert 22 9 (.slice (some ⟨w1.heap.size, 0, none⟩) n n)).run Try.prog w2 = .ok (.string (zerS n)) w2 :=
  run_zer w1 _ _ n (fun i hi => by
    rw [World.cell?_of_block (w := (w1.alloc (.cells (zer n) 5)).drew) (hg.block w1.heap.size (by show _ < (w1.alloc (.cells (zer n) 5)).heap.size; simp) (by intro e; injection e with e; omega))]
    show (w1.alloc (.cells (zer n) 5)).cell? _ = _
    rw [World.cell?_alloc_mark, zer_at n i hi])
theorem grown_drew {w w1 : World} {g : Nat} (h1 : w.grownBy w1 (some g)) : w.grownBy w1.drew (some g) := ⟨h1.os, h1.tape, h1.output, h1.size, h1.block⟩
theorem end_A {w w1 w2 : World} {g : Nat} {o o' : Obj} (h : w.grownBy w1 (some g)) (hg : ((w1.alloc o).alloc o').drew.grownBy w2 (some g)) : w.grownBy w2 (some g) :=
  grown_step (grown_drew (grown_alloc (grown_alloc h _) _)) hg
theorem end_B {w w1 w2 : World} {g : Nat} {o : Obj} (h : w.grownBy w1 (some g)) (hg : (w1.alloc o).drew.grownBy w2 (some g)) : w.grownBy w2 (some g) :=
  grown_step (grown_drew (grown_alloc h _)) hg
theorem end_C {w w1 w2 : World} {g : Nat} (h : w.grownBy w1 (some g)) (hg : w1.drew.grownBy w2 (some g)) : w.grownBy w2 (some g) :=
  grown_step (grown_drew h) hg

set_option maxHeartbeats 1000000 in
theorem line_any (w : World) (g q : Nat) (n : Int) (hr : Rd w g q) (hq : q ≤ 999999) (hn : 0 ≤ n) (hn2 : n ≤ 2147483647) :
    Calls Try.prog 51 #[.pointer (some ⟨g, 0, none⟩), .int .i64 n] w fun e w' => ∃ s : ByteArray, s.size ≤ 61 ∧ e = .returned (.string s) ∧ Rd w' g (q + 2) ∧ w.grownBy w' (some g) := by
  have HR := Lib.hid hr
  clear hr
  go_enter Try.func51, Try.ntmps51
  go_wp2_with fail
  refine (odd_any _ g q n HR.out (by omega) hn hn2).mono ?_
  rintro e w1 ⟨x, rfl, hr1, hg1⟩
  have HR1 := Lib.hid hr1
  have HG1 := Lib.hid hg1
  clear hr1 hg1
  cases x
  · go_wp2_with (go_at_call 49; refine (pick_pos _ g (q + 1) 6 (HR1.out.alloc _) (by omega) (by omega) (by omega)).mono ?_; rintro e w2 ⟨y, hy0, hy1, rfl, hr2, hg2⟩; obtain ⟨s, hs, hc⟩ := pick_str hg2 HR1.out.lt 61 rfl y hy0 hy1; have HR2 := Lib.hid hr2; have HG2 := Lib.hid hg2; clear hr2 hg2)
    go_ret
    exact ⟨s, hs, rfl, HR2.out, grown_step (grown_alloc HG1.out _) HG2.out⟩
  · go_wp2_with fail
    have hmk : ∀ W : World, (Instr.makeSlice 22 (.int .i64 61) (.int .i64 61)).run Try.prog W = .ok (.slice (some ⟨W.heap.size, 0, none⟩) 61 61) (W.alloc (.cells (zer 61) 5)) := fun _ => by kernel_rfl
    have hcv1 := conv_new
    have hcv2 := conv_drew
    go_region_with (go_at_call 49; refine Calls.mono (pick_pos _ g (q + 1) 4 ?_ (by omega) (by omega) (by omega)) ?_; (first | exact ((HR1.out.alloc _).alloc _).drew | exact (HR1.out.alloc _).drew | exact HR1.out.drew); rintro e w2 ⟨y, hy0, hy1, rfl, hr2, hg2⟩; obtain ⟨s, hs, hW, hW2⟩ := lines_at y hy0 hy1; (first | have hc := cell_A HR1.out.lt hW2 hg2 | have hcv3 := conv_B HR1.out.lt hg2 | skip); (first | have HG2 := Lib.hid (end_A HG1.out hg2) | have HG2 := Lib.hid (end_B HG1.out hg2) | have HG2 := Lib.hid (end_C HG1.out hg2)); have HR2 := Lib.hid hr2; clear hr2 hg2)
    all_goals
      go_wp2
      go_ret
      refine ⟨s, hs, (by first | rfl | exact congrArg Ending.returned (val_of hW2 _)), ?_, ?_⟩
      · first | exact HR2.out | exact HR2.out.alloc _ | exact (HR2.out.alloc _).alloc _
      · first | exact HG2.out | exact grown_alloc HG2.out _ | exact grown_alloc (grown_alloc HG2.out _) _

end Go.Proofs.Ytnhbhopiioclmaa
