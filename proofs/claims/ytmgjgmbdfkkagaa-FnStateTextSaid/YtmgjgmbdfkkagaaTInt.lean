/- The contracts of the laws' helpers for lists of numbers. -/
import Derived.Test.YtmgjgmbdfkkagaaTexts
import Derived.Test.YtmgjgmbdfkkagaaWorld
import Derived.Test.YtmgjgmbdfkkagaaLists
import Derived.Test.YtmgjgmbdfkkagaaOpen
import Derived.Deep.RegionWith
import Derived.Deep.RegionHeld3
import Derived.Deep.QuietTactic
import Derived.BigQuiet
namespace Go.Proofs.Ytmgjgmbdfkkagaa
open Go.RowKit
set_option linter.unusedVariables false

/-- A list of numbers. -/
def intC (n : Int) : List Value := [.int .i64 n]
theorem intC_len (n : Int) : (intC n).length = 1 := rfl
theorem int_cell {w : World} {b off : Nat} {hs : List Int} (hc : ∀ j u, (flat intC hs)[j]? = some u → w.cell? ⟨b, off + j, none⟩ = some u) {k : Nat} {p : Int} (hk : hs[k]? = some p) : w.cell? ⟨b, off + k, none⟩ = some (.int .i64 p) := by
  have := hc (k * 1 + 0) _ (flat_get intC_len hs hk rfl)
  simpa using this
theorem info_int : (Try.prog.info? 3).map (fun i => (i.zero, i.size, i.bytes)) = some (some (.int .i64 0), 1, 8) := by kernel_rfl
def intMax (hs : List Int) : Prop := ∀ x ∈ hs, (Lit.int .i64 x).wf = true
/-- An argument that is a list of numbers. -/
theorem int_open {H : Type} {enc : TypeId × Value → H} {w : World} {a : Option Addr} {len cap : Nat} {d : DataW H} {p : List MemPlace} (h : DataW.Trod enc Try.prog w 0 (fun _ => true) true 29 (.slice a len cap) d p) :
    ∃ hs : List Int, len = hs.length ∧ len ≤ maxLen ∧ Sees w w.heap.size 1 a len (flat intC hs) ∧ intMax hs :=
  open_rows (C := intC) (ok := fun x : Int => (Lit.int .i64 x).wf = true) Try.underlying29 (by kernel_rfl) intC_len (by omega) (fun n cs x hx => by
    obtain ⟨s, rfl, _, hs⟩ := DataW.trod_int Try.underlying3 hx
    exact ⟨s, rfl, hs⟩) h

set_option maxHeartbeats 1000000 in
theorem toi_any (A : Option Addr) (n c : Nat) (hs : List Int) (w : World) (hn : n = hs.length) (hc : n ≤ 16777216) (hr : Sees w w.heap.size 1 A n (flat intC hs)) :
    Calls Try.prog 24 #[.slice A n c] w fun e w' => e = .returned (.slice (some ⟨w.heap.size, 0, none⟩) n n) ∧ w'.ownsRow w.heap.size 3 1 (.slice (some ⟨w.heap.size, 0, none⟩) n n) n (flat intC hs) ∧ Below w.heap.size w w' := by
  obtain ⟨cs, hcs, hmk⟩ := made_row (P := Try.prog) 29 3 _ 1 8 Try.underlying29 info_int n (by omega) (by omega)
  have HR := Lib.hid hr
  have HN := Lib.hid hn
  have HO := Lib.hid (World.ownsRow_lit (base := w.heap.size) (e := 3) (size := 1) w cs n (Nat.le_refl _) (by unfold maxLen; omega) hcs)
  have HCS : Hid (cs.toList.length = n * 1) := Lib.hid (by simpa using hcs)
  clear hr hn hcs
  go_enter Try.func24, Try.ntmps24
  go_wp2
  clear hmk
  go_loopw [4] (fun i wr => ∃ k : Nat, ∃ ys : List Value, k ≤ n ∧ i = .int .i64 k ∧ ys.length = n * 1 ∧ ys.take (k * 1) = flat intC (hs.take k) ∧ wr.ownsRow w.heap.size 3 1 (.slice (some ⟨w.heap.size, 0, none⟩) n n) n ys ∧ Below w.heap.size w wr) (fun i _ => n - (intOf i).toNat)
  case atStart => exact ⟨0, _, Nat.zero_le _, rfl, HCS.out, rfl, HO.out, bnew _ _⟩
  case round =>
    obtain ⟨k, ys, hk, rfl, hy, ht, hown, hbel⟩ := hrel
    have HY := Lib.hid hy
    have HT := Lib.hid ht
    have HW := Lib.hid hown
    have HB := Lib.hid hbel
    clear hy ht hown hbel
    by_cases hlt : k < n
    · obtain ⟨b, off, rfl, hb, hcell⟩ := (HR.out.below HB.out (Nat.le_refl _)).2 (by omega)
      obtain ⟨p, hp⟩ := get_of HN.out hlt
      have HP := Lib.hid hp
      have c0 := int_cell hcell hp
      obtain ⟨u, d0⟩ := own_some HW.out (j := k) (by omega)
      have f0 := HW.out.frozenAt k
      clear hcell hb hp
      go_wp2
      go_roundw
      case rel =>
        have := fill_step intC_len HY.out HN.out HT.out HP.out
        simp only [Nat.mul_one, setAll, intC] at this
        exact ⟨k + 1, _, by omega, by go_num, by rw [this.1]; omega, by rw [Nat.mul_one]; exact this.2, (HW.out.stored k _).1, HB.out.setCell (Nat.le_refl _) _⟩
      case measure => simp [intOf]; omega
    · go_wp2
      go_ret
      refine ⟨rfl, ?_, HB.out⟩
      rw [← fill_end HY.out HN.out HT.out hlt hk]
      exact HW.out

set_option maxHeartbeats 1000000 in
theorem eqi_same (A A2 : Option Addr) (n c c2 : Nat) (hs : List Int) (w : World) (hn : n = hs.length) (hc : n ≤ maxLen) (hr : Sees w w.heap.size 1 A n (flat intC hs)) (hr2 : Sees w w.heap.size 1 A2 n (flat intC hs)) :
    Calls Try.prog 25 #[.slice A n c, .slice A2 n c2] w fun e w' => e = .returned (.bool true) ∧ Below w.heap.size w w' := by
  have HR := Lib.hid hr
  have HR2 := Lib.hid hr2
  have HN := Lib.hid hn
  clear hr hr2 hn
  unfold maxLen at hc
  go_enter Try.func25, Try.ntmps25
  go_wp2
  go_loopw [5] (fun i wr => ∃ k : Nat, k ≤ n ∧ i = .int .i64 k ∧ Below w.heap.size w wr) (fun i _ => n - (intOf i).toNat)
  case atStart => exact ⟨0, Nat.zero_le _, rfl, Below.refl _ _⟩
  case round =>
    obtain ⟨k, hk, rfl, hbel⟩ := hrel
    have HB := Lib.hid hbel
    clear hbel
    by_cases hlt : k < n
    · obtain ⟨b, off, rfl, hb, hcell⟩ := (HR.out.below HB.out (Nat.le_refl _)).2 (by omega)
      obtain ⟨b2, off2, rfl, hb2, hcell2⟩ := (HR2.out.below HB.out (Nat.le_refl _)).2 (by omega)
      obtain ⟨p, hp⟩ := get_of HN.out hlt
      have c0 := int_cell hcell hp
      have d0 := int_cell hcell2 hp
      clear hcell hb hp hcell2 hb2
      go_wp2
      go_quiet (fail)
      go_wp2
      go_roundw
      case rel => exact ⟨k + 1, by omega, by go_num, bdrewN HB.out _⟩
      case measure => simp [intOf]; omega
    · go_wp2
      go_ret
      exact ⟨rfl, HB.out⟩

end Go.Proofs.Ytmgjgmbdfkkagaa
