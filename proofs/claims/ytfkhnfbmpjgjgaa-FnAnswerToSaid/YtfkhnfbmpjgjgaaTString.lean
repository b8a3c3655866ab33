/- The contracts of the laws' helpers for lists of texts. -/
import Derived.Test.YtfkhnfbmpjgjgaaMark
import Derived.Test.YtfkhnfbmpjgjgaaLists
import Derived.Deep.RegionWith
import Derived.Deep.RegionHeld3
import Derived.Deep.QuietTactic
import Derived.BigQuiet
namespace Go.Proofs.Ytfkhnfbmpjgjgaa
open Go.RowKit
set_option linter.unusedVariables false

def strC (s : ByteArray) : List Value := [.string s]
theorem strC_len (s : ByteArray) : (strC s).length = 1 := rfl
theorem info_string : (Try.prog.info? 9).map (fun i => (i.zero, i.size, i.bytes)) = some (some (.string ⟨#[]⟩), 1, 16) := by kernel_rfl
theorem str_cell {w : World} {b off : Nat} {hs : List ByteArray} (hc : ∀ j u, (flat strC hs)[j]? = some u → w.cell? ⟨b, off + j, none⟩ = some u) {k : Nat} {p : ByteArray} (hk : hs[k]? = some p) : w.cell? ⟨b, off + k, none⟩ = some (.string p) := by
  have := hc (k * 1 + 0) _ (flat_get strC_len hs hk rfl)
  simpa using this

set_option maxHeartbeats 1000000 in
theorem tos_any (A : Option Addr) (n c : Nat) (hs : List ByteArray) (w : World) (hn : n = hs.length) (hc : n ≤ 16777216) (hr : Sees w w.heap.size 1 A n (flat strC hs)) :
    Calls Try.prog 34 #[.slice A n c] w fun e w' => e = .returned (.slice (some ⟨w.heap.size, 0, none⟩) n n) ∧ w'.ownsRow w.heap.size 9 1 (.slice (some ⟨w.heap.size, 0, none⟩) n n) n (flat strC hs) ∧ Below w.heap.size w w' := by
  obtain ⟨cs, hcs, hmk⟩ := made_row (P := Try.prog) 26 9 _ 1 16 Try.underlying26 info_string n (by omega) (by omega)
  have HR := Lib.hid hr
  have HN := Lib.hid hn
  have HO := Lib.hid (World.ownsRow_lit (base := w.heap.size) (e := 9) (size := 1) w cs n (Nat.le_refl _) (by unfold maxLen; omega) hcs)
  have HCS : Hid (cs.toList.length = n * 1) := Lib.hid (by simpa using hcs)
  clear hr hn hcs
  go_enter Try.func34, Try.ntmps34
  go_wp2
  clear hmk
  go_loopw [4] (fun i wr => ∃ k : Nat, ∃ ys : List Value, k ≤ n ∧ i = .int .i64 k ∧ ys.length = n * 1 ∧ ys.take (k * 1) = flat strC (hs.take k) ∧ wr.ownsRow w.heap.size 9 1 (.slice (some ⟨w.heap.size, 0, none⟩) n n) n ys ∧ Below w.heap.size w wr) (fun i _ => n - (intOf i).toNat)
  case atStart => exact ⟨0, _, Nat.zero_le _, rfl, HCS.out, rfl, HO.out, bnew _ _⟩
  case round =>
    obtain ⟨k, ys, hk, rfl, hy, ht, hown, hbel⟩ := hrel
    have HY := Lib.hid hy
    have HT := Lib.hid ht
    have HW := Lib.hid hown
    have HB := Lib.hid hbel
    clear hy ht hown hbel
    by_cases hlt : k < n
    · obtain ⟨b, off, rfl, hb, hcell⟩ := (HR.out.below HB.out (Nat.le_refl _)).2 (by omega)
      obtain ⟨p, hp⟩ := get_of HN.out hlt
      have HP := Lib.hid hp
      have c0 := str_cell hcell hp
      obtain ⟨u, d0⟩ := own_some HW.out (j := k) (by omega)
      have f0 := HW.out.frozenAt k
      clear hcell hb hp
      go_wp2
      go_roundw
      case rel =>
        have := fill_step strC_len HY.out HN.out HT.out HP.out
        simp only [Nat.mul_one, setAll, strC] at this
        exact ⟨k + 1, _, by omega, by go_num, by rw [this.1]; omega, by rw [Nat.mul_one]; exact this.2, (HW.out.stored k _).1, HB.out.setCell (Nat.le_refl _) _⟩
      case measure => simp [intOf]; omega
    · go_wp2
      go_ret
      refine ⟨rfl, ?_, HB.out⟩
      rw [← fill_end HY.out HN.out HT.out hlt hk]
      exact HW.out

/-- What is left behind a list was measured: nothing, or enough for it. -/
def SzP (left : Int) (ok : Prop) (w : World) (e : Ending) (w' : World) : Prop := ∃ v : Int, e = .returned (.int .i64 v) ∧ (v < 0 ∨ (0 ≤ v ∧ v ≤ left ∧ ok)) ∧ Below w.heap.size w w'
def strsOk (M : Int) (hs : List ByteArray) : Prop := (hs.length : Int) ≤ M ∧ ∀ s ∈ hs, (s.size : Int) ≤ M
theorem strsOk_mono {M M' : Int} {hs : List ByteArray} (h : M ≤ M') (ho : strsOk M hs) : strsOk M' hs := ⟨by have := ho.1; omega, fun s hs => by have := ho.2 s hs; omega⟩
def strsMax (hs : List ByteArray) : Prop := ∀ s ∈ hs, s.size ≤ maxLen
theorem mem_more {α : Type} {p : α → Prop} {hs : List α} {k : Nat} {a : α} (h : hs[k]? = some a) (h1 : ∀ s ∈ hs.take k, p s) (h2 : p a) : ∀ s ∈ hs.take (k + 1), p s := by
  rw [take_more h]
  intro s hs
  rw [List.mem_append, List.mem_singleton] at hs
  rcases hs with hs | rfl
  · exact h1 s hs
  · exact h2

set_option maxHeartbeats 1000000 in
theorem szs_any (A : Option Addr) (n c : Nat) (hs : List ByteArray) (left : Int) (w : World) (hn : n = hs.length) (hc : n ≤ maxLen) (hl0 : 0 ≤ left) (hl : left ≤ 1048576) (hr : Sees w w.heap.size 1 A n (flat strC hs)) (hm : strsMax hs) :
    Calls Try.prog 33 #[.slice A n c, .int .i64 left] w (SzP left (strsOk left hs) w) := by
  have HR := Lib.hid hr
  have HN := Lib.hid hn
  have HM := Lib.hid hm
  clear hr hn hm
  unfold maxLen at hc
  by_cases h1 : left - (n : Int) < 0
  · go_enter Try.func33, Try.ntmps33
    go_wp2
    go_ret
    exact ⟨_, rfl, .inl (by omega), Below.refl _ _⟩
  go_enter Try.func33, Try.ntmps33
  go_wp2
  go_loop [1, 5] (fun l i => ∃ k : Nat, ∃ v : Int, k ≤ n ∧ i = .int .i64 k ∧ l = .int .i64 v ∧ 0 ≤ v ∧ v ≤ left - n ∧ ∀ s ∈ hs.take k, (s.size : Int) ≤ left) (fun _ i => n - (intOf i).toNat)
  case atStart => exact ⟨0, _, Nat.zero_le _, rfl, rfl, by omega, by omega, fun s hs => by simp at hs⟩
  case round =>
    obtain ⟨k, v, hk, rfl, rfl, hv0, hv1, hall⟩ := hrel
    have HA := Lib.hid hall
    clear hall
    by_cases hlt : k < n
    · obtain ⟨b, off, rfl, hb, hcell⟩ := HR.out.2 (by omega)
      obtain ⟨p, hp⟩ := get_of HN.out hlt
      have HP := Lib.hid hp
      have c0 := str_cell hcell hp
      have hpm : p.size ≤ maxLen := HM.out p (List.mem_of_getElem? hp)
      unfold maxLen at hpm
      clear hcell hb hp
      by_cases h2 : v - (p.size : Int) < 0
      · go_wp2
        go_ret
        exact ⟨_, rfl, .inl (by omega), Below.refl _ _⟩
      · go_wp2
        go_round
        case rel => exact ⟨k + 1, _, by omega, by go_num, rfl, by omega, by omega, mem_more HP.out HA.out (by omega)⟩
        case measure => simp [intOf]; omega
    · go_wp2
      go_ret
      refine ⟨v, rfl, .inr ⟨hv0, by omega, ?_⟩, Below.refl _ _⟩
      have h3 := HA.out
      rw [take_all HN.out hlt] at h3
      exact ⟨by rw [← HN.out]; omega, h3⟩

set_option maxHeartbeats 1000000 in
theorem eqs_same (A A2 : Option Addr) (n c c2 : Nat) (hs : List ByteArray) (w : World) (hn : n = hs.length) (hc : n ≤ maxLen) (hr : Sees w w.heap.size 1 A n (flat strC hs)) (hr2 : Sees w w.heap.size 1 A2 n (flat strC hs)) :
    Calls Try.prog 29 #[.slice A n c, .slice A2 n c2] w fun e w' => e = .returned (.bool true) ∧ Below w.heap.size w w' := by
  have HR := Lib.hid hr
  have HR2 := Lib.hid hr2
  have HN := Lib.hid hn
  clear hr hr2 hn
  unfold maxLen at hc
  go_enter Try.func29, Try.ntmps29
  go_wp2
  go_loopw [5] (fun i wr => ∃ k : Nat, k ≤ n ∧ i = .int .i64 k ∧ Below w.heap.size w wr) (fun i _ => n - (intOf i).toNat)
  case atStart => exact ⟨0, Nat.zero_le _, rfl, Below.refl _ _⟩
  case round =>
    obtain ⟨k, hk, rfl, hbel⟩ := hrel
    have HB := Lib.hid hbel
    clear hbel
    by_cases hlt : k < n
    · obtain ⟨b, off, rfl, hb, hcell⟩ := (HR.out.below HB.out (Nat.le_refl _)).2 (by omega)
      obtain ⟨b2, off2, rfl, hb2, hcell2⟩ := (HR2.out.below HB.out (Nat.le_refl _)).2 (by omega)
      obtain ⟨p, hp⟩ := get_of HN.out hlt
      have c0 := str_cell hcell hp
      have d0 := str_cell hcell2 hp
      clear hcell hb hp hcell2 hb2
      go_wp2
      go_quiet (fail)
      go_wp2
      go_roundw
      case rel => exact ⟨k + 1, by omega, by go_num, bdrewN HB.out _⟩
      case measure => simp [intOf]; omega
    · go_wp2
      go_ret
      exact ⟨rfl, HB.out⟩

/-- The marks of a list of texts. -/
def strMk (k i : Nat) : List Value := [.string (mtxt (k + i))]
theorem strMk_len (k i : Nat) : (strMk k i).length = 1 := rfl

set_option maxHeartbeats 1000000 in
theorem marks_any (A : Option Addr) (n c base q : Nat) (xs : List Value) (w : World) (hc : n ≤ 16777216) (hq : 1 ≤ q) (hq2 : q ≤ 1000000000000) (ho : w.ownsRow base 9 1 (.slice A n c) n xs) :
    Calls Try.prog 31 #[.slice A n c, .int .i64 (q : Int)] w fun e w' => e = .returned (.int .i64 ((q : Int) + n)) ∧ w'.ownsRow base 9 1 (.slice A n c) n (flat (strMk q) (List.range n)) ∧ w.grownBy w' (Value.slice A n c).ownBlock := by
  have HO := Lib.hid ho
  clear ho
  go_enter Try.func31, Try.ntmps31
  go_wp2
  go_loopw [1, 5] (fun q' i wr => ∃ k : Nat, ∃ ys : List Value, k ≤ n ∧ i = .int .i64 k ∧ q' = .int .i64 ((q : Int) + k) ∧ ys.length = n * 1 ∧ ys.take (k * 1) = flat (strMk q) ((List.range n).take k) ∧ wr.ownsRow base 9 1 (.slice A n c) n ys ∧ w.grownBy wr (Value.slice A n c).ownBlock) (fun _ i _ => n - (intOf i).toNat)
  case atStart => exact ⟨0, xs, Nat.zero_le _, rfl, by simp, HO.out.1, rfl, HO.out, grefl _ _⟩
  case round =>
    obtain ⟨k, ys, hk, rfl, rfl, hy, ht, hown, hg⟩ := hrel
    have HY := Lib.hid hy
    have HT := Lib.hid ht
    have HW := Lib.hid hown
    have HG := Lib.hid hg
    clear hy ht hown hg
    by_cases hlt : k < n
    · obtain ⟨g, hA, hg1, hg2⟩ := own_form HW.out (by omega)
      subst hA
      go_wp2_with fail
      refine (mark_int ((q : Int) + k) (q + k) _ (by omega) (by omega) (by omega)).mono ?_
      rintro e w1 ⟨rfl, hb1⟩
      have HW1 := Lib.hid (own_call HW.out hb1)
      have HG1 := Lib.hid (gbelow HG.out hb1)
      obtain ⟨u, d0⟩ := own_some HW1.out (j := k) (by omega)
      have f0 := HW1.out.frozenAt k
      clear hb1
      go_wp2
      go_roundw
      case rel =>
        have hst := HW1.out.stored k (.string (mtxt (q + k)))
        have := fill_step (strMk_len q) HY.out (by simp) HT.out (show (List.range n)[k]? = some k by simp [hlt])
        simp only [Nat.mul_one, setAll, strMk] at this
        exact ⟨k + 1, _, by omega, by go_num, by go_num, by rw [this.1]; omega, by rw [Nat.mul_one]; exact this.2, hst.1, gtrans HG1.out hst.2⟩
      case measure => simp [intOf]; omega
    · go_wp2
      go_ret
      obtain rfl : k = n := by omega
      refine ⟨rfl, ?_, HG.out⟩
      rw [← fill_end HY.out (by simp) HT.out hlt hk]
      exact HW.out

set_option maxHeartbeats 1000000 in
theorem helds_any (A : Option Addr) (n c q : Nat) (w : World) (hc : n ≤ 16777216) (hq : 1 ≤ q) (hq2 : q ≤ 1000000000000) (hr : Sees w w.heap.size 1 A n (flat (strMk q) (List.range n))) :
    Calls Try.prog 32 #[.slice A n c, .int .i64 (q : Int)] w fun e w' => e = .returned (.int .i64 ((q : Int) + n)) ∧ Below w.heap.size w w' := by
  have HR := Lib.hid hr
  clear hr
  go_enter Try.func32, Try.ntmps32
  go_wp2
  go_loopw [1, 5] (fun q' i wr => ∃ k : Nat, k ≤ n ∧ i = .int .i64 k ∧ q' = .int .i64 ((q : Int) + k) ∧ Below w.heap.size w wr) (fun _ i _ => n - (intOf i).toNat)
  case atStart => exact ⟨0, Nat.zero_le _, rfl, by simp, Below.refl _ _⟩
  case round =>
    obtain ⟨k, hk, rfl, rfl, hbel⟩ := hrel
    have HB := Lib.hid hbel
    clear hbel
    by_cases hlt : k < n
    · obtain ⟨b, off, rfl, hb, hcell⟩ := (HR.out.below HB.out (Nat.le_refl _)).2 (by omega)
      have c0 := hcell (k * 1 + 0) _ (flat_get (strMk_len q) (List.range n) (show (List.range n)[k]? = some k by simp [hlt]) rfl)
      simp only [Nat.mul_one, Nat.add_zero] at c0
      have hbw : b < wr.heap.size := Nat.lt_of_lt_of_le hb HB.out.size
      clear hcell hb
      go_wp2
      go_region_with (go_at_call 72; refine (mark_int ((q : Int) + k) (q + k) _ (by omega) (by omega) (by omega)).mono ?_; rintro e w1 ⟨rfl, hb1⟩; have c1 : w1.cell? ⟨b, off + k, none⟩ = some (.string (mtxt (q + k))) := (hb1.cell (p := ⟨b, off + k, none⟩) hbw).trans c0; have HB1 := Lib.hid ((bdrew HB.out).trans (hb1.mono HB.out.size)); clear hb1)
      all_goals
        go_wp2
        go_roundw
        case rel => exact ⟨k + 1, by omega, by go_num, by go_num, HB1.out⟩
        case measure => simp [intOf]; omega
    · go_wp2
      go_ret
      obtain rfl : k = n := by omega
      exact ⟨rfl, HB.out⟩
end Go.Proofs.Ytfkhnfbmpjgjgaa
