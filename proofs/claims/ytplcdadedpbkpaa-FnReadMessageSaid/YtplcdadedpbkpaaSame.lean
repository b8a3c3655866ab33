/- The laws' helpers that hold lists of texts, of heads, and messages, against each other. -/
import Derived.Test.YtplcdadedpbkpaaTHead
import Derived.Test.YtplcdadedpbkpaaTString
import Derived.Test.YtplcdadedpbkpaaGr
import Derived.Deep.QuietTactic
import Derived.BigQuiet
namespace Go.Proofs.Ytplcdadedpbkpaa
open Go.RowKit
set_option linter.unusedVariables false
set_option maxRecDepth 20000

set_option maxHeartbeats 1000000 in
theorem sameTexts_same (A A2 : Option Addr) (n c c2 : Nat) (hs : List ByteArray) (w : World) (hn : n = hs.length) (hc : n ≤ maxLen) (hr : Sees w w.heap.size 1 A n (flat strC hs)) (hr2 : Sees w w.heap.size 1 A2 n (flat strC hs)) :
    Calls Try.prog 10 #[.slice A n c, .slice A2 n c2] w fun e w' => e = .returned (.bool true) ∧ Below w.heap.size w w' := by
  have HR := Lib.hid hr
  have HR2 := Lib.hid hr2
  have HN := Lib.hid hn
  clear hr hr2 hn
  unfold maxLen at hc
  go_enter Try.func10, Try.ntmps10
  go_wp2
  go_loopw [5] (fun i wr => ∃ k : Nat, k ≤ n ∧ i = .int .i64 k ∧ Below w.heap.size w wr) (fun i _ => n - (intOf i).toNat)
  case atStart => exact ⟨0, Nat.zero_le _, rfl, Below.refl _ _⟩
  case round =>
    obtain ⟨k, hk, rfl, hbel⟩ := hrel
    have HB := Lib.hid hbel
    clear hbel
    by_cases hlt : k < n
    · obtain ⟨b, off, rfl, hb, hcell⟩ := (HR.out.below HB.out (Nat.le_refl _)).2 (by omega)
      obtain ⟨b2, off2, rfl, hb2, hcell2⟩ := (HR2.out.below HB.out (Nat.le_refl _)).2 (by omega)
      obtain ⟨p, hp⟩ := get_of HN.out hlt
      have c0 := str_cell hcell hp
      have d0 := str_cell hcell2 hp
      clear hcell hb hp hcell2 hb2
      go_wp2
      go_quiet (fail)
      go_wp2
      go_roundw
      case rel => exact ⟨k + 1, by omega, by go_num, bdrewN HB.out _⟩
      case measure => simp [intOf]; omega
    · go_wp2
      go_ret
      exact ⟨rfl, HB.out⟩
theorem sameTexts_len (A A2 : Option Addr) (n m c c2 : Nat) (w : World) (hn : ¬ n = m) :
    Calls Try.prog 10 #[.slice A n c, .slice A2 m c2] w fun e w' => e = .returned (.bool false) ∧ w = w' := by
  have h1 : ((n : Int) == (m : Int)) = false := beq_eq_false_iff_ne.mpr (by omega)
  have h2 : ((n : Int) != (m : Int)) = true := bne_iff_ne.mpr (by omega)
  have h3 : ¬ (n : Int) = (m : Int) := by omega
  go_enter Try.func10, Try.ntmps10
  go_wp2
  go_ret
  exact ⟨rfl, rfl⟩

set_option maxHeartbeats 1000000 in
theorem sameHeads_same (A A2 : Option Addr) (n c c2 : Nat) (hs : List HeadM) (w : World) (hn : n = hs.length) (hc : n ≤ maxLen) (hr : Sees w w.heap.size 2 A n (flat headC hs)) (hr2 : Sees w w.heap.size 2 A2 n (flat headC hs)) :
    Calls Try.prog 27 #[.slice A n c, .slice A2 n c2] w fun e w' => e = .returned (.bool true) ∧ Below w.heap.size w w' := by
  have HR := Lib.hid hr
  have HR2 := Lib.hid hr2
  have HN := Lib.hid hn
  clear hr hr2 hn
  unfold maxLen at hc
  go_enter Try.func27, Try.ntmps27
  go_wp2
  go_loopw [5] (fun i wr => ∃ k : Nat, k ≤ n ∧ i = .int .i64 k ∧ Below w.heap.size w wr) (fun i _ => n - (intOf i).toNat)
  case atStart => exact ⟨0, Nat.zero_le _, rfl, Below.refl _ _⟩
  case round =>
    obtain ⟨k, hk, rfl, hbel⟩ := hrel
    have HB := Lib.hid hbel
    clear hbel
    by_cases hlt : k < n
    · obtain ⟨b, off, rfl, hb, hcell⟩ := (HR.out.below HB.out (Nat.le_refl _)).2 (by omega)
      obtain ⟨b2, off2, rfl, hb2, hcell2⟩ := (HR2.out.below HB.out (Nat.le_refl _)).2 (by omega)
      obtain ⟨p, hp⟩ := get_of HN.out hlt
      obtain ⟨c0, c1⟩ := head_cells hcell hp
      obtain ⟨d0, d1⟩ := head_cells hcell2 hp
      clear hcell hb hp hcell2 hb2
      go_wp2
      go_quiet (fail)
      go_wp2
      go_roundw
      case rel => exact ⟨k + 1, by omega, by go_num, bdrewN HB.out _⟩
      case measure => simp [intOf]; omega
    · go_wp2
      go_ret
      exact ⟨rfl, HB.out⟩
theorem sameHeads_len (A A2 : Option Addr) (n m c c2 : Nat) (w : World) (hn : ¬ n = m) :
    Calls Try.prog 27 #[.slice A n c, .slice A2 m c2] w fun e w' => e = .returned (.bool false) ∧ w = w' := by
  have h1 : ((n : Int) == (m : Int)) = false := beq_eq_false_iff_ne.mpr (by omega)
  have h2 : ((n : Int) != (m : Int)) = true := bne_iff_ne.mpr (by omega)
  have h3 : ¬ (n : Int) = (m : Int) := by omega
  go_enter Try.func27, Try.ntmps27
  go_wp2
  go_ret
  exact ⟨rfl, rfl⟩

set_option maxHeartbeats 4000000 in
theorem sameMessage_same (x0 x1 x2 : ByteArray) (x3 : Int) (A4 : Option Addr) (n4 c4 : Nat) (h4 : List HeadM) (A5 : Option Addr) (n5 c5 : Nat) (h5 : List ByteArray) (B4 : Option Addr) (d4 : Nat) (B5 : Option Addr) (d5 : Nat) (w : World) (hn4 : n4 = h4.length) (hc4 : n4 ≤ maxLen) (hn5 : n5 = h5.length) (hc5 : n5 ≤ maxLen)
    (hr4 : Sees w w.heap.size 2 A4 n4 (flat headC h4)) (hs4 : Sees w w.heap.size 2 B4 n4 (flat headC h4)) (hr5 : Sees w w.heap.size 1 A5 n5 (flat strC h5)) (hs5 : Sees w w.heap.size 1 B5 n5 (flat strC h5)) :
    Calls Try.prog 7 #[.agg #[.string x0, .string x1, .string x2, .int .i64 x3, .slice A4 n4 c4, .slice A5 n5 c5], .agg #[.string x0, .string x1, .string x2, .int .i64 x3, .slice B4 n4 d4, .slice B5 n5 d5]] w fun e w' => e = .returned (.bool true) ∧ Below w.heap.size w w' := by
  have HR4 := Lib.hid hr4
  have HS4 := Lib.hid hs4
  have HN4 := Lib.hid hn4
  have HC4 := Lib.hid hc4
  have HR5 := Lib.hid hr5
  have HS5 := Lib.hid hs5
  have HN5 := Lib.hid hn5
  have HC5 := Lib.hid hc5
  clear hr4 hs4 hn4 hc4 hr5 hs5 hn5 hc5
  go_enter Try.func7, Try.ntmps7
  have BX0 := Lib.hid ((Holds.new w 29 #[.string x0, .string x1, .string x2, .int .i64 x3, .slice A4 n4 c4, .slice A5 n5 c5]).alloc (.cells #[.string x0, .string x1, .string x2, .int .i64 x3, .slice B4 n4 d4, .slice B5 n5 d5] 29))
  have BY0 := Lib.hid (Holds.new' (g := w.heap.size + 1) (w.alloc (.cells #[.string x0, .string x1, .string x2, .int .i64 x3, .slice A4 n4 c4, .slice A5 n5 c5] 29)) 29 #[.string x0, .string x1, .string x2, .int .i64 x3, .slice B4 n4 d4, .slice B5 n5 d5] (by simp))
  have HB0 := Lib.hid (balloc (bnew w (.cells #[.string x0, .string x1, .string x2, .int .i64 x3, .slice A4 n4 c4, .slice A5 n5 c5] 29)) (.cells #[.string x0, .string x1, .string x2, .int .i64 x3, .slice B4 n4 d4, .slice B5 n5 d5] 29))
  go_wp2_with fail
  refine (sameHeads_same A4 B4 n4 c4 d4 h4 _ HN4.out HC4.out ((HR4.out.below HB0.out (Nat.le_refl _)).more HB0.out.size) ((HS4.out.below HB0.out (Nat.le_refl _)).more HB0.out.size)).mono ?_
  rintro e w1 ⟨rfl, hb1⟩
  have BX1 := Lib.hid (BX0.out.call hb1)
  have BY1 := Lib.hid (BY0.out.call hb1)
  have HB1 := Lib.hid (btrans HB0.out hb1)
  clear hb1
  have c5q := BX1.out.cell 5 _ rfl
  have e5q := BY1.out.cell 5 _ rfl
  go_wp2_with fail
  refine (sameTexts_same A5 B5 n5 c5 d5 h5 _ HN5.out HC5.out ((HR5.out.below HB1.out (Nat.le_refl _)).more HB1.out.size) ((HS5.out.below HB1.out (Nat.le_refl _)).more HB1.out.size)).mono ?_
  rintro e w2 ⟨rfl, hb2⟩
  have HB2 := Lib.hid (btrans HB1.out hb2)
  clear hb2
  go_wp2
  go_ret
  exact ⟨rfl, HB2.out⟩
end Go.Proofs.Ytplcdadedpbkpaa
