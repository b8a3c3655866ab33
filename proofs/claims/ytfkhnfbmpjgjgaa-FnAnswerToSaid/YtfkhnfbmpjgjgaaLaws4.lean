/- The walks of the exact laws of chapter 4. -/
import Derived.Test.YtfkhnfbmpjgjgaaIMsg
import Derived.Test.YtfkhnfbmpjgjgaaTMessage
import Derived.Deep.RegionHeld3
namespace Go.Proofs.Ytfkhnfbmpjgjgaa
open Go.RowKit
set_option linter.unusedVariables false
set_option maxRecDepth 20000

theorem msg_few {p : MsgM} (h : msgB p = true) : p.h.length ≤ 8 ∧ p.b.length ≤ 8 := ⟨headsB_len (msgB_parts h).2.1, (msgB_parts h).2.2.1⟩
theorem msgL_few (p : MsgM) : (msgL p).length ≤ 18 := by
  unfold msgL
  by_cases hv : msgB p = true
  · rw [if_pos hv]
    have := msg_few hv
    simp
    omega
  · rw [if_neg hv]; exact Nat.zero_le _
theorem rmM_few (ls : List ByteArray) : (rmM ls).h.length ≤ 8 ∧ (rmM ls).b.length ≤ 8 := by
  unfold rmM
  by_cases hv : rmB ls = true
  · rw [if_pos hv]
    unfold rmB saidB at hv
    simp only [Bool.and_eq_true] at hv
    exact msg_few hv.2.2
  · rw [if_neg hv]; exact ⟨Nat.zero_le _, Nat.zero_le _⟩
theorem ansR_few (p : MsgM) (cd : Int) : (ansR p cd).h.length ≤ 8 ∧ (ansR p cd).b.length ≤ 8 := by
  unfold ansR
  by_cases hv : ansOk p cd = true
  · rw [if_pos hv]
    unfold ansOk at hv
    simp only [Bool.and_eq_true] at hv
    have h1 := (msg_few hv.1.1).1
    have h2 := List.length_filter_le viaB p.h
    exact ⟨by show (p.h.filter viaB).length ≤ 8; omega, Nat.zero_le _⟩
  · rw [if_neg hv]; exact ⟨Nat.zero_le _, Nat.zero_le _⟩

set_option maxHeartbeats 8000000 in
theorem walk_FnExactMessageValid (x0_0 : ByteArray) (w0_0 : x0_0.size ≤ maxLen) (x0_1 : ByteArray) (w0_1 : x0_1.size ≤ maxLen) (x0_2 : ByteArray) (w0_2 : x0_2.size ≤ maxLen) (x0_3 : Int) (w0_3 : (Lit.int .i64 x0_3).wf = true) (A0_4 : Option Addr) (n0_4 c0_4 : Nat) (h0_4 : List HeadM) (hn0_4 : n0_4 = h0_4.length) (hc0_4 : n0_4 ≤ maxLen) (hm0_4 : headMax h0_4) (A0_5 : Option Addr) (n0_5 c0_5 : Nat) (h0_5 : List ByteArray) (hn0_5 : n0_5 = h0_5.length) (hc0_5 : n0_5 ≤ maxLen) (hm0_5 : strsMax h0_5) (w : World) (hr0_4 : Sees w w.heap.size 2 A0_4 n0_4 (flat headC h0_4)) (hr0_5 : Sees w w.heap.size 1 A0_5 n0_5 (flat strC h0_5)) :
    Calls Try.prog 7 #[.agg #[.string x0_0, .string x0_1, .string x0_2, .int .i64 x0_3, .slice A0_4 n0_4 c0_4, .slice A0_5 n0_5 c0_5]] w fun e w' => e = .returned (.bool true) ∧ Below w.heap.size w w' := by
  have W0_0q := Lib.hid w0_0
  have W0_1q := Lib.hid w0_1
  have W0_2q := Lib.hid w0_2
  have W0_3q := Lib.hid w0_3
  have HN0_4q := Lib.hid hn0_4
  have HC0_4q := Lib.hid hc0_4
  have HM0_4q := Lib.hid hm0_4
  have HR0_4q := Lib.hid hr0_4
  have HN0_5q := Lib.hid hn0_5
  have HC0_5q := Lib.hid hc0_5
  have HM0_5q := Lib.hid hm0_5
  have HR0_5q := Lib.hid hr0_5
  clear w0_0 w0_1 w0_2 w0_3 hn0_4 hc0_4 hm0_4 hr0_4 hn0_5 hc0_5 hm0_5 hr0_5
  go_enter Try.func7, Try.ntmps7
  go_wp2_with fail
  refine (szMessage_any x0_0 x0_1 x0_2 x0_3 A0_4 n0_4 c0_4 h0_4 A0_5 n0_5 c0_5 h0_5 1048576 _ (by omega) (by omega) W0_0q.out W0_1q.out W0_2q.out HN0_4q.out HC0_4q.out HM0_4q.out HN0_5q.out HC0_5q.out HM0_5q.out ((HR0_4q.out.below ((Below.refl w.heap.size w).alloc (by simp <;> omega) (.cells #[.string x0_0, .string x0_1, .string x0_2, .int .i64 x0_3, .slice A0_4 n0_4 c0_4, .slice A0_5 n0_5 c0_5] 47)) (Nat.le_refl _)).more ((Below.refl w.heap.size w).alloc (by simp <;> omega) (.cells #[.string x0_0, .string x0_1, .string x0_2, .int .i64 x0_3, .slice A0_4 n0_4 c0_4, .slice A0_5 n0_5 c0_5] 47)).size) ((HR0_5q.out.below ((Below.refl w.heap.size w).alloc (by simp <;> omega) (.cells #[.string x0_0, .string x0_1, .string x0_2, .int .i64 x0_3, .slice A0_4 n0_4 c0_4, .slice A0_5 n0_5 c0_5] 47)) (Nat.le_refl _)).more ((Below.refl w.heap.size w).alloc (by simp <;> omega) (.cells #[.string x0_0, .string x0_1, .string x0_2, .int .i64 x0_3, .slice A0_4 n0_4 c0_4, .slice A0_5 n0_5 c0_5] 47)).size)).mono ?_
  rintro e w1 ⟨v0, rfl, hv0, hb1⟩
  have hz1 := hb1.size
  simp at hz1
  have HB1 := Lib.hid (btrans ((Below.refl w.heap.size w).alloc (by simp <;> omega) (.cells #[.string x0_0, .string x0_1, .string x0_2, .int .i64 x0_3, .slice A0_4 n0_4 c0_4, .slice A0_5 n0_5 c0_5] 47)) hb1)
  have HVa0_1 := Lib.hid ((Holds.new w 47 #[.string x0_0, .string x0_1, .string x0_2, .int .i64 x0_3, .slice A0_4 n0_4 c0_4, .slice A0_5 n0_5 c0_5]).call hb1)
  clear hb1
  by_cases hneg0 : v0 < 0
  · clear hv0
    go_wp2
    go_ret
    exact ⟨rfl, HB1.out⟩
  obtain ⟨hv0a, hv0b, hv0c⟩ := hv0.resolve_left hneg0
  have OK0 := Lib.hid hv0c
  have hlen0_4 : n0_4 ≤ 1048576 := by have := (hv0c.2.2.2.1).1; have := HN0_4q.out; omega
  have hlen0_5 : n0_5 ≤ 1048576 := by have := (hv0c.2.2.2.2).1; have := HN0_5q.out; omega
  clear hv0 hv0c
  have qa0_0 := HVa0_1.out.cell 0 _ rfl
  have qa0_1 := HVa0_1.out.cell 1 _ rfl
  have qa0_2 := HVa0_1.out.cell 2 _ rfl
  have qa0_3 := HVa0_1.out.cell 3 _ rfl
  have qa0_4 := HVa0_1.out.cell 4 _ rfl
  have qa0_5 := HVa0_1.out.cell 5 _ rfl
  go_wp2_with fail
  refine (toMessage_any x0_0 x0_1 x0_2 x0_3 A0_4 n0_4 c0_4 h0_4 A0_5 n0_5 c0_5 h0_5 _ HN0_4q.out (by omega) HN0_5q.out (by omega) ((HR0_4q.out.below HB1.out (Nat.le_refl _)).more HB1.out.size) ((HR0_5q.out.below HB1.out (Nat.le_refl _)).more HB1.out.size)).mono ?_
  rintro e w2 ⟨gt04, gt05, rfl, hown2_4, hown2_5, hgs2, hb2⟩
  clear qa0_0 qa0_1 qa0_2 qa0_3 qa0_4 qa0_5
  have hz2 := hb2.size
  have HB2 := Lib.hid (btrans HB1.out hb2)
  have HVa0_2 := Lib.hid (HVa0_1.out.call hb2)
  have HOt0_4_2 := Lib.hid hown2_4
  have LOt0_4 := Lib.hid (own_rng hown2_4 (lo := w1.heap.size) (by simp <;> omega))
  have HOt0_5_2 := Lib.hid hown2_5
  have LOt0_5 := Lib.hid (own_rng hown2_5 (lo := w1.heap.size) (by simp <;> omega))
  clear hb2 hown2_4 hown2_5
  clear HB1 HVa0_1
  have HGSt0 := Lib.hid hgs2
  clear hgs2
  go_wp2_with fail
  refine (smv_any x0_0 x0_1 x0_2 x0_3 (some ⟨gt04, 0, none⟩) n0_4 n0_4 h0_4 (some ⟨gt05, 0, none⟩) n0_5 n0_5 h0_5 _ W0_0q.out W0_1q.out W0_2q.out HN0_4q.out (by unfold maxLen; omega) HM0_4q.out HN0_5q.out (by unfold maxLen; omega) HM0_5q.out (Sees.of_own HOt0_4_2.out) (Sees.of_own HOt0_5_2.out)).mono ?_
  rintro e w3 ⟨rfl, hb3⟩
  have hz3 := hb3.size
  have HB3 := Lib.hid (btrans HB2.out hb3)
  have HOt0_4_3 := Lib.hid (own_call HOt0_4_2.out hb3)
  have HOt0_5_3 := Lib.hid (own_call HOt0_5_2.out hb3)
  have HVa0_3 := Lib.hid (HVa0_2.out.call hb3)
  clear hb3
  clear HB2 HOt0_4_2 HOt0_5_2 HVa0_2
  have qa0_0 := HVa0_3.out.cell 0 _ rfl
  have qa0_1 := HVa0_3.out.cell 1 _ rfl
  have qa0_2 := HVa0_3.out.cell 2 _ rfl
  have qa0_3 := HVa0_3.out.cell 3 _ rfl
  have qa0_4 := HVa0_3.out.cell 4 _ rfl
  have qa0_5 := HVa0_3.out.cell 5 _ rfl
  go_wp2_with fail
  refine (toMessage_any x0_0 x0_1 x0_2 x0_3 A0_4 n0_4 c0_4 h0_4 A0_5 n0_5 c0_5 h0_5 _ HN0_4q.out (by omega) HN0_5q.out (by omega) ((HR0_4q.out.below HB3.out (Nat.le_refl _)).more HB3.out.size) ((HR0_5q.out.below HB3.out (Nat.le_refl _)).more HB3.out.size)).mono ?_
  rintro e w4 ⟨gx04, gx05, rfl, hown4_4, hown4_5, hgs4, hb4⟩
  clear qa0_0 qa0_1 qa0_2 qa0_3 qa0_4 qa0_5
  have hz4 := hb4.size
  have HB4 := Lib.hid (btrans HB3.out hb4)
  have HOt0_4_4 := Lib.hid (own_call HOt0_4_3.out hb4)
  have HOt0_5_4 := Lib.hid (own_call HOt0_5_3.out hb4)
  have HVa0_4 := Lib.hid (HVa0_3.out.call hb4)
  have HOx0_4_4 := Lib.hid hown4_4
  have LOx0_4 := Lib.hid (own_rng hown4_4 (lo := w3.heap.size) (by simp <;> omega))
  have HOx0_5_4 := Lib.hid hown4_5
  have LOx0_5 := Lib.hid (own_rng hown4_5 (lo := w3.heap.size) (by simp <;> omega))
  clear hb4 hown4_4 hown4_5
  clear HB3 HOt0_4_3 HOt0_5_3 HVa0_3
  have HGSx0 := Lib.hid hgs4
  clear hgs4
  have qx0_0 := (Holds.new w4 28 #[.string x0_0, .string x0_1, .string x0_2, .int .i64 x0_3, .slice (some ⟨gx04, 0, none⟩) n0_4 n0_4, .slice (some ⟨gx05, 0, none⟩) n0_5 n0_5]).cell 0 _ rfl
  have qx0_1 := (Holds.new w4 28 #[.string x0_0, .string x0_1, .string x0_2, .int .i64 x0_3, .slice (some ⟨gx04, 0, none⟩) n0_4 n0_4, .slice (some ⟨gx05, 0, none⟩) n0_5 n0_5]).cell 1 _ rfl
  have qx0_2 := (Holds.new w4 28 #[.string x0_0, .string x0_1, .string x0_2, .int .i64 x0_3, .slice (some ⟨gx04, 0, none⟩) n0_4 n0_4, .slice (some ⟨gx05, 0, none⟩) n0_5 n0_5]).cell 2 _ rfl
  have qx0_3 := (Holds.new w4 28 #[.string x0_0, .string x0_1, .string x0_2, .int .i64 x0_3, .slice (some ⟨gx04, 0, none⟩) n0_4 n0_4, .slice (some ⟨gx05, 0, none⟩) n0_5 n0_5]).cell 3 _ rfl
  have qx0_4 := (Holds.new w4 28 #[.string x0_0, .string x0_1, .string x0_2, .int .i64 x0_3, .slice (some ⟨gx04, 0, none⟩) n0_4 n0_4, .slice (some ⟨gx05, 0, none⟩) n0_5 n0_5]).cell 4 _ rfl
  have qx0_5 := (Holds.new w4 28 #[.string x0_0, .string x0_1, .string x0_2, .int .i64 x0_3, .slice (some ⟨gx04, 0, none⟩) n0_4 n0_4, .slice (some ⟨gx05, 0, none⟩) n0_5 n0_5]).cell 5 _ rfl
  go_wp2_with fail
  refine (imv_any x0_0 x0_1 x0_2 x0_3 (some ⟨gx04, 0, none⟩) n0_4 n0_4 h0_4 (some ⟨gx05, 0, none⟩) n0_5 n0_5 h0_5 _ W0_0q.out W0_1q.out W0_2q.out HN0_4q.out (by unfold maxLen; omega) HM0_4q.out HN0_5q.out (by unfold maxLen; omega) HM0_5q.out (Sees.of_own (HOx0_4_4.out.alloc (.cells #[.string x0_0, .string x0_1, .string x0_2, .int .i64 x0_3, .slice (some ⟨gx04, 0, none⟩) n0_4 n0_4, .slice (some ⟨gx05, 0, none⟩) n0_5 n0_5] 28))) (Sees.of_own (HOx0_5_4.out.alloc (.cells #[.string x0_0, .string x0_1, .string x0_2, .int .i64 x0_3, .slice (some ⟨gx04, 0, none⟩) n0_4 n0_4, .slice (some ⟨gx05, 0, none⟩) n0_5 n0_5] 28)))).mono ?_
  rintro e w5 ⟨rfl, hb5⟩
  clear qx0_0 qx0_1 qx0_2 qx0_3 qx0_4 qx0_5
  have hz5 := hb5.size
  simp at hz5
  have HB5 := Lib.hid (btrans (balloc HB4.out (.cells #[.string x0_0, .string x0_1, .string x0_2, .int .i64 x0_3, .slice (some ⟨gx04, 0, none⟩) n0_4 n0_4, .slice (some ⟨gx05, 0, none⟩) n0_5 n0_5] 28)) hb5)
  have HOt0_4_5 := Lib.hid (own_call (HOt0_4_4.out.alloc (.cells #[.string x0_0, .string x0_1, .string x0_2, .int .i64 x0_3, .slice (some ⟨gx04, 0, none⟩) n0_4 n0_4, .slice (some ⟨gx05, 0, none⟩) n0_5 n0_5] 28)) hb5)
  have HOt0_5_5 := Lib.hid (own_call (HOt0_5_4.out.alloc (.cells #[.string x0_0, .string x0_1, .string x0_2, .int .i64 x0_3, .slice (some ⟨gx04, 0, none⟩) n0_4 n0_4, .slice (some ⟨gx05, 0, none⟩) n0_5 n0_5] 28)) hb5)
  have HOx0_4_5 := Lib.hid (own_call (HOx0_4_4.out.alloc (.cells #[.string x0_0, .string x0_1, .string x0_2, .int .i64 x0_3, .slice (some ⟨gx04, 0, none⟩) n0_4 n0_4, .slice (some ⟨gx05, 0, none⟩) n0_5 n0_5] 28)) hb5)
  have HOx0_5_5 := Lib.hid (own_call (HOx0_5_4.out.alloc (.cells #[.string x0_0, .string x0_1, .string x0_2, .int .i64 x0_3, .slice (some ⟨gx04, 0, none⟩) n0_4 n0_4, .slice (some ⟨gx05, 0, none⟩) n0_5 n0_5] 28)) hb5)
  have HVa0_5 := Lib.hid ((HVa0_4.out.alloc (.cells #[.string x0_0, .string x0_1, .string x0_2, .int .i64 x0_3, .slice (some ⟨gx04, 0, none⟩) n0_4 n0_4, .slice (some ⟨gx05, 0, none⟩) n0_5 n0_5] 28)).call hb5)
  have HVx0_5 := Lib.hid ((Holds.new w4 28 #[.string x0_0, .string x0_1, .string x0_2, .int .i64 x0_3, .slice (some ⟨gx04, 0, none⟩) n0_4 n0_4, .slice (some ⟨gx05, 0, none⟩) n0_5 n0_5]).call hb5)
  clear hb5
  clear HB4 HOt0_4_4 HOt0_5_4 HOx0_4_4 HOx0_5_4 HVa0_4
  have qa0_0 := HVa0_5.out.cell 0 _ rfl
  have qa0_1 := HVa0_5.out.cell 1 _ rfl
  have qa0_2 := HVa0_5.out.cell 2 _ rfl
  have qa0_3 := HVa0_5.out.cell 3 _ rfl
  have qa0_4 := HVa0_5.out.cell 4 _ rfl
  have qa0_5 := HVa0_5.out.cell 5 _ rfl
  have qx0_0 := HVx0_5.out.cell 0 _ rfl
  have qx0_1 := HVx0_5.out.cell 1 _ rfl
  have qx0_2 := HVx0_5.out.cell 2 _ rfl
  have qx0_3 := HVx0_5.out.cell 3 _ rfl
  have qx0_4 := HVx0_5.out.cell 4 _ rfl
  have qx0_5 := HVx0_5.out.cell 5 _ rfl
  go_wp2
  go_region_held3 (fun w' => w'.cell? ⟨w.heap.size, 0, none⟩ = some (.string x0_0) ∧ w'.cell? ⟨w.heap.size, 1, none⟩ = some (.string x0_1) ∧ w'.cell? ⟨w.heap.size, 2, none⟩ = some (.string x0_2) ∧ w'.cell? ⟨w.heap.size, 3, none⟩ = some (.int .i64 x0_3) ∧ w'.cell? ⟨w.heap.size, 4, none⟩ = some (.slice A0_4 n0_4 c0_4) ∧ w'.cell? ⟨w.heap.size, 5, none⟩ = some (.slice A0_5 n0_5 c0_5) ∧ w'.cell? ⟨w4.heap.size, 0, none⟩ = some (.string x0_0) ∧ w'.cell? ⟨w4.heap.size, 1, none⟩ = some (.string x0_1) ∧ w'.cell? ⟨w4.heap.size, 2, none⟩ = some (.string x0_2) ∧ w'.cell? ⟨w4.heap.size, 3, none⟩ = some (.int .i64 x0_3) ∧ w'.cell? ⟨w4.heap.size, 4, none⟩ = some (.slice (some ⟨gx04, 0, none⟩) n0_4 n0_4) ∧ w'.cell? ⟨w4.heap.size, 5, none⟩ = some (.slice (some ⟨gx05, 0, none⟩) n0_5 n0_5))
    (first | exact ⟨HVa0_7.out.cell 0 _ rfl, HVa0_7.out.cell 1 _ rfl, HVa0_7.out.cell 2 _ rfl, HVa0_7.out.cell 3 _ rfl, HVa0_7.out.cell 4 _ rfl, HVa0_7.out.cell 5 _ rfl, HVx0_7.out.cell 0 _ rfl, HVx0_7.out.cell 1 _ rfl, HVx0_7.out.cell 2 _ rfl, HVx0_7.out.cell 3 _ rfl, HVx0_7.out.cell 4 _ rfl, HVx0_7.out.cell 5 _ rfl⟩ | exact ⟨HVa0_6.out.cell 0 _ rfl, HVa0_6.out.cell 1 _ rfl, HVa0_6.out.cell 2 _ rfl, HVa0_6.out.cell 3 _ rfl, HVa0_6.out.cell 4 _ rfl, HVa0_6.out.cell 5 _ rfl, HVx0_6.out.cell 0 _ rfl, HVx0_6.out.cell 1 _ rfl, HVx0_6.out.cell 2 _ rfl, HVx0_6.out.cell 3 _ rfl, HVx0_6.out.cell 4 _ rfl, HVx0_6.out.cell 5 _ rfl⟩ | exact ⟨HVa0_5.out.drew.cell 0 _ rfl, HVa0_5.out.drew.cell 1 _ rfl, HVa0_5.out.drew.cell 2 _ rfl, HVa0_5.out.drew.cell 3 _ rfl, HVa0_5.out.drew.cell 4 _ rfl, HVa0_5.out.drew.cell 5 _ rfl, HVx0_5.out.drew.cell 0 _ rfl, HVx0_5.out.drew.cell 1 _ rfl, HVx0_5.out.drew.cell 2 _ rfl, HVx0_5.out.drew.cell 3 _ rfl, HVx0_5.out.drew.cell 4 _ rfl, HVx0_5.out.drew.cell 5 _ rfl⟩)
    (first
      | (go_at_call 27; refine (toMessage_any x0_0 x0_1 x0_2 x0_3 A0_4 n0_4 c0_4 h0_4 A0_5 n0_5 c0_5 h0_5 _ HN0_4q.out (by omega) HN0_5q.out (by omega) ((HR0_4q.out.below (bdrew HB5.out) (Nat.le_refl _)).more (bdrew HB5.out).size) ((HR0_5q.out.below (bdrew HB5.out) (Nat.le_refl _)).more (bdrew HB5.out).size)).mono ?_; rintro e w6 ⟨gy04, gy05, rfl, hown6_4, hown6_5, hgs6, hb6⟩; have HB6 := Lib.hid (btrans (bdrew HB5.out) hb6); have HOt0_4_6 := Lib.hid (own_call HOt0_4_5.out.drew hb6); have HOt0_5_6 := Lib.hid (own_call HOt0_5_5.out.drew hb6); have HOx0_4_6 := Lib.hid (own_call HOx0_4_5.out.drew hb6); have HOx0_5_6 := Lib.hid (own_call HOx0_5_5.out.drew hb6); have HVa0_6 := Lib.hid (HVa0_5.out.drew.call hb6); have HVx0_6 := Lib.hid (HVx0_5.out.drew.call hb6); have HOy0_4_6 := Lib.hid hown6_4; have HOy0_5_6 := Lib.hid hown6_5; have hz6 := hb6.size; simp at hz6; clear hb6 hgs6 hown6_4 hown6_5)
      | (go_at_call 28; refine (eqMessage_same x0_0 x0_1 x0_2 x0_3 (some ⟨gx04, 0, none⟩) n0_4 n0_4 h0_4 (some ⟨gx05, 0, none⟩) n0_5 n0_5 h0_5 (some ⟨gy04, 0, none⟩) n0_4 (some ⟨gy05, 0, none⟩) n0_5 _ HN0_4q.out (by unfold maxLen; omega) HN0_5q.out (by unfold maxLen; omega) (Sees.of_own HOx0_4_6.out) (Sees.of_own HOy0_4_6.out) (Sees.of_own HOx0_5_6.out) (Sees.of_own HOy0_5_6.out)).mono ?_; rintro e w7 ⟨rfl, hb7⟩; have HB7 := Lib.hid (btrans HB6.out hb7); have HOt0_4_7 := Lib.hid (own_call HOt0_4_6.out hb7); have HOt0_5_7 := Lib.hid (own_call HOt0_5_6.out hb7); have HOx0_4_7 := Lib.hid (own_call HOx0_4_6.out hb7); have HOx0_5_7 := Lib.hid (own_call HOx0_5_6.out hb7); have HVa0_7 := Lib.hid (HVa0_6.out.call hb7); have HVx0_7 := Lib.hid (HVx0_6.out.call hb7); have hz7 := hb7.size; clear hb7))
  clear qa0_0 qa0_1 qa0_2 qa0_3 qa0_4 qa0_5 qx0_0 qx0_1 qx0_2 qx0_3 qx0_4 qx0_5
  clear HB6 HOt0_4_6 HOt0_5_6 HOx0_4_6 HOx0_5_6 HOy0_4_6 HOy0_5_6 HVa0_6 HVx0_6 HB5 HOt0_4_5 HOt0_5_5 HOx0_4_5 HOx0_5_5 HVa0_5 HVx0_5
  go_wp2
  go_ret
  exact ⟨rfl, HB7.out⟩

set_option maxHeartbeats 8000000 in
theorem walk_FnExactMessageLines (x0_0 : ByteArray) (w0_0 : x0_0.size ≤ maxLen) (x0_1 : ByteArray) (w0_1 : x0_1.size ≤ maxLen) (x0_2 : ByteArray) (w0_2 : x0_2.size ≤ maxLen) (x0_3 : Int) (w0_3 : (Lit.int .i64 x0_3).wf = true) (A0_4 : Option Addr) (n0_4 c0_4 : Nat) (h0_4 : List HeadM) (hn0_4 : n0_4 = h0_4.length) (hc0_4 : n0_4 ≤ maxLen) (hm0_4 : headMax h0_4) (A0_5 : Option Addr) (n0_5 c0_5 : Nat) (h0_5 : List ByteArray) (hn0_5 : n0_5 = h0_5.length) (hc0_5 : n0_5 ≤ maxLen) (hm0_5 : strsMax h0_5) (w : World) (hr0_4 : Sees w w.heap.size 2 A0_4 n0_4 (flat headC h0_4)) (hr0_5 : Sees w w.heap.size 1 A0_5 n0_5 (flat strC h0_5)) :
    Calls Try.prog 8 #[.agg #[.string x0_0, .string x0_1, .string x0_2, .int .i64 x0_3, .slice A0_4 n0_4 c0_4, .slice A0_5 n0_5 c0_5]] w fun e w' => e = .returned (.bool true) ∧ Below w.heap.size w w' := by
  have W0_0q := Lib.hid w0_0
  have W0_1q := Lib.hid w0_1
  have W0_2q := Lib.hid w0_2
  have W0_3q := Lib.hid w0_3
  have HN0_4q := Lib.hid hn0_4
  have HC0_4q := Lib.hid hc0_4
  have HM0_4q := Lib.hid hm0_4
  have HR0_4q := Lib.hid hr0_4
  have HN0_5q := Lib.hid hn0_5
  have HC0_5q := Lib.hid hc0_5
  have HM0_5q := Lib.hid hm0_5
  have HR0_5q := Lib.hid hr0_5
  clear w0_0 w0_1 w0_2 w0_3 hn0_4 hc0_4 hm0_4 hr0_4 hn0_5 hc0_5 hm0_5 hr0_5
  go_enter Try.func8, Try.ntmps8
  go_wp2_with fail
  refine (szMessage_any x0_0 x0_1 x0_2 x0_3 A0_4 n0_4 c0_4 h0_4 A0_5 n0_5 c0_5 h0_5 1048576 _ (by omega) (by omega) W0_0q.out W0_1q.out W0_2q.out HN0_4q.out HC0_4q.out HM0_4q.out HN0_5q.out HC0_5q.out HM0_5q.out ((HR0_4q.out.below ((Below.refl w.heap.size w).alloc (by simp <;> omega) (.cells #[.string x0_0, .string x0_1, .string x0_2, .int .i64 x0_3, .slice A0_4 n0_4 c0_4, .slice A0_5 n0_5 c0_5] 47)) (Nat.le_refl _)).more ((Below.refl w.heap.size w).alloc (by simp <;> omega) (.cells #[.string x0_0, .string x0_1, .string x0_2, .int .i64 x0_3, .slice A0_4 n0_4 c0_4, .slice A0_5 n0_5 c0_5] 47)).size) ((HR0_5q.out.below ((Below.refl w.heap.size w).alloc (by simp <;> omega) (.cells #[.string x0_0, .string x0_1, .string x0_2, .int .i64 x0_3, .slice A0_4 n0_4 c0_4, .slice A0_5 n0_5 c0_5] 47)) (Nat.le_refl _)).more ((Below.refl w.heap.size w).alloc (by simp <;> omega) (.cells #[.string x0_0, .string x0_1, .string x0_2, .int .i64 x0_3, .slice A0_4 n0_4 c0_4, .slice A0_5 n0_5 c0_5] 47)).size)).mono ?_
  rintro e w1 ⟨v0, rfl, hv0, hb1⟩
  have hz1 := hb1.size
  simp at hz1
  have HB1 := Lib.hid (btrans ((Below.refl w.heap.size w).alloc (by simp <;> omega) (.cells #[.string x0_0, .string x0_1, .string x0_2, .int .i64 x0_3, .slice A0_4 n0_4 c0_4, .slice A0_5 n0_5 c0_5] 47)) hb1)
  have HVa0_1 := Lib.hid ((Holds.new w 47 #[.string x0_0, .string x0_1, .string x0_2, .int .i64 x0_3, .slice A0_4 n0_4 c0_4, .slice A0_5 n0_5 c0_5]).call hb1)
  clear hb1
  by_cases hneg0 : v0 < 0
  · clear hv0
    go_wp2
    go_ret
    exact ⟨rfl, HB1.out⟩
  obtain ⟨hv0a, hv0b, hv0c⟩ := hv0.resolve_left hneg0
  have OK0 := Lib.hid hv0c
  have hlen0_4 : n0_4 ≤ 1048576 := by have := (hv0c.2.2.2.1).1; have := HN0_4q.out; omega
  have hlen0_5 : n0_5 ≤ 1048576 := by have := (hv0c.2.2.2.2).1; have := HN0_5q.out; omega
  clear hv0 hv0c
  have qa0_0 := HVa0_1.out.cell 0 _ rfl
  have qa0_1 := HVa0_1.out.cell 1 _ rfl
  have qa0_2 := HVa0_1.out.cell 2 _ rfl
  have qa0_3 := HVa0_1.out.cell 3 _ rfl
  have qa0_4 := HVa0_1.out.cell 4 _ rfl
  have qa0_5 := HVa0_1.out.cell 5 _ rfl
  go_wp2_with fail
  refine (toMessage_any x0_0 x0_1 x0_2 x0_3 A0_4 n0_4 c0_4 h0_4 A0_5 n0_5 c0_5 h0_5 _ HN0_4q.out (by omega) HN0_5q.out (by omega) ((HR0_4q.out.below HB1.out (Nat.le_refl _)).more HB1.out.size) ((HR0_5q.out.below HB1.out (Nat.le_refl _)).more HB1.out.size)).mono ?_
  rintro e w2 ⟨gt04, gt05, rfl, hown2_4, hown2_5, hgs2, hb2⟩
  clear qa0_0 qa0_1 qa0_2 qa0_3 qa0_4 qa0_5
  have hz2 := hb2.size
  have HB2 := Lib.hid (btrans HB1.out hb2)
  have HVa0_2 := Lib.hid (HVa0_1.out.call hb2)
  have HOt0_4_2 := Lib.hid hown2_4
  have LOt0_4 := Lib.hid (own_rng hown2_4 (lo := w1.heap.size) (by simp <;> omega))
  have HOt0_5_2 := Lib.hid hown2_5
  have LOt0_5 := Lib.hid (own_rng hown2_5 (lo := w1.heap.size) (by simp <;> omega))
  clear hb2 hown2_4 hown2_5
  clear HB1 HVa0_1
  have HGSt0 := Lib.hid hgs2
  clear hgs2
  go_wp2_with fail
  refine (sml_any x0_0 x0_1 x0_2 x0_3 (some ⟨gt04, 0, none⟩) n0_4 n0_4 h0_4 (some ⟨gt05, 0, none⟩) n0_5 n0_5 h0_5 _ W0_0q.out W0_1q.out W0_2q.out HN0_4q.out (by unfold maxLen; omega) HM0_4q.out HN0_5q.out (by unfold maxLen; omega) HM0_5q.out (Sees.of_own HOt0_4_2.out) (Sees.of_own HOt0_5_2.out)).mono ?_
  rintro e w3 ⟨Aw0, cw0, rfl, hown3, hb3⟩
  have hz3 := hb3.size
  have HB3 := Lib.hid (btrans HB2.out hb3)
  have HOt0_4_3 := Lib.hid (own_call HOt0_4_2.out hb3)
  have HOt0_5_3 := Lib.hid (own_call HOt0_5_2.out hb3)
  have HVa0_3 := Lib.hid (HVa0_2.out.call hb3)
  have HOw0_3 := Lib.hid hown3
  have LOw0 := Lib.hid (own_rng hown3 (lo := w2.heap.size) (by simp <;> omega))
  clear hb3 hown3
  clear HB2 HOt0_4_2 HOt0_5_2 HVa0_2
  have qa0_0 := HVa0_3.out.cell 0 _ rfl
  have qa0_1 := HVa0_3.out.cell 1 _ rfl
  have qa0_2 := HVa0_3.out.cell 2 _ rfl
  have qa0_3 := HVa0_3.out.cell 3 _ rfl
  have qa0_4 := HVa0_3.out.cell 4 _ rfl
  have qa0_5 := HVa0_3.out.cell 5 _ rfl
  go_wp2_with fail
  refine (toMessage_any x0_0 x0_1 x0_2 x0_3 A0_4 n0_4 c0_4 h0_4 A0_5 n0_5 c0_5 h0_5 _ HN0_4q.out (by omega) HN0_5q.out (by omega) ((HR0_4q.out.below HB3.out (Nat.le_refl _)).more HB3.out.size) ((HR0_5q.out.below HB3.out (Nat.le_refl _)).more HB3.out.size)).mono ?_
  rintro e w4 ⟨gx04, gx05, rfl, hown4_4, hown4_5, hgs4, hb4⟩
  clear qa0_0 qa0_1 qa0_2 qa0_3 qa0_4 qa0_5
  have hz4 := hb4.size
  have HB4 := Lib.hid (btrans HB3.out hb4)
  have HOt0_4_4 := Lib.hid (own_call HOt0_4_3.out hb4)
  have HOt0_5_4 := Lib.hid (own_call HOt0_5_3.out hb4)
  have HOw0_4 := Lib.hid (own_call HOw0_3.out hb4)
  have HVa0_4 := Lib.hid (HVa0_3.out.call hb4)
  have HOx0_4_4 := Lib.hid hown4_4
  have LOx0_4 := Lib.hid (own_rng hown4_4 (lo := w3.heap.size) (by simp <;> omega))
  have HOx0_5_4 := Lib.hid hown4_5
  have LOx0_5 := Lib.hid (own_rng hown4_5 (lo := w3.heap.size) (by simp <;> omega))
  clear hb4 hown4_4 hown4_5
  clear HB3 HOt0_4_3 HOt0_5_3 HOw0_3 HVa0_3
  have HGSx0 := Lib.hid hgs4
  clear hgs4
  have qx0_0 := (Holds.new w4 28 #[.string x0_0, .string x0_1, .string x0_2, .int .i64 x0_3, .slice (some ⟨gx04, 0, none⟩) n0_4 n0_4, .slice (some ⟨gx05, 0, none⟩) n0_5 n0_5]).cell 0 _ rfl
  have qx0_1 := (Holds.new w4 28 #[.string x0_0, .string x0_1, .string x0_2, .int .i64 x0_3, .slice (some ⟨gx04, 0, none⟩) n0_4 n0_4, .slice (some ⟨gx05, 0, none⟩) n0_5 n0_5]).cell 1 _ rfl
  have qx0_2 := (Holds.new w4 28 #[.string x0_0, .string x0_1, .string x0_2, .int .i64 x0_3, .slice (some ⟨gx04, 0, none⟩) n0_4 n0_4, .slice (some ⟨gx05, 0, none⟩) n0_5 n0_5]).cell 2 _ rfl
  have qx0_3 := (Holds.new w4 28 #[.string x0_0, .string x0_1, .string x0_2, .int .i64 x0_3, .slice (some ⟨gx04, 0, none⟩) n0_4 n0_4, .slice (some ⟨gx05, 0, none⟩) n0_5 n0_5]).cell 3 _ rfl
  have qx0_4 := (Holds.new w4 28 #[.string x0_0, .string x0_1, .string x0_2, .int .i64 x0_3, .slice (some ⟨gx04, 0, none⟩) n0_4 n0_4, .slice (some ⟨gx05, 0, none⟩) n0_5 n0_5]).cell 4 _ rfl
  have qx0_5 := (Holds.new w4 28 #[.string x0_0, .string x0_1, .string x0_2, .int .i64 x0_3, .slice (some ⟨gx04, 0, none⟩) n0_4 n0_4, .slice (some ⟨gx05, 0, none⟩) n0_5 n0_5]).cell 5 _ rfl
  go_wp2_with fail
  refine (iml_any x0_0 x0_1 x0_2 x0_3 (some ⟨gx04, 0, none⟩) n0_4 n0_4 h0_4 (some ⟨gx05, 0, none⟩) n0_5 n0_5 h0_5 _ W0_0q.out W0_1q.out W0_2q.out HN0_4q.out (by unfold maxLen; omega) HM0_4q.out HN0_5q.out (by unfold maxLen; omega) HM0_5q.out (Sees.of_own (HOx0_4_4.out.alloc (.cells #[.string x0_0, .string x0_1, .string x0_2, .int .i64 x0_3, .slice (some ⟨gx04, 0, none⟩) n0_4 n0_4, .slice (some ⟨gx05, 0, none⟩) n0_5 n0_5] 28))) (Sees.of_own (HOx0_5_4.out.alloc (.cells #[.string x0_0, .string x0_1, .string x0_2, .int .i64 x0_3, .slice (some ⟨gx04, 0, none⟩) n0_4 n0_4, .slice (some ⟨gx05, 0, none⟩) n0_5 n0_5] 28)))).mono ?_
  rintro e w5 ⟨Ag0, cg0, rfl, hown5, hb5⟩
  clear qx0_0 qx0_1 qx0_2 qx0_3 qx0_4 qx0_5
  have hz5 := hb5.size
  simp at hz5
  have HB5 := Lib.hid (btrans (balloc HB4.out (.cells #[.string x0_0, .string x0_1, .string x0_2, .int .i64 x0_3, .slice (some ⟨gx04, 0, none⟩) n0_4 n0_4, .slice (some ⟨gx05, 0, none⟩) n0_5 n0_5] 28)) hb5)
  have HOt0_4_5 := Lib.hid (own_call (HOt0_4_4.out.alloc (.cells #[.string x0_0, .string x0_1, .string x0_2, .int .i64 x0_3, .slice (some ⟨gx04, 0, none⟩) n0_4 n0_4, .slice (some ⟨gx05, 0, none⟩) n0_5 n0_5] 28)) hb5)
  have HOt0_5_5 := Lib.hid (own_call (HOt0_5_4.out.alloc (.cells #[.string x0_0, .string x0_1, .string x0_2, .int .i64 x0_3, .slice (some ⟨gx04, 0, none⟩) n0_4 n0_4, .slice (some ⟨gx05, 0, none⟩) n0_5 n0_5] 28)) hb5)
  have HOw0_5 := Lib.hid (own_call (HOw0_4.out.alloc (.cells #[.string x0_0, .string x0_1, .string x0_2, .int .i64 x0_3, .slice (some ⟨gx04, 0, none⟩) n0_4 n0_4, .slice (some ⟨gx05, 0, none⟩) n0_5 n0_5] 28)) hb5)
  have HOx0_4_5 := Lib.hid (own_call (HOx0_4_4.out.alloc (.cells #[.string x0_0, .string x0_1, .string x0_2, .int .i64 x0_3, .slice (some ⟨gx04, 0, none⟩) n0_4 n0_4, .slice (some ⟨gx05, 0, none⟩) n0_5 n0_5] 28)) hb5)
  have HOx0_5_5 := Lib.hid (own_call (HOx0_5_4.out.alloc (.cells #[.string x0_0, .string x0_1, .string x0_2, .int .i64 x0_3, .slice (some ⟨gx04, 0, none⟩) n0_4 n0_4, .slice (some ⟨gx05, 0, none⟩) n0_5 n0_5] 28)) hb5)
  have HVa0_5 := Lib.hid ((HVa0_4.out.alloc (.cells #[.string x0_0, .string x0_1, .string x0_2, .int .i64 x0_3, .slice (some ⟨gx04, 0, none⟩) n0_4 n0_4, .slice (some ⟨gx05, 0, none⟩) n0_5 n0_5] 28)).call hb5)
  have HVx0_5 := Lib.hid ((Holds.new w4 28 #[.string x0_0, .string x0_1, .string x0_2, .int .i64 x0_3, .slice (some ⟨gx04, 0, none⟩) n0_4 n0_4, .slice (some ⟨gx05, 0, none⟩) n0_5 n0_5]).call hb5)
  have HOg0_5 := Lib.hid hown5
  have LOg0 := Lib.hid (own_rng hown5 (lo := w4.heap.size + 1) (by simp <;> omega))
  clear hb5 hown5
  clear HB4 HOt0_4_4 HOt0_5_4 HOw0_4 HOx0_4_4 HOx0_5_4 HVa0_4
  go_wp2_with fail
  refine (eqs_same Ag0 Aw0 (msgL (⟨x0_0, x0_1, x0_2, x0_3, h0_4, h0_5⟩ : MsgM)).length cg0 cw0 (msgL (⟨x0_0, x0_1, x0_2, x0_3, h0_4, h0_5⟩ : MsgM)) _ rfl (by have := (msgL_few (⟨x0_0, x0_1, x0_2, x0_3, h0_4, h0_5⟩ : MsgM)); unfold maxLen; omega) (Sees.of_own HOg0_5.out) (Sees.of_own HOw0_5.out)).mono ?_
  rintro e w6 ⟨rfl, hb6⟩
  have hz6 := hb6.size
  have HB6 := Lib.hid (btrans HB5.out hb6)
  have HOt0_4_6 := Lib.hid (own_call HOt0_4_5.out hb6)
  have HOt0_5_6 := Lib.hid (own_call HOt0_5_5.out hb6)
  have HOw0_6 := Lib.hid (own_call HOw0_5.out hb6)
  have HOx0_4_6 := Lib.hid (own_call HOx0_4_5.out hb6)
  have HOx0_5_6 := Lib.hid (own_call HOx0_5_5.out hb6)
  have HOg0_6 := Lib.hid (own_call HOg0_5.out hb6)
  have HVa0_6 := Lib.hid (HVa0_5.out.call hb6)
  have HVx0_6 := Lib.hid (HVx0_5.out.call hb6)
  clear hb6
  clear HB5 HOt0_4_5 HOt0_5_5 HOw0_5 HOx0_4_5 HOx0_5_5 HOg0_5 HVa0_5 HVx0_5
  have qa0_0 := HVa0_6.out.cell 0 _ rfl
  have qa0_1 := HVa0_6.out.cell 1 _ rfl
  have qa0_2 := HVa0_6.out.cell 2 _ rfl
  have qa0_3 := HVa0_6.out.cell 3 _ rfl
  have qa0_4 := HVa0_6.out.cell 4 _ rfl
  have qa0_5 := HVa0_6.out.cell 5 _ rfl
  have qx0_0 := HVx0_6.out.cell 0 _ rfl
  have qx0_1 := HVx0_6.out.cell 1 _ rfl
  have qx0_2 := HVx0_6.out.cell 2 _ rfl
  have qx0_3 := HVx0_6.out.cell 3 _ rfl
  have qx0_4 := HVx0_6.out.cell 4 _ rfl
  have qx0_5 := HVx0_6.out.cell 5 _ rfl
  go_wp2
  go_region_held3 (fun w' => w'.cell? ⟨w.heap.size, 0, none⟩ = some (.string x0_0) ∧ w'.cell? ⟨w.heap.size, 1, none⟩ = some (.string x0_1) ∧ w'.cell? ⟨w.heap.size, 2, none⟩ = some (.string x0_2) ∧ w'.cell? ⟨w.heap.size, 3, none⟩ = some (.int .i64 x0_3) ∧ w'.cell? ⟨w.heap.size, 4, none⟩ = some (.slice A0_4 n0_4 c0_4) ∧ w'.cell? ⟨w.heap.size, 5, none⟩ = some (.slice A0_5 n0_5 c0_5) ∧ w'.cell? ⟨w4.heap.size, 0, none⟩ = some (.string x0_0) ∧ w'.cell? ⟨w4.heap.size, 1, none⟩ = some (.string x0_1) ∧ w'.cell? ⟨w4.heap.size, 2, none⟩ = some (.string x0_2) ∧ w'.cell? ⟨w4.heap.size, 3, none⟩ = some (.int .i64 x0_3) ∧ w'.cell? ⟨w4.heap.size, 4, none⟩ = some (.slice (some ⟨gx04, 0, none⟩) n0_4 n0_4) ∧ w'.cell? ⟨w4.heap.size, 5, none⟩ = some (.slice (some ⟨gx05, 0, none⟩) n0_5 n0_5))
    (first | exact ⟨HVa0_8.out.cell 0 _ rfl, HVa0_8.out.cell 1 _ rfl, HVa0_8.out.cell 2 _ rfl, HVa0_8.out.cell 3 _ rfl, HVa0_8.out.cell 4 _ rfl, HVa0_8.out.cell 5 _ rfl, HVx0_8.out.cell 0 _ rfl, HVx0_8.out.cell 1 _ rfl, HVx0_8.out.cell 2 _ rfl, HVx0_8.out.cell 3 _ rfl, HVx0_8.out.cell 4 _ rfl, HVx0_8.out.cell 5 _ rfl⟩ | exact ⟨HVa0_7.out.cell 0 _ rfl, HVa0_7.out.cell 1 _ rfl, HVa0_7.out.cell 2 _ rfl, HVa0_7.out.cell 3 _ rfl, HVa0_7.out.cell 4 _ rfl, HVa0_7.out.cell 5 _ rfl, HVx0_7.out.cell 0 _ rfl, HVx0_7.out.cell 1 _ rfl, HVx0_7.out.cell 2 _ rfl, HVx0_7.out.cell 3 _ rfl, HVx0_7.out.cell 4 _ rfl, HVx0_7.out.cell 5 _ rfl⟩ | exact ⟨HVa0_6.out.drew.cell 0 _ rfl, HVa0_6.out.drew.cell 1 _ rfl, HVa0_6.out.drew.cell 2 _ rfl, HVa0_6.out.drew.cell 3 _ rfl, HVa0_6.out.drew.cell 4 _ rfl, HVa0_6.out.drew.cell 5 _ rfl, HVx0_6.out.drew.cell 0 _ rfl, HVx0_6.out.drew.cell 1 _ rfl, HVx0_6.out.drew.cell 2 _ rfl, HVx0_6.out.drew.cell 3 _ rfl, HVx0_6.out.drew.cell 4 _ rfl, HVx0_6.out.drew.cell 5 _ rfl⟩)
    (first
      | (go_at_call 27; refine (toMessage_any x0_0 x0_1 x0_2 x0_3 A0_4 n0_4 c0_4 h0_4 A0_5 n0_5 c0_5 h0_5 _ HN0_4q.out (by omega) HN0_5q.out (by omega) ((HR0_4q.out.below (bdrew HB6.out) (Nat.le_refl _)).more (bdrew HB6.out).size) ((HR0_5q.out.below (bdrew HB6.out) (Nat.le_refl _)).more (bdrew HB6.out).size)).mono ?_; rintro e w7 ⟨gy04, gy05, rfl, hown7_4, hown7_5, hgs7, hb7⟩; have HB7 := Lib.hid (btrans (bdrew HB6.out) hb7); have HOt0_4_7 := Lib.hid (own_call HOt0_4_6.out.drew hb7); have HOt0_5_7 := Lib.hid (own_call HOt0_5_6.out.drew hb7); have HOw0_7 := Lib.hid (own_call HOw0_6.out.drew hb7); have HOx0_4_7 := Lib.hid (own_call HOx0_4_6.out.drew hb7); have HOx0_5_7 := Lib.hid (own_call HOx0_5_6.out.drew hb7); have HOg0_7 := Lib.hid (own_call HOg0_6.out.drew hb7); have HVa0_7 := Lib.hid (HVa0_6.out.drew.call hb7); have HVx0_7 := Lib.hid (HVx0_6.out.drew.call hb7); have HOy0_4_7 := Lib.hid hown7_4; have HOy0_5_7 := Lib.hid hown7_5; have hz7 := hb7.size; simp at hz7; clear hb7 hgs7 hown7_4 hown7_5)
      | (go_at_call 28; refine (eqMessage_same x0_0 x0_1 x0_2 x0_3 (some ⟨gx04, 0, none⟩) n0_4 n0_4 h0_4 (some ⟨gx05, 0, none⟩) n0_5 n0_5 h0_5 (some ⟨gy04, 0, none⟩) n0_4 (some ⟨gy05, 0, none⟩) n0_5 _ HN0_4q.out (by unfold maxLen; omega) HN0_5q.out (by unfold maxLen; omega) (Sees.of_own HOx0_4_7.out) (Sees.of_own HOy0_4_7.out) (Sees.of_own HOx0_5_7.out) (Sees.of_own HOy0_5_7.out)).mono ?_; rintro e w8 ⟨rfl, hb8⟩; have HB8 := Lib.hid (btrans HB7.out hb8); have HOt0_4_8 := Lib.hid (own_call HOt0_4_7.out hb8); have HOt0_5_8 := Lib.hid (own_call HOt0_5_7.out hb8); have HOw0_8 := Lib.hid (own_call HOw0_7.out hb8); have HOx0_4_8 := Lib.hid (own_call HOx0_4_7.out hb8); have HOx0_5_8 := Lib.hid (own_call HOx0_5_7.out hb8); have HOg0_8 := Lib.hid (own_call HOg0_7.out hb8); have HVa0_8 := Lib.hid (HVa0_7.out.call hb8); have HVx0_8 := Lib.hid (HVx0_7.out.call hb8); have hz8 := hb8.size; clear hb8))
  clear qa0_0 qa0_1 qa0_2 qa0_3 qa0_4 qa0_5 qx0_0 qx0_1 qx0_2 qx0_3 qx0_4 qx0_5
  clear HB7 HOt0_4_7 HOt0_5_7 HOw0_7 HOx0_4_7 HOx0_5_7 HOg0_7 HOy0_4_7 HOy0_5_7 HVa0_7 HVx0_7 HB6 HOt0_4_6 HOt0_5_6 HOw0_6 HOx0_4_6 HOx0_5_6 HOg0_6 HVa0_6 HVx0_6
  have qx0_0 := HVx0_8.out.cell 0 _ rfl
  have qx0_1 := HVx0_8.out.cell 1 _ rfl
  have qx0_2 := HVx0_8.out.cell 2 _ rfl
  have qx0_3 := HVx0_8.out.cell 3 _ rfl
  have qx0_4 := HVx0_8.out.cell 4 _ rfl
  have qx0_5 := HVx0_8.out.cell 5 _ rfl
  go_wp2_with fail
  refine (markMessage_any x0_0 x0_1 x0_2 x0_3 (some ⟨gx04, 0, none⟩) n0_4 n0_4 (some ⟨gx05, 0, none⟩) n0_5 n0_5 1 _ _ _ _ _ (by omega) (by omega) (by omega) (by omega) HOx0_4_8.out HOx0_5_8.out (fun k h1 h2 => by have h8 := HGSx0.out; simp [Value.ownBlock] at h1 h2; omega)).mono ?_
  rintro e w9 ⟨rfl, hown9_4, hown9_5, hg9⟩
  clear qx0_0 qx0_1 qx0_2 qx0_3 qx0_4 qx0_5
  have hz9 := hg9.size
  have HB9 := Lib.hid (Gr.below HB8.out hg9 HB8.out.size (fun k hk e => by skip; rcases e with e | e <;> first | (have h9 := LOx0_4.out _ e; omega) | (have h9 := LOx0_5.out _ e; omega)))
  have HOt0_4_9 := Lib.hid (own_gr HOt0_4_8.out hg9 (fun k hk e => by have h8 := LOt0_4.out k hk; rcases e with e | e <;> first | (have h9 := LOx0_4.out _ e; omega) | (have h9 := LOx0_5.out _ e; omega)))
  have HOt0_5_9 := Lib.hid (own_gr HOt0_5_8.out hg9 (fun k hk e => by have h8 := LOt0_5.out k hk; rcases e with e | e <;> first | (have h9 := LOx0_4.out _ e; omega) | (have h9 := LOx0_5.out _ e; omega)))
  have HOw0_9 := Lib.hid (own_gr HOw0_8.out hg9 (fun k hk e => by have h8 := LOw0.out k hk; rcases e with e | e <;> first | (have h9 := LOx0_4.out _ e; omega) | (have h9 := LOx0_5.out _ e; omega)))
  have HOg0_9 := Lib.hid (own_gr HOg0_8.out hg9 (fun k hk e => by have h8 := LOg0.out k hk; rcases e with e | e <;> first | (have h9 := LOx0_4.out _ e; omega) | (have h9 := LOx0_5.out _ e; omega)))
  have HVa0_9 := Lib.hid (HVa0_8.out.gr hg9 (fun e => by skip; rcases e with e | e <;> first | (have h9 := LOx0_4.out _ e; omega) | (have h9 := LOx0_5.out _ e; omega)))
  have HVx0_9 := Lib.hid (HVx0_8.out.gr hg9 (fun e => by skip; rcases e with e | e <;> first | (have h9 := LOx0_4.out _ e; omega) | (have h9 := LOx0_5.out _ e; omega)))
  have HOx0_4_9 := Lib.hid hown9_4
  have HOx0_5_9 := Lib.hid hown9_5
  clear hg9 hown9_4 hown9_5
  clear HB8 HOt0_4_8 HOt0_5_8 HOw0_8 HOx0_4_8 HOx0_5_8 HOg0_8 HVa0_8 HVx0_8
  go_wp2_with fail
  refine (eqs_same Ag0 Aw0 (msgL (⟨x0_0, x0_1, x0_2, x0_3, h0_4, h0_5⟩ : MsgM)).length cg0 cw0 (msgL (⟨x0_0, x0_1, x0_2, x0_3, h0_4, h0_5⟩ : MsgM)) _ rfl (by have := (msgL_few (⟨x0_0, x0_1, x0_2, x0_3, h0_4, h0_5⟩ : MsgM)); unfold maxLen; omega) (Sees.of_own HOg0_9.out) (Sees.of_own HOw0_9.out)).mono ?_
  rintro e w10 ⟨rfl, hb10⟩
  have hz10 := hb10.size
  have HB10 := Lib.hid (btrans HB9.out hb10)
  have HOt0_4_10 := Lib.hid (own_call HOt0_4_9.out hb10)
  have HOt0_5_10 := Lib.hid (own_call HOt0_5_9.out hb10)
  have HOw0_10 := Lib.hid (own_call HOw0_9.out hb10)
  have HOx0_4_10 := Lib.hid (own_call HOx0_4_9.out hb10)
  have HOx0_5_10 := Lib.hid (own_call HOx0_5_9.out hb10)
  have HOg0_10 := Lib.hid (own_call HOg0_9.out hb10)
  have HVa0_10 := Lib.hid (HVa0_9.out.call hb10)
  have HVx0_10 := Lib.hid (HVx0_9.out.call hb10)
  clear hb10
  clear HB9 HOt0_4_9 HOt0_5_9 HOw0_9 HOx0_4_9 HOx0_5_9 HOg0_9 HVa0_9 HVx0_9
  go_wp2_with fail
  refine ((marks_any Ag0 (msgL (⟨x0_0, x0_1, x0_2, x0_3, h0_4, h0_5⟩ : MsgM)).length cg0 _ 1 _ _ (by have := (msgL_few (⟨x0_0, x0_1, x0_2, x0_3, h0_4, h0_5⟩ : MsgM)); omega) (by omega) (by omega) HOg0_10.out).mono fun _ _ h => And.intro h.1 (And.intro h.2.1 (Gr.of_grown h.2.2))).mono ?_
  rintro e w11 ⟨rfl, hown11, hg11⟩
  have hg11 := hg11.mono (R' := fun k => (Value.slice Ag0 (msgL (⟨x0_0, x0_1, x0_2, x0_3, h0_4, h0_5⟩ : MsgM)).length cg0).ownBlock = some k) (fun k _ e => e)
  have hz11 := hg11.size
  have HB11 := Lib.hid (Gr.below HB10.out hg11 HB10.out.size (fun k hk e => by skip; have h9 := LOg0.out _ e; omega))
  have HOt0_4_11 := Lib.hid (own_gr HOt0_4_10.out hg11 (fun k hk e => by have h8 := LOt0_4.out k hk; have h9 := LOg0.out _ e; omega))
  have HOt0_5_11 := Lib.hid (own_gr HOt0_5_10.out hg11 (fun k hk e => by have h8 := LOt0_5.out k hk; have h9 := LOg0.out _ e; omega))
  have HOw0_11 := Lib.hid (own_gr HOw0_10.out hg11 (fun k hk e => by have h8 := LOw0.out k hk; have h9 := LOg0.out _ e; omega))
  have HOx0_4_11 := Lib.hid (own_gr HOx0_4_10.out hg11 (fun k hk e => by have h8 := LOx0_4.out k hk; have h9 := LOg0.out _ e; omega))
  have HOx0_5_11 := Lib.hid (own_gr HOx0_5_10.out hg11 (fun k hk e => by have h8 := LOx0_5.out k hk; have h9 := LOg0.out _ e; omega))
  have HVa0_11 := Lib.hid (HVa0_10.out.gr hg11 (fun e => by skip; have h9 := LOg0.out _ e; omega))
  have HVx0_11 := Lib.hid (HVx0_10.out.gr hg11 (fun e => by skip; have h9 := LOg0.out _ e; omega))
  have HOg0_11 := Lib.hid hown11
  clear hg11 hown11
  clear HB10 HOt0_4_10 HOt0_5_10 HOw0_10 HOx0_4_10 HOx0_5_10 HOg0_10 HVa0_10 HVx0_10
  go_wp2_with fail
  refine (helds_any Ag0 (msgL (⟨x0_0, x0_1, x0_2, x0_3, h0_4, h0_5⟩ : MsgM)).length cg0 1 _ (by have := (msgL_few (⟨x0_0, x0_1, x0_2, x0_3, h0_4, h0_5⟩ : MsgM)); omega) (by omega) (by omega) (Sees.of_own HOg0_11.out)).mono ?_
  rintro e w12 ⟨rfl, hb12⟩
  have hz12 := hb12.size
  have HB12 := Lib.hid (btrans HB11.out hb12)
  have HOt0_4_12 := Lib.hid (own_call HOt0_4_11.out hb12)
  have HOt0_5_12 := Lib.hid (own_call HOt0_5_11.out hb12)
  have HOw0_12 := Lib.hid (own_call HOw0_11.out hb12)
  have HOx0_4_12 := Lib.hid (own_call HOx0_4_11.out hb12)
  have HOx0_5_12 := Lib.hid (own_call HOx0_5_11.out hb12)
  have HOg0_12 := Lib.hid (own_call HOg0_11.out hb12)
  have HVa0_12 := Lib.hid (HVa0_11.out.call hb12)
  have HVx0_12 := Lib.hid (HVx0_11.out.call hb12)
  clear hb12
  clear HB11 HOt0_4_11 HOt0_5_11 HOw0_11 HOx0_4_11 HOx0_5_11 HOg0_11 HVa0_11 HVx0_11
  have qa0_0 := HVa0_12.out.cell 0 _ rfl
  have qa0_1 := HVa0_12.out.cell 1 _ rfl
  have qa0_2 := HVa0_12.out.cell 2 _ rfl
  have qa0_3 := HVa0_12.out.cell 3 _ rfl
  have qa0_4 := HVa0_12.out.cell 4 _ rfl
  have qa0_5 := HVa0_12.out.cell 5 _ rfl
  go_wp2_with fail
  refine (toMessage_any x0_0 x0_1 x0_2 x0_3 A0_4 n0_4 c0_4 h0_4 A0_5 n0_5 c0_5 h0_5 _ HN0_4q.out (by omega) HN0_5q.out (by omega) ((HR0_4q.out.below HB12.out (Nat.le_refl _)).more HB12.out.size) ((HR0_5q.out.below HB12.out (Nat.le_refl _)).more HB12.out.size)).mono ?_
  rintro e w13 ⟨gz04, gz05, rfl, hown13_4, hown13_5, hgs13, hb13⟩
  clear qa0_0 qa0_1 qa0_2 qa0_3 qa0_4 qa0_5
  have hz13 := hb13.size
  have HB13 := Lib.hid (btrans HB12.out hb13)
  have HOt0_4_13 := Lib.hid (own_call HOt0_4_12.out hb13)
  have HOt0_5_13 := Lib.hid (own_call HOt0_5_12.out hb13)
  have HOw0_13 := Lib.hid (own_call HOw0_12.out hb13)
  have HOx0_4_13 := Lib.hid (own_call HOx0_4_12.out hb13)
  have HOx0_5_13 := Lib.hid (own_call HOx0_5_12.out hb13)
  have HOg0_13 := Lib.hid (own_call HOg0_12.out hb13)
  have HVa0_13 := Lib.hid (HVa0_12.out.call hb13)
  have HVx0_13 := Lib.hid (HVx0_12.out.call hb13)
  have HOz0_4_13 := Lib.hid hown13_4
  have LOz0_4 := Lib.hid (own_rng hown13_4 (lo := w12.heap.size) (by simp <;> omega))
  have HOz0_5_13 := Lib.hid hown13_5
  have LOz0_5 := Lib.hid (own_rng hown13_5 (lo := w12.heap.size) (by simp <;> omega))
  clear hb13 hown13_4 hown13_5
  clear HB12 HOt0_4_12 HOt0_5_12 HOw0_12 HOx0_4_12 HOx0_5_12 HOg0_12 HVa0_12 HVx0_12
  have HGSz0 := Lib.hid hgs13
  clear hgs13
  go_wp2_with fail
  refine (iml_any x0_0 x0_1 x0_2 x0_3 (some ⟨gz04, 0, none⟩) n0_4 n0_4 h0_4 (some ⟨gz05, 0, none⟩) n0_5 n0_5 h0_5 _ W0_0q.out W0_1q.out W0_2q.out HN0_4q.out (by unfold maxLen; omega) HM0_4q.out HN0_5q.out (by unfold maxLen; omega) HM0_5q.out (Sees.of_own HOz0_4_13.out) (Sees.of_own HOz0_5_13.out)).mono ?_
  rintro e w14 ⟨Ah0, ch0, rfl, hown14, hb14⟩
  have hz14 := hb14.size
  have HB14 := Lib.hid (btrans HB13.out hb14)
  have HOt0_4_14 := Lib.hid (own_call HOt0_4_13.out hb14)
  have HOt0_5_14 := Lib.hid (own_call HOt0_5_13.out hb14)
  have HOw0_14 := Lib.hid (own_call HOw0_13.out hb14)
  have HOx0_4_14 := Lib.hid (own_call HOx0_4_13.out hb14)
  have HOx0_5_14 := Lib.hid (own_call HOx0_5_13.out hb14)
  have HOg0_14 := Lib.hid (own_call HOg0_13.out hb14)
  have HOz0_4_14 := Lib.hid (own_call HOz0_4_13.out hb14)
  have HOz0_5_14 := Lib.hid (own_call HOz0_5_13.out hb14)
  have HVa0_14 := Lib.hid (HVa0_13.out.call hb14)
  have HVx0_14 := Lib.hid (HVx0_13.out.call hb14)
  have HOh0_14 := Lib.hid hown14
  have LOh0 := Lib.hid (own_rng hown14 (lo := w13.heap.size) (by simp <;> omega))
  clear hb14 hown14
  clear HB13 HOt0_4_13 HOt0_5_13 HOw0_13 HOx0_4_13 HOx0_5_13 HOg0_13 HOz0_4_13 HOz0_5_13 HVa0_13 HVx0_13
  go_wp2_with fail
  refine (eqs_same Ah0 Aw0 (msgL (⟨x0_0, x0_1, x0_2, x0_3, h0_4, h0_5⟩ : MsgM)).length ch0 cw0 (msgL (⟨x0_0, x0_1, x0_2, x0_3, h0_4, h0_5⟩ : MsgM)) _ rfl (by have := (msgL_few (⟨x0_0, x0_1, x0_2, x0_3, h0_4, h0_5⟩ : MsgM)); unfold maxLen; omega) (Sees.of_own HOh0_14.out) (Sees.of_own HOw0_14.out)).mono ?_
  rintro e w15 ⟨rfl, hb15⟩
  have hz15 := hb15.size
  have HB15 := Lib.hid (btrans HB14.out hb15)
  have HOt0_4_15 := Lib.hid (own_call HOt0_4_14.out hb15)
  have HOt0_5_15 := Lib.hid (own_call HOt0_5_14.out hb15)
  have HOw0_15 := Lib.hid (own_call HOw0_14.out hb15)
  have HOx0_4_15 := Lib.hid (own_call HOx0_4_14.out hb15)
  have HOx0_5_15 := Lib.hid (own_call HOx0_5_14.out hb15)
  have HOg0_15 := Lib.hid (own_call HOg0_14.out hb15)
  have HOz0_4_15 := Lib.hid (own_call HOz0_4_14.out hb15)
  have HOz0_5_15 := Lib.hid (own_call HOz0_5_14.out hb15)
  have HOh0_15 := Lib.hid (own_call HOh0_14.out hb15)
  have HVa0_15 := Lib.hid (HVa0_14.out.call hb15)
  have HVx0_15 := Lib.hid (HVx0_14.out.call hb15)
  clear hb15
  clear HB14 HOt0_4_14 HOt0_5_14 HOw0_14 HOx0_4_14 HOx0_5_14 HOg0_14 HOz0_4_14 HOz0_5_14 HOh0_14 HVa0_14 HVx0_14
  go_wp2_with fail
  refine (helds_any Ag0 (msgL (⟨x0_0, x0_1, x0_2, x0_3, h0_4, h0_5⟩ : MsgM)).length cg0 1 _ (by have := (msgL_few (⟨x0_0, x0_1, x0_2, x0_3, h0_4, h0_5⟩ : MsgM)); omega) (by omega) (by omega) (Sees.of_own HOg0_15.out)).mono ?_
  rintro e w16 ⟨rfl, hb16⟩
  have hz16 := hb16.size
  have HB16 := Lib.hid (btrans HB15.out hb16)
  have HOt0_4_16 := Lib.hid (own_call HOt0_4_15.out hb16)
  have HOt0_5_16 := Lib.hid (own_call HOt0_5_15.out hb16)
  have HOw0_16 := Lib.hid (own_call HOw0_15.out hb16)
  have HOx0_4_16 := Lib.hid (own_call HOx0_4_15.out hb16)
  have HOx0_5_16 := Lib.hid (own_call HOx0_5_15.out hb16)
  have HOg0_16 := Lib.hid (own_call HOg0_15.out hb16)
  have HOz0_4_16 := Lib.hid (own_call HOz0_4_15.out hb16)
  have HOz0_5_16 := Lib.hid (own_call HOz0_5_15.out hb16)
  have HOh0_16 := Lib.hid (own_call HOh0_15.out hb16)
  have HVa0_16 := Lib.hid (HVa0_15.out.call hb16)
  have HVx0_16 := Lib.hid (HVx0_15.out.call hb16)
  clear hb16
  clear HB15 HOt0_4_15 HOt0_5_15 HOw0_15 HOx0_4_15 HOx0_5_15 HOg0_15 HOz0_4_15 HOz0_5_15 HOh0_15 HVa0_15 HVx0_15
  go_wp2
  go_ret
  exact ⟨rfl, HB16.out⟩

set_option maxHeartbeats 8000000 in
theorem walk_FnExactReadMessage (A0 : Option Addr) (n0 c0 : Nat) (h0 : List ByteArray) (hn0 : n0 = h0.length) (hc0 : n0 ≤ maxLen) (hm0 : strsMax h0) (w : World) (hr0 : Sees w w.heap.size 1 A0 n0 (flat strC h0)) :
    Calls Try.prog 9 #[.slice A0 n0 c0] w fun e w' => e = .returned (.bool true) ∧ Below w.heap.size w w' := by
  have HN0q := Lib.hid hn0
  have HC0q := Lib.hid hc0
  have HM0q := Lib.hid hm0
  have HR0q := Lib.hid hr0
  clear hn0 hc0 hm0 hr0
  go_enter Try.func9, Try.ntmps9
  go_wp2_with fail
  refine (szs_any A0 n0 c0 h0 1048576 _ HN0q.out HC0q.out (by omega) (by omega) ((HR0q.out.below (Below.refl w.heap.size w) (Nat.le_refl _)).more (Below.refl w.heap.size w).size) HM0q.out).mono ?_
  rintro e w1 ⟨v0, rfl, hv0, hb1⟩
  have hz1 := hb1.size
  have HB1 := Lib.hid (btrans (Below.refl w.heap.size w) hb1)
  clear hb1
  by_cases hneg0 : v0 < 0
  · clear hv0
    go_wp2
    go_ret
    exact ⟨rfl, HB1.out⟩
  obtain ⟨hv0a, hv0b, hv0c⟩ := hv0.resolve_left hneg0
  have OK0 := Lib.hid hv0c
  have hlen0 : n0 ≤ 1048576 := by have := hv0c.1; have := HN0q.out; omega
  clear hv0 hv0c
  go_wp2_with fail
  refine ((tos_any A0 n0 c0 h0 _ HN0q.out (by omega) ((HR0q.out.below HB1.out (Nat.le_refl _)).more HB1.out.size)).mono fun _ _ h => NewRow.of h).mono ?_
  rintro e w2 ⟨gt0, rfl, hown2, hgl2, hb2⟩
  clear hgl2
  have hz2 := hb2.size
  have HB2 := Lib.hid (btrans HB1.out hb2)
  have HOt0_2 := Lib.hid hown2
  have LOt0 := Lib.hid (own_rng hown2 (lo := w1.heap.size) (by simp <;> omega))
  clear hb2 hown2
  clear HB1
  go_wp2_with fail
  refine (srm_any (some ⟨gt0, 0, none⟩) n0 n0 h0 _ HN0q.out (by omega) (own_cap HOt0_2.out) (Sees.of_own HOt0_2.out) (fun s hs => by have := OK0.out.2 s hs; omega) _ _ rfl rfl).mono ?_
  rintro e w3 ⟨Aw04, cw04, Aw05, cw05, rfl, hown3_4, hown3_5, hsepw0, hb3⟩
  have hz3 := hb3.size
  have HB3 := Lib.hid (btrans HB2.out hb3)
  have HOt0_3 := Lib.hid (own_call HOt0_2.out hb3)
  have HOw0_4_3 := Lib.hid hown3_4
  have LOw0_4 := Lib.hid (own_rng hown3_4 (lo := w2.heap.size) (by simp <;> omega))
  have HOw0_5_3 := Lib.hid hown3_5
  have LOw0_5 := Lib.hid (own_rng hown3_5 (lo := w2.heap.size) (by simp <;> omega))
  clear hb3 hown3_4 hown3_5
  clear HB2 HOt0_2
  have HSEPw0 := Lib.hid hsepw0
  clear hsepw0
  go_wp2_with fail
  refine ((tos_any A0 n0 c0 h0 _ HN0q.out (by omega) ((HR0q.out.below (balloc HB3.out (.cells #[.string (rmM h0).x0, .string (rmM h0).x1, .string (rmM h0).x2, .int .i64 (rmM h0).x3, .slice Aw04 (rmM h0).h.length cw04, .slice Aw05 (rmM h0).b.length cw05] 28)) (Nat.le_refl _)).more (balloc HB3.out (.cells #[.string (rmM h0).x0, .string (rmM h0).x1, .string (rmM h0).x2, .int .i64 (rmM h0).x3, .slice Aw04 (rmM h0).h.length cw04, .slice Aw05 (rmM h0).b.length cw05] 28)).size)).mono fun _ _ h => NewRow.of h).mono ?_
  rintro e w4 ⟨gx0, rfl, hown4, hgl4, hb4⟩
  clear hgl4
  have hz4 := hb4.size
  simp at hz4
  have HB4 := Lib.hid (btrans (balloc HB3.out (.cells #[.string (rmM h0).x0, .string (rmM h0).x1, .string (rmM h0).x2, .int .i64 (rmM h0).x3, .slice Aw04 (rmM h0).h.length cw04, .slice Aw05 (rmM h0).b.length cw05] 28)) hb4)
  have HOt0_4 := Lib.hid (own_call (HOt0_3.out.alloc (.cells #[.string (rmM h0).x0, .string (rmM h0).x1, .string (rmM h0).x2, .int .i64 (rmM h0).x3, .slice Aw04 (rmM h0).h.length cw04, .slice Aw05 (rmM h0).b.length cw05] 28)) hb4)
  have HOw0_4_4 := Lib.hid (own_call (HOw0_4_3.out.alloc (.cells #[.string (rmM h0).x0, .string (rmM h0).x1, .string (rmM h0).x2, .int .i64 (rmM h0).x3, .slice Aw04 (rmM h0).h.length cw04, .slice Aw05 (rmM h0).b.length cw05] 28)) hb4)
  have HOw0_5_4 := Lib.hid (own_call (HOw0_5_3.out.alloc (.cells #[.string (rmM h0).x0, .string (rmM h0).x1, .string (rmM h0).x2, .int .i64 (rmM h0).x3, .slice Aw04 (rmM h0).h.length cw04, .slice Aw05 (rmM h0).b.length cw05] 28)) hb4)
  have HVw0_4 := Lib.hid ((Holds.new w3 28 #[.string (rmM h0).x0, .string (rmM h0).x1, .string (rmM h0).x2, .int .i64 (rmM h0).x3, .slice Aw04 (rmM h0).h.length cw04, .slice Aw05 (rmM h0).b.length cw05]).call hb4)
  have HOx0_4 := Lib.hid hown4
  have LOx0 := Lib.hid (own_rng hown4 (lo := w3.heap.size + 1) (by simp <;> omega))
  clear hb4 hown4
  clear HB3 HOt0_3 HOw0_4_3 HOw0_5_3
  go_wp2_with fail
  refine (irm_any (some ⟨gx0, 0, none⟩) n0 n0 h0 _ HN0q.out (by omega) (own_cap HOx0_4.out) (Sees.of_own HOx0_4.out) (fun s hs => by have := OK0.out.2 s hs; omega) _ _ rfl rfl).mono ?_
  rintro e w5 ⟨Ag04, cg04, Ag05, cg05, rfl, hown5_4, hown5_5, hsepg0, hb5⟩
  have hz5 := hb5.size
  have HB5 := Lib.hid (btrans HB4.out hb5)
  have HOt0_5 := Lib.hid (own_call HOt0_4.out hb5)
  have HOw0_4_5 := Lib.hid (own_call HOw0_4_4.out hb5)
  have HOw0_5_5 := Lib.hid (own_call HOw0_5_4.out hb5)
  have HOx0_5 := Lib.hid (own_call HOx0_4.out hb5)
  have HVw0_5 := Lib.hid (HVw0_4.out.call hb5)
  have HOg0_4_5 := Lib.hid hown5_4
  have LOg0_4 := Lib.hid (own_rng hown5_4 (lo := w4.heap.size) (by simp <;> omega))
  have HOg0_5_5 := Lib.hid hown5_5
  have LOg0_5 := Lib.hid (own_rng hown5_5 (lo := w4.heap.size) (by simp <;> omega))
  clear hb5 hown5_4 hown5_5
  clear HB4 HOt0_4 HOw0_4_4 HOw0_5_4 HOx0_4 HVw0_4
  have HSEPg0 := Lib.hid hsepg0
  clear hsepg0
  have qg0_0 := (Holds.new w5 28 #[.string (rmM h0).x0, .string (rmM h0).x1, .string (rmM h0).x2, .int .i64 (rmM h0).x3, .slice Ag04 (rmM h0).h.length cg04, .slice Ag05 (rmM h0).b.length cg05]).cell 0 _ rfl
  have qg0_1 := (Holds.new w5 28 #[.string (rmM h0).x0, .string (rmM h0).x1, .string (rmM h0).x2, .int .i64 (rmM h0).x3, .slice Ag04 (rmM h0).h.length cg04, .slice Ag05 (rmM h0).b.length cg05]).cell 1 _ rfl
  have qg0_2 := (Holds.new w5 28 #[.string (rmM h0).x0, .string (rmM h0).x1, .string (rmM h0).x2, .int .i64 (rmM h0).x3, .slice Ag04 (rmM h0).h.length cg04, .slice Ag05 (rmM h0).b.length cg05]).cell 2 _ rfl
  have qg0_3 := (Holds.new w5 28 #[.string (rmM h0).x0, .string (rmM h0).x1, .string (rmM h0).x2, .int .i64 (rmM h0).x3, .slice Ag04 (rmM h0).h.length cg04, .slice Ag05 (rmM h0).b.length cg05]).cell 3 _ rfl
  have qg0_4 := (Holds.new w5 28 #[.string (rmM h0).x0, .string (rmM h0).x1, .string (rmM h0).x2, .int .i64 (rmM h0).x3, .slice Ag04 (rmM h0).h.length cg04, .slice Ag05 (rmM h0).b.length cg05]).cell 4 _ rfl
  have qg0_5 := (Holds.new w5 28 #[.string (rmM h0).x0, .string (rmM h0).x1, .string (rmM h0).x2, .int .i64 (rmM h0).x3, .slice Ag04 (rmM h0).h.length cg04, .slice Ag05 (rmM h0).b.length cg05]).cell 5 _ rfl
  have qw0_0 := (HVw0_5.out.alloc (.cells #[.string (rmM h0).x0, .string (rmM h0).x1, .string (rmM h0).x2, .int .i64 (rmM h0).x3, .slice Ag04 (rmM h0).h.length cg04, .slice Ag05 (rmM h0).b.length cg05] 28)).cell 0 _ rfl
  have qw0_1 := (HVw0_5.out.alloc (.cells #[.string (rmM h0).x0, .string (rmM h0).x1, .string (rmM h0).x2, .int .i64 (rmM h0).x3, .slice Ag04 (rmM h0).h.length cg04, .slice Ag05 (rmM h0).b.length cg05] 28)).cell 1 _ rfl
  have qw0_2 := (HVw0_5.out.alloc (.cells #[.string (rmM h0).x0, .string (rmM h0).x1, .string (rmM h0).x2, .int .i64 (rmM h0).x3, .slice Ag04 (rmM h0).h.length cg04, .slice Ag05 (rmM h0).b.length cg05] 28)).cell 2 _ rfl
  have qw0_3 := (HVw0_5.out.alloc (.cells #[.string (rmM h0).x0, .string (rmM h0).x1, .string (rmM h0).x2, .int .i64 (rmM h0).x3, .slice Ag04 (rmM h0).h.length cg04, .slice Ag05 (rmM h0).b.length cg05] 28)).cell 3 _ rfl
  have qw0_4 := (HVw0_5.out.alloc (.cells #[.string (rmM h0).x0, .string (rmM h0).x1, .string (rmM h0).x2, .int .i64 (rmM h0).x3, .slice Ag04 (rmM h0).h.length cg04, .slice Ag05 (rmM h0).b.length cg05] 28)).cell 4 _ rfl
  have qw0_5 := (HVw0_5.out.alloc (.cells #[.string (rmM h0).x0, .string (rmM h0).x1, .string (rmM h0).x2, .int .i64 (rmM h0).x3, .slice Ag04 (rmM h0).h.length cg04, .slice Ag05 (rmM h0).b.length cg05] 28)).cell 5 _ rfl
  go_wp2_with fail
  refine (eqMessage_same ((rmM h0).x0) ((rmM h0).x1) ((rmM h0).x2) ((rmM h0).x3) Ag04 (rmM h0).h.length cg04 (rmM h0).h Ag05 (rmM h0).b.length cg05 (rmM h0).b Aw04 cw04 Aw05 cw05 _ rfl (by have := (rmM_few h0).1; unfold maxLen; omega) rfl (by have := (rmM_few h0).2; unfold maxLen; omega) (Sees.of_own (HOg0_4_5.out.alloc (.cells #[.string (rmM h0).x0, .string (rmM h0).x1, .string (rmM h0).x2, .int .i64 (rmM h0).x3, .slice Ag04 (rmM h0).h.length cg04, .slice Ag05 (rmM h0).b.length cg05] 28))) (Sees.of_own (HOw0_4_5.out.alloc (.cells #[.string (rmM h0).x0, .string (rmM h0).x1, .string (rmM h0).x2, .int .i64 (rmM h0).x3, .slice Ag04 (rmM h0).h.length cg04, .slice Ag05 (rmM h0).b.length cg05] 28))) (Sees.of_own (HOg0_5_5.out.alloc (.cells #[.string (rmM h0).x0, .string (rmM h0).x1, .string (rmM h0).x2, .int .i64 (rmM h0).x3, .slice Ag04 (rmM h0).h.length cg04, .slice Ag05 (rmM h0).b.length cg05] 28))) (Sees.of_own (HOw0_5_5.out.alloc (.cells #[.string (rmM h0).x0, .string (rmM h0).x1, .string (rmM h0).x2, .int .i64 (rmM h0).x3, .slice Ag04 (rmM h0).h.length cg04, .slice Ag05 (rmM h0).b.length cg05] 28)))).mono ?_
  rintro e w6 ⟨rfl, hb6⟩
  clear qg0_0 qg0_1 qg0_2 qg0_3 qg0_4 qg0_5 qw0_0 qw0_1 qw0_2 qw0_3 qw0_4 qw0_5
  have hz6 := hb6.size
  simp at hz6
  have HB6 := Lib.hid (btrans (balloc HB5.out (.cells #[.string (rmM h0).x0, .string (rmM h0).x1, .string (rmM h0).x2, .int .i64 (rmM h0).x3, .slice Ag04 (rmM h0).h.length cg04, .slice Ag05 (rmM h0).b.length cg05] 28)) hb6)
  have HOt0_6 := Lib.hid (own_call (HOt0_5.out.alloc (.cells #[.string (rmM h0).x0, .string (rmM h0).x1, .string (rmM h0).x2, .int .i64 (rmM h0).x3, .slice Ag04 (rmM h0).h.length cg04, .slice Ag05 (rmM h0).b.length cg05] 28)) hb6)
  have HOw0_4_6 := Lib.hid (own_call (HOw0_4_5.out.alloc (.cells #[.string (rmM h0).x0, .string (rmM h0).x1, .string (rmM h0).x2, .int .i64 (rmM h0).x3, .slice Ag04 (rmM h0).h.length cg04, .slice Ag05 (rmM h0).b.length cg05] 28)) hb6)
  have HOw0_5_6 := Lib.hid (own_call (HOw0_5_5.out.alloc (.cells #[.string (rmM h0).x0, .string (rmM h0).x1, .string (rmM h0).x2, .int .i64 (rmM h0).x3, .slice Ag04 (rmM h0).h.length cg04, .slice Ag05 (rmM h0).b.length cg05] 28)) hb6)
  have HOx0_6 := Lib.hid (own_call (HOx0_5.out.alloc (.cells #[.string (rmM h0).x0, .string (rmM h0).x1, .string (rmM h0).x2, .int .i64 (rmM h0).x3, .slice Ag04 (rmM h0).h.length cg04, .slice Ag05 (rmM h0).b.length cg05] 28)) hb6)
  have HOg0_4_6 := Lib.hid (own_call (HOg0_4_5.out.alloc (.cells #[.string (rmM h0).x0, .string (rmM h0).x1, .string (rmM h0).x2, .int .i64 (rmM h0).x3, .slice Ag04 (rmM h0).h.length cg04, .slice Ag05 (rmM h0).b.length cg05] 28)) hb6)
  have HOg0_5_6 := Lib.hid (own_call (HOg0_5_5.out.alloc (.cells #[.string (rmM h0).x0, .string (rmM h0).x1, .string (rmM h0).x2, .int .i64 (rmM h0).x3, .slice Ag04 (rmM h0).h.length cg04, .slice Ag05 (rmM h0).b.length cg05] 28)) hb6)
  have HVw0_6 := Lib.hid ((HVw0_5.out.alloc (.cells #[.string (rmM h0).x0, .string (rmM h0).x1, .string (rmM h0).x2, .int .i64 (rmM h0).x3, .slice Ag04 (rmM h0).h.length cg04, .slice Ag05 (rmM h0).b.length cg05] 28)).call hb6)
  have HVg0_6 := Lib.hid ((Holds.new w5 28 #[.string (rmM h0).x0, .string (rmM h0).x1, .string (rmM h0).x2, .int .i64 (rmM h0).x3, .slice Ag04 (rmM h0).h.length cg04, .slice Ag05 (rmM h0).b.length cg05]).call hb6)
  clear hb6
  clear HB5 HOt0_5 HOw0_4_5 HOw0_5_5 HOx0_5 HOg0_4_5 HOg0_5_5 HVw0_5
  go_wp2_with fail
  refine ((tos_any A0 n0 c0 h0 _ HN0q.out (by omega) ((HR0q.out.below HB6.out (Nat.le_refl _)).more HB6.out.size)).mono fun _ _ h => NewRow.of h).mono ?_
  rintro e w7 ⟨gy0, rfl, hown7, hgl7, hb7⟩
  clear hgl7
  have hz7 := hb7.size
  have HB7 := Lib.hid (btrans HB6.out hb7)
  have HOt0_7 := Lib.hid (own_call HOt0_6.out hb7)
  have HOw0_4_7 := Lib.hid (own_call HOw0_4_6.out hb7)
  have HOw0_5_7 := Lib.hid (own_call HOw0_5_6.out hb7)
  have HOx0_7 := Lib.hid (own_call HOx0_6.out hb7)
  have HOg0_4_7 := Lib.hid (own_call HOg0_4_6.out hb7)
  have HOg0_5_7 := Lib.hid (own_call HOg0_5_6.out hb7)
  have HVw0_7 := Lib.hid (HVw0_6.out.call hb7)
  have HVg0_7 := Lib.hid (HVg0_6.out.call hb7)
  have HOy0_7 := Lib.hid hown7
  have LOy0 := Lib.hid (own_rng hown7 (lo := w6.heap.size) (by simp <;> omega))
  clear hb7 hown7
  clear HB6 HOt0_6 HOw0_4_6 HOw0_5_6 HOx0_6 HOg0_4_6 HOg0_5_6 HVw0_6 HVg0_6
  go_wp2_with fail
  refine (eqs_same (some ⟨gx0, 0, none⟩) (some ⟨gy0, 0, none⟩) n0 n0 n0 h0 _ HN0q.out (by unfold maxLen; omega) (Sees.of_own HOx0_7.out) (Sees.of_own HOy0_7.out)).mono ?_
  rintro e w8 ⟨rfl, hb8⟩
  have hz8 := hb8.size
  have HB8 := Lib.hid (btrans HB7.out hb8)
  have HOt0_8 := Lib.hid (own_call HOt0_7.out hb8)
  have HOw0_4_8 := Lib.hid (own_call HOw0_4_7.out hb8)
  have HOw0_5_8 := Lib.hid (own_call HOw0_5_7.out hb8)
  have HOx0_8 := Lib.hid (own_call HOx0_7.out hb8)
  have HOg0_4_8 := Lib.hid (own_call HOg0_4_7.out hb8)
  have HOg0_5_8 := Lib.hid (own_call HOg0_5_7.out hb8)
  have HOy0_8 := Lib.hid (own_call HOy0_7.out hb8)
  have HVw0_8 := Lib.hid (HVw0_7.out.call hb8)
  have HVg0_8 := Lib.hid (HVg0_7.out.call hb8)
  clear hb8
  clear HB7 HOt0_7 HOw0_4_7 HOw0_5_7 HOx0_7 HOg0_4_7 HOg0_5_7 HOy0_7 HVw0_7 HVg0_7
  go_wp2_with fail
  refine ((marks_any (some ⟨gx0, 0, none⟩) n0 n0 _ 1 _ _ (by omega) (by omega) (by omega) HOx0_8.out).mono fun _ _ h => And.intro h.1 (And.intro h.2.1 (Gr.of_grown h.2.2))).mono ?_
  rintro e w9 ⟨rfl, hown9, hg9⟩
  have hg9 := hg9.mono (R' := fun k => (Value.slice (some ⟨gx0, 0, none⟩) n0 n0).ownBlock = some k) (fun k _ e => e)
  have hz9 := hg9.size
  have HB9 := Lib.hid (Gr.below HB8.out hg9 HB8.out.size (fun k hk e => by skip; have h9 := LOx0.out _ e; omega))
  have HOt0_9 := Lib.hid (own_gr HOt0_8.out hg9 (fun k hk e => by have h8 := LOt0.out k hk; have h9 := LOx0.out _ e; omega))
  have HOw0_4_9 := Lib.hid (own_gr HOw0_4_8.out hg9 (fun k hk e => by have h8 := LOw0_4.out k hk; have h9 := LOx0.out _ e; omega))
  have HOw0_5_9 := Lib.hid (own_gr HOw0_5_8.out hg9 (fun k hk e => by have h8 := LOw0_5.out k hk; have h9 := LOx0.out _ e; omega))
  have HOg0_4_9 := Lib.hid (own_gr HOg0_4_8.out hg9 (fun k hk e => by have h8 := LOg0_4.out k hk; have h9 := LOx0.out _ e; omega))
  have HOg0_5_9 := Lib.hid (own_gr HOg0_5_8.out hg9 (fun k hk e => by have h8 := LOg0_5.out k hk; have h9 := LOx0.out _ e; omega))
  have HOy0_9 := Lib.hid (own_gr HOy0_8.out hg9 (fun k hk e => by have h8 := LOy0.out k hk; have h9 := LOx0.out _ e; omega))
  have HVw0_9 := Lib.hid (HVw0_8.out.gr hg9 (fun e => by skip; have h9 := LOx0.out _ e; omega))
  have HVg0_9 := Lib.hid (HVg0_8.out.gr hg9 (fun e => by skip; have h9 := LOx0.out _ e; omega))
  have HOx0_9 := Lib.hid hown9
  clear hg9 hown9
  clear HB8 HOt0_8 HOw0_4_8 HOw0_5_8 HOx0_8 HOg0_4_8 HOg0_5_8 HOy0_8 HVw0_8 HVg0_8
  have qg0_0 := HVg0_9.out.cell 0 _ rfl
  have qg0_1 := HVg0_9.out.cell 1 _ rfl
  have qg0_2 := HVg0_9.out.cell 2 _ rfl
  have qg0_3 := HVg0_9.out.cell 3 _ rfl
  have qg0_4 := HVg0_9.out.cell 4 _ rfl
  have qg0_5 := HVg0_9.out.cell 5 _ rfl
  have qw0_0 := HVw0_9.out.cell 0 _ rfl
  have qw0_1 := HVw0_9.out.cell 1 _ rfl
  have qw0_2 := HVw0_9.out.cell 2 _ rfl
  have qw0_3 := HVw0_9.out.cell 3 _ rfl
  have qw0_4 := HVw0_9.out.cell 4 _ rfl
  have qw0_5 := HVw0_9.out.cell 5 _ rfl
  go_wp2_with fail
  refine (eqMessage_same ((rmM h0).x0) ((rmM h0).x1) ((rmM h0).x2) ((rmM h0).x3) Ag04 (rmM h0).h.length cg04 (rmM h0).h Ag05 (rmM h0).b.length cg05 (rmM h0).b Aw04 cw04 Aw05 cw05 _ rfl (by have := (rmM_few h0).1; unfold maxLen; omega) rfl (by have := (rmM_few h0).2; unfold maxLen; omega) (Sees.of_own HOg0_4_9.out) (Sees.of_own HOw0_4_9.out) (Sees.of_own HOg0_5_9.out) (Sees.of_own HOw0_5_9.out)).mono ?_
  rintro e w10 ⟨rfl, hb10⟩
  clear qg0_0 qg0_1 qg0_2 qg0_3 qg0_4 qg0_5 qw0_0 qw0_1 qw0_2 qw0_3 qw0_4 qw0_5
  have hz10 := hb10.size
  have HB10 := Lib.hid (btrans HB9.out hb10)
  have HOt0_10 := Lib.hid (own_call HOt0_9.out hb10)
  have HOw0_4_10 := Lib.hid (own_call HOw0_4_9.out hb10)
  have HOw0_5_10 := Lib.hid (own_call HOw0_5_9.out hb10)
  have HOx0_10 := Lib.hid (own_call HOx0_9.out hb10)
  have HOg0_4_10 := Lib.hid (own_call HOg0_4_9.out hb10)
  have HOg0_5_10 := Lib.hid (own_call HOg0_5_9.out hb10)
  have HOy0_10 := Lib.hid (own_call HOy0_9.out hb10)
  have HVw0_10 := Lib.hid (HVw0_9.out.call hb10)
  have HVg0_10 := Lib.hid (HVg0_9.out.call hb10)
  clear hb10
  clear HB9 HOt0_9 HOw0_4_9 HOw0_5_9 HOx0_9 HOg0_4_9 HOg0_5_9 HOy0_9 HVw0_9 HVg0_9
  have qg0_0 := HVg0_10.out.cell 0 _ rfl
  have qg0_1 := HVg0_10.out.cell 1 _ rfl
  have qg0_2 := HVg0_10.out.cell 2 _ rfl
  have qg0_3 := HVg0_10.out.cell 3 _ rfl
  have qg0_4 := HVg0_10.out.cell 4 _ rfl
  have qg0_5 := HVg0_10.out.cell 5 _ rfl
  go_wp2_with fail
  refine (markMessage_any (rmM h0).x0 (rmM h0).x1 (rmM h0).x2 (rmM h0).x3 Ag04 (rmM h0).h.length cg04 Ag05 (rmM h0).b.length cg05 1 _ _ _ _ _ (by have := (rmM_few h0).1; omega) (by have := (rmM_few h0).2; omega) (by omega) (by omega) HOg0_4_10.out HOg0_5_10.out HSEPg0.out).mono ?_
  rintro e w11 ⟨rfl, hown11_4, hown11_5, hg11⟩
  clear qg0_0 qg0_1 qg0_2 qg0_3 qg0_4 qg0_5
  have hz11 := hg11.size
  have HB11 := Lib.hid (Gr.below HB10.out hg11 HB10.out.size (fun k hk e => by skip; rcases e with e | e <;> first | (have h9 := LOg0_4.out _ e; omega) | (have h9 := LOg0_5.out _ e; omega)))
  have HOt0_11 := Lib.hid (own_gr HOt0_10.out hg11 (fun k hk e => by have h8 := LOt0.out k hk; rcases e with e | e <;> first | (have h9 := LOg0_4.out _ e; omega) | (have h9 := LOg0_5.out _ e; omega)))
  have HOw0_4_11 := Lib.hid (own_gr HOw0_4_10.out hg11 (fun k hk e => by have h8 := LOw0_4.out k hk; rcases e with e | e <;> first | (have h9 := LOg0_4.out _ e; omega) | (have h9 := LOg0_5.out _ e; omega)))
  have HOw0_5_11 := Lib.hid (own_gr HOw0_5_10.out hg11 (fun k hk e => by have h8 := LOw0_5.out k hk; rcases e with e | e <;> first | (have h9 := LOg0_4.out _ e; omega) | (have h9 := LOg0_5.out _ e; omega)))
  have HOx0_11 := Lib.hid (own_gr HOx0_10.out hg11 (fun k hk e => by have h8 := LOx0.out k hk; rcases e with e | e <;> first | (have h9 := LOg0_4.out _ e; omega) | (have h9 := LOg0_5.out _ e; omega)))
  have HOy0_11 := Lib.hid (own_gr HOy0_10.out hg11 (fun k hk e => by have h8 := LOy0.out k hk; rcases e with e | e <;> first | (have h9 := LOg0_4.out _ e; omega) | (have h9 := LOg0_5.out _ e; omega)))
  have HVw0_11 := Lib.hid (HVw0_10.out.gr hg11 (fun e => by skip; rcases e with e | e <;> first | (have h9 := LOg0_4.out _ e; omega) | (have h9 := LOg0_5.out _ e; omega)))
  have HVg0_11 := Lib.hid (HVg0_10.out.gr hg11 (fun e => by skip; rcases e with e | e <;> first | (have h9 := LOg0_4.out _ e; omega) | (have h9 := LOg0_5.out _ e; omega)))
  have HOg0_4_11 := Lib.hid hown11_4
  have HOg0_5_11 := Lib.hid hown11_5
  clear hg11 hown11_4 hown11_5
  clear HB10 HOt0_10 HOw0_4_10 HOw0_5_10 HOx0_10 HOg0_4_10 HOg0_5_10 HOy0_10 HVw0_10 HVg0_10
  have qg0_0 := HVg0_11.out.cell 0 _ rfl
  have qg0_1 := HVg0_11.out.cell 1 _ rfl
  have qg0_2 := HVg0_11.out.cell 2 _ rfl
  have qg0_3 := HVg0_11.out.cell 3 _ rfl
  have qg0_4 := HVg0_11.out.cell 4 _ rfl
  have qg0_5 := HVg0_11.out.cell 5 _ rfl
  go_wp2_with fail
  refine (heldMessage_any (rmM h0).x0 (rmM h0).x1 (rmM h0).x2 (rmM h0).x3 Ag04 (rmM h0).h.length cg04 Ag05 (rmM h0).b.length cg05 1 _ (by have := (rmM_few h0).1; omega) (by have := (rmM_few h0).2; omega) (by omega) (by omega) (Sees.of_own HOg0_4_11.out) (Sees.of_own HOg0_5_11.out)).mono ?_
  rintro e w12 ⟨rfl, hb12⟩
  clear qg0_0 qg0_1 qg0_2 qg0_3 qg0_4 qg0_5
  have hz12 := hb12.size
  have HB12 := Lib.hid (btrans HB11.out hb12)
  have HOt0_12 := Lib.hid (own_call HOt0_11.out hb12)
  have HOw0_4_12 := Lib.hid (own_call HOw0_4_11.out hb12)
  have HOw0_5_12 := Lib.hid (own_call HOw0_5_11.out hb12)
  have HOx0_12 := Lib.hid (own_call HOx0_11.out hb12)
  have HOg0_4_12 := Lib.hid (own_call HOg0_4_11.out hb12)
  have HOg0_5_12 := Lib.hid (own_call HOg0_5_11.out hb12)
  have HOy0_12 := Lib.hid (own_call HOy0_11.out hb12)
  have HVw0_12 := Lib.hid (HVw0_11.out.call hb12)
  have HVg0_12 := Lib.hid (HVg0_11.out.call hb12)
  clear hb12
  clear HB11 HOt0_11 HOw0_4_11 HOw0_5_11 HOx0_11 HOg0_4_11 HOg0_5_11 HOy0_11 HVw0_11 HVg0_11
  go_wp2_with fail
  refine ((tos_any A0 n0 c0 h0 _ HN0q.out (by omega) ((HR0q.out.below HB12.out (Nat.le_refl _)).more HB12.out.size)).mono fun _ _ h => NewRow.of h).mono ?_
  rintro e w13 ⟨gz0, rfl, hown13, hgl13, hb13⟩
  clear hgl13
  have hz13 := hb13.size
  have HB13 := Lib.hid (btrans HB12.out hb13)
  have HOt0_13 := Lib.hid (own_call HOt0_12.out hb13)
  have HOw0_4_13 := Lib.hid (own_call HOw0_4_12.out hb13)
  have HOw0_5_13 := Lib.hid (own_call HOw0_5_12.out hb13)
  have HOx0_13 := Lib.hid (own_call HOx0_12.out hb13)
  have HOg0_4_13 := Lib.hid (own_call HOg0_4_12.out hb13)
  have HOg0_5_13 := Lib.hid (own_call HOg0_5_12.out hb13)
  have HOy0_13 := Lib.hid (own_call HOy0_12.out hb13)
  have HVw0_13 := Lib.hid (HVw0_12.out.call hb13)
  have HVg0_13 := Lib.hid (HVg0_12.out.call hb13)
  have HOz0_13 := Lib.hid hown13
  have LOz0 := Lib.hid (own_rng hown13 (lo := w12.heap.size) (by simp <;> omega))
  clear hb13 hown13
  clear HB12 HOt0_12 HOw0_4_12 HOw0_5_12 HOx0_12 HOg0_4_12 HOg0_5_12 HOy0_12 HVw0_12 HVg0_12
  go_wp2_with fail
  refine (irm_any (some ⟨gz0, 0, none⟩) n0 n0 h0 _ HN0q.out (by omega) (own_cap HOz0_13.out) (Sees.of_own HOz0_13.out) (fun s hs => by have := OK0.out.2 s hs; omega) _ _ rfl rfl).mono ?_
  rintro e w14 ⟨Ah04, ch04, Ah05, ch05, rfl, hown14_4, hown14_5, hseph0, hb14⟩
  have hz14 := hb14.size
  have HB14 := Lib.hid (btrans HB13.out hb14)
  have HOt0_14 := Lib.hid (own_call HOt0_13.out hb14)
  have HOw0_4_14 := Lib.hid (own_call HOw0_4_13.out hb14)
  have HOw0_5_14 := Lib.hid (own_call HOw0_5_13.out hb14)
  have HOx0_14 := Lib.hid (own_call HOx0_13.out hb14)
  have HOg0_4_14 := Lib.hid (own_call HOg0_4_13.out hb14)
  have HOg0_5_14 := Lib.hid (own_call HOg0_5_13.out hb14)
  have HOy0_14 := Lib.hid (own_call HOy0_13.out hb14)
  have HOz0_14 := Lib.hid (own_call HOz0_13.out hb14)
  have HVw0_14 := Lib.hid (HVw0_13.out.call hb14)
  have HVg0_14 := Lib.hid (HVg0_13.out.call hb14)
  have HOh0_4_14 := Lib.hid hown14_4
  have LOh0_4 := Lib.hid (own_rng hown14_4 (lo := w13.heap.size) (by simp <;> omega))
  have HOh0_5_14 := Lib.hid hown14_5
  have LOh0_5 := Lib.hid (own_rng hown14_5 (lo := w13.heap.size) (by simp <;> omega))
  clear hb14 hown14_4 hown14_5
  clear HB13 HOt0_13 HOw0_4_13 HOw0_5_13 HOx0_13 HOg0_4_13 HOg0_5_13 HOy0_13 HOz0_13 HVw0_13 HVg0_13
  have HSEPh0 := Lib.hid hseph0
  clear hseph0
  have qh0_0 := (Holds.new w14 28 #[.string (rmM h0).x0, .string (rmM h0).x1, .string (rmM h0).x2, .int .i64 (rmM h0).x3, .slice Ah04 (rmM h0).h.length ch04, .slice Ah05 (rmM h0).b.length ch05]).cell 0 _ rfl
  have qh0_1 := (Holds.new w14 28 #[.string (rmM h0).x0, .string (rmM h0).x1, .string (rmM h0).x2, .int .i64 (rmM h0).x3, .slice Ah04 (rmM h0).h.length ch04, .slice Ah05 (rmM h0).b.length ch05]).cell 1 _ rfl
  have qh0_2 := (Holds.new w14 28 #[.string (rmM h0).x0, .string (rmM h0).x1, .string (rmM h0).x2, .int .i64 (rmM h0).x3, .slice Ah04 (rmM h0).h.length ch04, .slice Ah05 (rmM h0).b.length ch05]).cell 2 _ rfl
  have qh0_3 := (Holds.new w14 28 #[.string (rmM h0).x0, .string (rmM h0).x1, .string (rmM h0).x2, .int .i64 (rmM h0).x3, .slice Ah04 (rmM h0).h.length ch04, .slice Ah05 (rmM h0).b.length ch05]).cell 3 _ rfl
  have qh0_4 := (Holds.new w14 28 #[.string (rmM h0).x0, .string (rmM h0).x1, .string (rmM h0).x2, .int .i64 (rmM h0).x3, .slice Ah04 (rmM h0).h.length ch04, .slice Ah05 (rmM h0).b.length ch05]).cell 4 _ rfl
  have qh0_5 := (Holds.new w14 28 #[.string (rmM h0).x0, .string (rmM h0).x1, .string (rmM h0).x2, .int .i64 (rmM h0).x3, .slice Ah04 (rmM h0).h.length ch04, .slice Ah05 (rmM h0).b.length ch05]).cell 5 _ rfl
  have qw0_0 := (HVw0_14.out.alloc (.cells #[.string (rmM h0).x0, .string (rmM h0).x1, .string (rmM h0).x2, .int .i64 (rmM h0).x3, .slice Ah04 (rmM h0).h.length ch04, .slice Ah05 (rmM h0).b.length ch05] 28)).cell 0 _ rfl
  have qw0_1 := (HVw0_14.out.alloc (.cells #[.string (rmM h0).x0, .string (rmM h0).x1, .string (rmM h0).x2, .int .i64 (rmM h0).x3, .slice Ah04 (rmM h0).h.length ch04, .slice Ah05 (rmM h0).b.length ch05] 28)).cell 1 _ rfl
  have qw0_2 := (HVw0_14.out.alloc (.cells #[.string (rmM h0).x0, .string (rmM h0).x1, .string (rmM h0).x2, .int .i64 (rmM h0).x3, .slice Ah04 (rmM h0).h.length ch04, .slice Ah05 (rmM h0).b.length ch05] 28)).cell 2 _ rfl
  have qw0_3 := (HVw0_14.out.alloc (.cells #[.string (rmM h0).x0, .string (rmM h0).x1, .string (rmM h0).x2, .int .i64 (rmM h0).x3, .slice Ah04 (rmM h0).h.length ch04, .slice Ah05 (rmM h0).b.length ch05] 28)).cell 3 _ rfl
  have qw0_4 := (HVw0_14.out.alloc (.cells #[.string (rmM h0).x0, .string (rmM h0).x1, .string (rmM h0).x2, .int .i64 (rmM h0).x3, .slice Ah04 (rmM h0).h.length ch04, .slice Ah05 (rmM h0).b.length ch05] 28)).cell 4 _ rfl
  have qw0_5 := (HVw0_14.out.alloc (.cells #[.string (rmM h0).x0, .string (rmM h0).x1, .string (rmM h0).x2, .int .i64 (rmM h0).x3, .slice Ah04 (rmM h0).h.length ch04, .slice Ah05 (rmM h0).b.length ch05] 28)).cell 5 _ rfl
  go_wp2_with fail
  refine (eqMessage_same ((rmM h0).x0) ((rmM h0).x1) ((rmM h0).x2) ((rmM h0).x3) Ah04 (rmM h0).h.length ch04 (rmM h0).h Ah05 (rmM h0).b.length ch05 (rmM h0).b Aw04 cw04 Aw05 cw05 _ rfl (by have := (rmM_few h0).1; unfold maxLen; omega) rfl (by have := (rmM_few h0).2; unfold maxLen; omega) (Sees.of_own (HOh0_4_14.out.alloc (.cells #[.string (rmM h0).x0, .string (rmM h0).x1, .string (rmM h0).x2, .int .i64 (rmM h0).x3, .slice Ah04 (rmM h0).h.length ch04, .slice Ah05 (rmM h0).b.length ch05] 28))) (Sees.of_own (HOw0_4_14.out.alloc (.cells #[.string (rmM h0).x0, .string (rmM h0).x1, .string (rmM h0).x2, .int .i64 (rmM h0).x3, .slice Ah04 (rmM h0).h.length ch04, .slice Ah05 (rmM h0).b.length ch05] 28))) (Sees.of_own (HOh0_5_14.out.alloc (.cells #[.string (rmM h0).x0, .string (rmM h0).x1, .string (rmM h0).x2, .int .i64 (rmM h0).x3, .slice Ah04 (rmM h0).h.length ch04, .slice Ah05 (rmM h0).b.length ch05] 28))) (Sees.of_own (HOw0_5_14.out.alloc (.cells #[.string (rmM h0).x0, .string (rmM h0).x1, .string (rmM h0).x2, .int .i64 (rmM h0).x3, .slice Ah04 (rmM h0).h.length ch04, .slice Ah05 (rmM h0).b.length ch05] 28)))).mono ?_
  rintro e w15 ⟨rfl, hb15⟩
  clear qh0_0 qh0_1 qh0_2 qh0_3 qh0_4 qh0_5 qw0_0 qw0_1 qw0_2 qw0_3 qw0_4 qw0_5
  have hz15 := hb15.size
  simp at hz15
  have HB15 := Lib.hid (btrans (balloc HB14.out (.cells #[.string (rmM h0).x0, .string (rmM h0).x1, .string (rmM h0).x2, .int .i64 (rmM h0).x3, .slice Ah04 (rmM h0).h.length ch04, .slice Ah05 (rmM h0).b.length ch05] 28)) hb15)
  have HOt0_15 := Lib.hid (own_call (HOt0_14.out.alloc (.cells #[.string (rmM h0).x0, .string (rmM h0).x1, .string (rmM h0).x2, .int .i64 (rmM h0).x3, .slice Ah04 (rmM h0).h.length ch04, .slice Ah05 (rmM h0).b.length ch05] 28)) hb15)
  have HOw0_4_15 := Lib.hid (own_call (HOw0_4_14.out.alloc (.cells #[.string (rmM h0).x0, .string (rmM h0).x1, .string (rmM h0).x2, .int .i64 (rmM h0).x3, .slice Ah04 (rmM h0).h.length ch04, .slice Ah05 (rmM h0).b.length ch05] 28)) hb15)
  have HOw0_5_15 := Lib.hid (own_call (HOw0_5_14.out.alloc (.cells #[.string (rmM h0).x0, .string (rmM h0).x1, .string (rmM h0).x2, .int .i64 (rmM h0).x3, .slice Ah04 (rmM h0).h.length ch04, .slice Ah05 (rmM h0).b.length ch05] 28)) hb15)
  have HOx0_15 := Lib.hid (own_call (HOx0_14.out.alloc (.cells #[.string (rmM h0).x0, .string (rmM h0).x1, .string (rmM h0).x2, .int .i64 (rmM h0).x3, .slice Ah04 (rmM h0).h.length ch04, .slice Ah05 (rmM h0).b.length ch05] 28)) hb15)
  have HOg0_4_15 := Lib.hid (own_call (HOg0_4_14.out.alloc (.cells #[.string (rmM h0).x0, .string (rmM h0).x1, .string (rmM h0).x2, .int .i64 (rmM h0).x3, .slice Ah04 (rmM h0).h.length ch04, .slice Ah05 (rmM h0).b.length ch05] 28)) hb15)
  have HOg0_5_15 := Lib.hid (own_call (HOg0_5_14.out.alloc (.cells #[.string (rmM h0).x0, .string (rmM h0).x1, .string (rmM h0).x2, .int .i64 (rmM h0).x3, .slice Ah04 (rmM h0).h.length ch04, .slice Ah05 (rmM h0).b.length ch05] 28)) hb15)
  have HOy0_15 := Lib.hid (own_call (HOy0_14.out.alloc (.cells #[.string (rmM h0).x0, .string (rmM h0).x1, .string (rmM h0).x2, .int .i64 (rmM h0).x3, .slice Ah04 (rmM h0).h.length ch04, .slice Ah05 (rmM h0).b.length ch05] 28)) hb15)
  have HOz0_15 := Lib.hid (own_call (HOz0_14.out.alloc (.cells #[.string (rmM h0).x0, .string (rmM h0).x1, .string (rmM h0).x2, .int .i64 (rmM h0).x3, .slice Ah04 (rmM h0).h.length ch04, .slice Ah05 (rmM h0).b.length ch05] 28)) hb15)
  have HOh0_4_15 := Lib.hid (own_call (HOh0_4_14.out.alloc (.cells #[.string (rmM h0).x0, .string (rmM h0).x1, .string (rmM h0).x2, .int .i64 (rmM h0).x3, .slice Ah04 (rmM h0).h.length ch04, .slice Ah05 (rmM h0).b.length ch05] 28)) hb15)
  have HOh0_5_15 := Lib.hid (own_call (HOh0_5_14.out.alloc (.cells #[.string (rmM h0).x0, .string (rmM h0).x1, .string (rmM h0).x2, .int .i64 (rmM h0).x3, .slice Ah04 (rmM h0).h.length ch04, .slice Ah05 (rmM h0).b.length ch05] 28)) hb15)
  have HVw0_15 := Lib.hid ((HVw0_14.out.alloc (.cells #[.string (rmM h0).x0, .string (rmM h0).x1, .string (rmM h0).x2, .int .i64 (rmM h0).x3, .slice Ah04 (rmM h0).h.length ch04, .slice Ah05 (rmM h0).b.length ch05] 28)).call hb15)
  have HVg0_15 := Lib.hid ((HVg0_14.out.alloc (.cells #[.string (rmM h0).x0, .string (rmM h0).x1, .string (rmM h0).x2, .int .i64 (rmM h0).x3, .slice Ah04 (rmM h0).h.length ch04, .slice Ah05 (rmM h0).b.length ch05] 28)).call hb15)
  have HVh0_15 := Lib.hid ((Holds.new w14 28 #[.string (rmM h0).x0, .string (rmM h0).x1, .string (rmM h0).x2, .int .i64 (rmM h0).x3, .slice Ah04 (rmM h0).h.length ch04, .slice Ah05 (rmM h0).b.length ch05]).call hb15)
  clear hb15
  clear HB14 HOt0_14 HOw0_4_14 HOw0_5_14 HOx0_14 HOg0_4_14 HOg0_5_14 HOy0_14 HOz0_14 HOh0_4_14 HOh0_5_14 HVw0_14 HVg0_14
  have qg0_0 := HVg0_15.out.cell 0 _ rfl
  have qg0_1 := HVg0_15.out.cell 1 _ rfl
  have qg0_2 := HVg0_15.out.cell 2 _ rfl
  have qg0_3 := HVg0_15.out.cell 3 _ rfl
  have qg0_4 := HVg0_15.out.cell 4 _ rfl
  have qg0_5 := HVg0_15.out.cell 5 _ rfl
  go_wp2_with fail
  refine (heldMessage_any (rmM h0).x0 (rmM h0).x1 (rmM h0).x2 (rmM h0).x3 Ag04 (rmM h0).h.length cg04 Ag05 (rmM h0).b.length cg05 1 _ (by have := (rmM_few h0).1; omega) (by have := (rmM_few h0).2; omega) (by omega) (by omega) (Sees.of_own HOg0_4_15.out) (Sees.of_own HOg0_5_15.out)).mono ?_
  rintro e w16 ⟨rfl, hb16⟩
  clear qg0_0 qg0_1 qg0_2 qg0_3 qg0_4 qg0_5
  have hz16 := hb16.size
  have HB16 := Lib.hid (btrans HB15.out hb16)
  have HOt0_16 := Lib.hid (own_call HOt0_15.out hb16)
  have HOw0_4_16 := Lib.hid (own_call HOw0_4_15.out hb16)
  have HOw0_5_16 := Lib.hid (own_call HOw0_5_15.out hb16)
  have HOx0_16 := Lib.hid (own_call HOx0_15.out hb16)
  have HOg0_4_16 := Lib.hid (own_call HOg0_4_15.out hb16)
  have HOg0_5_16 := Lib.hid (own_call HOg0_5_15.out hb16)
  have HOy0_16 := Lib.hid (own_call HOy0_15.out hb16)
  have HOz0_16 := Lib.hid (own_call HOz0_15.out hb16)
  have HOh0_4_16 := Lib.hid (own_call HOh0_4_15.out hb16)
  have HOh0_5_16 := Lib.hid (own_call HOh0_5_15.out hb16)
  have HVw0_16 := Lib.hid (HVw0_15.out.call hb16)
  have HVg0_16 := Lib.hid (HVg0_15.out.call hb16)
  have HVh0_16 := Lib.hid (HVh0_15.out.call hb16)
  clear hb16
  clear HB15 HOt0_15 HOw0_4_15 HOw0_5_15 HOx0_15 HOg0_4_15 HOg0_5_15 HOy0_15 HOz0_15 HOh0_4_15 HOh0_5_15 HVw0_15 HVg0_15 HVh0_15
  go_wp2
  go_ret
  exact ⟨rfl, HB16.out⟩

set_option maxHeartbeats 8000000 in
theorem walk_FnExactAnswerTo (x0_0 : ByteArray) (w0_0 : x0_0.size ≤ maxLen) (x0_1 : ByteArray) (w0_1 : x0_1.size ≤ maxLen) (x0_2 : ByteArray) (w0_2 : x0_2.size ≤ maxLen) (x0_3 : Int) (w0_3 : (Lit.int .i64 x0_3).wf = true) (A0_4 : Option Addr) (n0_4 c0_4 : Nat) (h0_4 : List HeadM) (hn0_4 : n0_4 = h0_4.length) (hc0_4 : n0_4 ≤ maxLen) (hm0_4 : headMax h0_4) (A0_5 : Option Addr) (n0_5 c0_5 : Nat) (h0_5 : List ByteArray) (hn0_5 : n0_5 = h0_5.length) (hc0_5 : n0_5 ≤ maxLen) (hm0_5 : strsMax h0_5) (i1 : Int) (wi1 : (Lit.int .i64 i1).wf = true) (w : World) (hr0_4 : Sees w w.heap.size 2 A0_4 n0_4 (flat headC h0_4)) (hr0_5 : Sees w w.heap.size 1 A0_5 n0_5 (flat strC h0_5)) :
    Calls Try.prog 10 #[.agg #[.string x0_0, .string x0_1, .string x0_2, .int .i64 x0_3, .slice A0_4 n0_4 c0_4, .slice A0_5 n0_5 c0_5], .int .i64 i1] w fun e w' => e = .returned (.bool true) ∧ Below w.heap.size w w' := by
  have W0_0q := Lib.hid w0_0
  have W0_1q := Lib.hid w0_1
  have W0_2q := Lib.hid w0_2
  have W0_3q := Lib.hid w0_3
  have HN0_4q := Lib.hid hn0_4
  have HC0_4q := Lib.hid hc0_4
  have HM0_4q := Lib.hid hm0_4
  have HR0_4q := Lib.hid hr0_4
  have HN0_5q := Lib.hid hn0_5
  have HC0_5q := Lib.hid hc0_5
  have HM0_5q := Lib.hid hm0_5
  have HR0_5q := Lib.hid hr0_5
  have WI1q := Lib.hid wi1
  clear w0_0 w0_1 w0_2 w0_3 hn0_4 hc0_4 hm0_4 hr0_4 hn0_5 hc0_5 hm0_5 hr0_5 wi1
  go_enter Try.func10, Try.ntmps10
  go_wp2_with fail
  refine (szMessage_any x0_0 x0_1 x0_2 x0_3 A0_4 n0_4 c0_4 h0_4 A0_5 n0_5 c0_5 h0_5 1048576 _ (by omega) (by omega) W0_0q.out W0_1q.out W0_2q.out HN0_4q.out HC0_4q.out HM0_4q.out HN0_5q.out HC0_5q.out HM0_5q.out ((HR0_4q.out.below ((Below.refl w.heap.size w).alloc (by simp <;> omega) (.cells #[.string x0_0, .string x0_1, .string x0_2, .int .i64 x0_3, .slice A0_4 n0_4 c0_4, .slice A0_5 n0_5 c0_5] 47)) (Nat.le_refl _)).more ((Below.refl w.heap.size w).alloc (by simp <;> omega) (.cells #[.string x0_0, .string x0_1, .string x0_2, .int .i64 x0_3, .slice A0_4 n0_4 c0_4, .slice A0_5 n0_5 c0_5] 47)).size) ((HR0_5q.out.below ((Below.refl w.heap.size w).alloc (by simp <;> omega) (.cells #[.string x0_0, .string x0_1, .string x0_2, .int .i64 x0_3, .slice A0_4 n0_4 c0_4, .slice A0_5 n0_5 c0_5] 47)) (Nat.le_refl _)).more ((Below.refl w.heap.size w).alloc (by simp <;> omega) (.cells #[.string x0_0, .string x0_1, .string x0_2, .int .i64 x0_3, .slice A0_4 n0_4 c0_4, .slice A0_5 n0_5 c0_5] 47)).size)).mono ?_
  rintro e w1 ⟨v0, rfl, hv0, hb1⟩
  have hz1 := hb1.size
  simp at hz1
  have HB1 := Lib.hid (btrans ((Below.refl w.heap.size w).alloc (by simp <;> omega) (.cells #[.string x0_0, .string x0_1, .string x0_2, .int .i64 x0_3, .slice A0_4 n0_4 c0_4, .slice A0_5 n0_5 c0_5] 47)) hb1)
  have HVa0_1 := Lib.hid ((Holds.new w 47 #[.string x0_0, .string x0_1, .string x0_2, .int .i64 x0_3, .slice A0_4 n0_4 c0_4, .slice A0_5 n0_5 c0_5]).call hb1)
  clear hb1
  by_cases hneg0 : v0 < 0
  · clear hv0
    go_wp2
    go_ret
    exact ⟨rfl, HB1.out⟩
  obtain ⟨hv0a, hv0b, hv0c⟩ := hv0.resolve_left hneg0
  have OK0 := Lib.hid hv0c
  have hlen0_4 : n0_4 ≤ 1048576 := by have := (hv0c.2.2.2.1).1; have := HN0_4q.out; omega
  have hlen0_5 : n0_5 ≤ 1048576 := by have := (hv0c.2.2.2.2).1; have := HN0_5q.out; omega
  clear hv0 hv0c
  have qa0_0 := HVa0_1.out.cell 0 _ rfl
  have qa0_1 := HVa0_1.out.cell 1 _ rfl
  have qa0_2 := HVa0_1.out.cell 2 _ rfl
  have qa0_3 := HVa0_1.out.cell 3 _ rfl
  have qa0_4 := HVa0_1.out.cell 4 _ rfl
  have qa0_5 := HVa0_1.out.cell 5 _ rfl
  go_wp2_with fail
  refine (toMessage_any x0_0 x0_1 x0_2 x0_3 A0_4 n0_4 c0_4 h0_4 A0_5 n0_5 c0_5 h0_5 _ HN0_4q.out (by omega) HN0_5q.out (by omega) ((HR0_4q.out.below HB1.out (Nat.le_refl _)).more HB1.out.size) ((HR0_5q.out.below HB1.out (Nat.le_refl _)).more HB1.out.size)).mono ?_
  rintro e w2 ⟨gt04, gt05, rfl, hown2_4, hown2_5, hgs2, hb2⟩
  clear qa0_0 qa0_1 qa0_2 qa0_3 qa0_4 qa0_5
  have hz2 := hb2.size
  have HB2 := Lib.hid (btrans HB1.out hb2)
  have HVa0_2 := Lib.hid (HVa0_1.out.call hb2)
  have HOt0_4_2 := Lib.hid hown2_4
  have LOt0_4 := Lib.hid (own_rng hown2_4 (lo := w1.heap.size) (by simp <;> omega))
  have HOt0_5_2 := Lib.hid hown2_5
  have LOt0_5 := Lib.hid (own_rng hown2_5 (lo := w1.heap.size) (by simp <;> omega))
  clear hb2 hown2_4 hown2_5
  clear HB1 HVa0_1
  have HGSt0 := Lib.hid hgs2
  clear hgs2
  go_wp2_with fail
  refine (sans_any x0_0 x0_1 x0_2 x0_3 (some ⟨gt04, 0, none⟩) n0_4 n0_4 h0_4 (some ⟨gt05, 0, none⟩) n0_5 n0_5 h0_5 i1 _ W0_0q.out W0_1q.out W0_2q.out HN0_4q.out (by unfold maxLen; omega) HM0_4q.out HN0_5q.out (by unfold maxLen; omega) HM0_5q.out (Sees.of_own HOt0_4_2.out) (Sees.of_own HOt0_5_2.out)).mono ?_
  rintro e w3 ⟨Aw04, cw04, Aw05, cw05, rfl, hown3_4, hown3_5, hsepw0, hb3⟩
  have hz3 := hb3.size
  have HB3 := Lib.hid (btrans HB2.out hb3)
  have HOt0_4_3 := Lib.hid (own_call HOt0_4_2.out hb3)
  have HOt0_5_3 := Lib.hid (own_call HOt0_5_2.out hb3)
  have HVa0_3 := Lib.hid (HVa0_2.out.call hb3)
  have HOw0_4_3 := Lib.hid hown3_4
  have LOw0_4 := Lib.hid (own_rng hown3_4 (lo := w2.heap.size) (by simp <;> omega))
  have HOw0_5_3 := Lib.hid hown3_5
  have LOw0_5 := Lib.hid (own_rng hown3_5 (lo := w2.heap.size) (by simp <;> omega))
  clear hb3 hown3_4 hown3_5
  clear HB2 HOt0_4_2 HOt0_5_2 HVa0_2
  have HSEPw0 := Lib.hid hsepw0
  clear hsepw0
  have qa0_0 := (HVa0_3.out.alloc (.cells #[.string (ansR (⟨x0_0, x0_1, x0_2, x0_3, h0_4, h0_5⟩ : MsgM) i1).x0, .string (ansR (⟨x0_0, x0_1, x0_2, x0_3, h0_4, h0_5⟩ : MsgM) i1).x1, .string (ansR (⟨x0_0, x0_1, x0_2, x0_3, h0_4, h0_5⟩ : MsgM) i1).x2, .int .i64 (ansR (⟨x0_0, x0_1, x0_2, x0_3, h0_4, h0_5⟩ : MsgM) i1).x3, .slice Aw04 (ansR (⟨x0_0, x0_1, x0_2, x0_3, h0_4, h0_5⟩ : MsgM) i1).h.length cw04, .slice Aw05 (ansR (⟨x0_0, x0_1, x0_2, x0_3, h0_4, h0_5⟩ : MsgM) i1).b.length cw05] 28)).cell 0 _ rfl
  have qa0_1 := (HVa0_3.out.alloc (.cells #[.string (ansR (⟨x0_0, x0_1, x0_2, x0_3, h0_4, h0_5⟩ : MsgM) i1).x0, .string (ansR (⟨x0_0, x0_1, x0_2, x0_3, h0_4, h0_5⟩ : MsgM) i1).x1, .string (ansR (⟨x0_0, x0_1, x0_2, x0_3, h0_4, h0_5⟩ : MsgM) i1).x2, .int .i64 (ansR (⟨x0_0, x0_1, x0_2, x0_3, h0_4, h0_5⟩ : MsgM) i1).x3, .slice Aw04 (ansR (⟨x0_0, x0_1, x0_2, x0_3, h0_4, h0_5⟩ : MsgM) i1).h.length cw04, .slice Aw05 (ansR (⟨x0_0, x0_1, x0_2, x0_3, h0_4, h0_5⟩ : MsgM) i1).b.length cw05] 28)).cell 1 _ rfl
  have qa0_2 := (HVa0_3.out.alloc (.cells #[.string (ansR (⟨x0_0, x0_1, x0_2, x0_3, h0_4, h0_5⟩ : MsgM) i1).x0, .string (ansR (⟨x0_0, x0_1, x0_2, x0_3, h0_4, h0_5⟩ : MsgM) i1).x1, .string (ansR (⟨x0_0, x0_1, x0_2, x0_3, h0_4, h0_5⟩ : MsgM) i1).x2, .int .i64 (ansR (⟨x0_0, x0_1, x0_2, x0_3, h0_4, h0_5⟩ : MsgM) i1).x3, .slice Aw04 (ansR (⟨x0_0, x0_1, x0_2, x0_3, h0_4, h0_5⟩ : MsgM) i1).h.length cw04, .slice Aw05 (ansR (⟨x0_0, x0_1, x0_2, x0_3, h0_4, h0_5⟩ : MsgM) i1).b.length cw05] 28)).cell 2 _ rfl
  have qa0_3 := (HVa0_3.out.alloc (.cells #[.string (ansR (⟨x0_0, x0_1, x0_2, x0_3, h0_4, h0_5⟩ : MsgM) i1).x0, .string (ansR (⟨x0_0, x0_1, x0_2, x0_3, h0_4, h0_5⟩ : MsgM) i1).x1, .string (ansR (⟨x0_0, x0_1, x0_2, x0_3, h0_4, h0_5⟩ : MsgM) i1).x2, .int .i64 (ansR (⟨x0_0, x0_1, x0_2, x0_3, h0_4, h0_5⟩ : MsgM) i1).x3, .slice Aw04 (ansR (⟨x0_0, x0_1, x0_2, x0_3, h0_4, h0_5⟩ : MsgM) i1).h.length cw04, .slice Aw05 (ansR (⟨x0_0, x0_1, x0_2, x0_3, h0_4, h0_5⟩ : MsgM) i1).b.length cw05] 28)).cell 3 _ rfl
  have qa0_4 := (HVa0_3.out.alloc (.cells #[.string (ansR (⟨x0_0, x0_1, x0_2, x0_3, h0_4, h0_5⟩ : MsgM) i1).x0, .string (ansR (⟨x0_0, x0_1, x0_2, x0_3, h0_4, h0_5⟩ : MsgM) i1).x1, .string (ansR (⟨x0_0, x0_1, x0_2, x0_3, h0_4, h0_5⟩ : MsgM) i1).x2, .int .i64 (ansR (⟨x0_0, x0_1, x0_2, x0_3, h0_4, h0_5⟩ : MsgM) i1).x3, .slice Aw04 (ansR (⟨x0_0, x0_1, x0_2, x0_3, h0_4, h0_5⟩ : MsgM) i1).h.length cw04, .slice Aw05 (ansR (⟨x0_0, x0_1, x0_2, x0_3, h0_4, h0_5⟩ : MsgM) i1).b.length cw05] 28)).cell 4 _ rfl
  have qa0_5 := (HVa0_3.out.alloc (.cells #[.string (ansR (⟨x0_0, x0_1, x0_2, x0_3, h0_4, h0_5⟩ : MsgM) i1).x0, .string (ansR (⟨x0_0, x0_1, x0_2, x0_3, h0_4, h0_5⟩ : MsgM) i1).x1, .string (ansR (⟨x0_0, x0_1, x0_2, x0_3, h0_4, h0_5⟩ : MsgM) i1).x2, .int .i64 (ansR (⟨x0_0, x0_1, x0_2, x0_3, h0_4, h0_5⟩ : MsgM) i1).x3, .slice Aw04 (ansR (⟨x0_0, x0_1, x0_2, x0_3, h0_4, h0_5⟩ : MsgM) i1).h.length cw04, .slice Aw05 (ansR (⟨x0_0, x0_1, x0_2, x0_3, h0_4, h0_5⟩ : MsgM) i1).b.length cw05] 28)).cell 5 _ rfl
  go_wp2_with fail
  refine (toMessage_any x0_0 x0_1 x0_2 x0_3 A0_4 n0_4 c0_4 h0_4 A0_5 n0_5 c0_5 h0_5 _ HN0_4q.out (by omega) HN0_5q.out (by omega) ((HR0_4q.out.below (balloc HB3.out (.cells #[.string (ansR (⟨x0_0, x0_1, x0_2, x0_3, h0_4, h0_5⟩ : MsgM) i1).x0, .string (ansR (⟨x0_0, x0_1, x0_2, x0_3, h0_4, h0_5⟩ : MsgM) i1).x1, .string (ansR (⟨x0_0, x0_1, x0_2, x0_3, h0_4, h0_5⟩ : MsgM) i1).x2, .int .i64 (ansR (⟨x0_0, x0_1, x0_2, x0_3, h0_4, h0_5⟩ : MsgM) i1).x3, .slice Aw04 (ansR (⟨x0_0, x0_1, x0_2, x0_3, h0_4, h0_5⟩ : MsgM) i1).h.length cw04, .slice Aw05 (ansR (⟨x0_0, x0_1, x0_2, x0_3, h0_4, h0_5⟩ : MsgM) i1).b.length cw05] 28)) (Nat.le_refl _)).more (balloc HB3.out (.cells #[.string (ansR (⟨x0_0, x0_1, x0_2, x0_3, h0_4, h0_5⟩ : MsgM) i1).x0, .string (ansR (⟨x0_0, x0_1, x0_2, x0_3, h0_4, h0_5⟩ : MsgM) i1).x1, .string (ansR (⟨x0_0, x0_1, x0_2, x0_3, h0_4, h0_5⟩ : MsgM) i1).x2, .int .i64 (ansR (⟨x0_0, x0_1, x0_2, x0_3, h0_4, h0_5⟩ : MsgM) i1).x3, .slice Aw04 (ansR (⟨x0_0, x0_1, x0_2, x0_3, h0_4, h0_5⟩ : MsgM) i1).h.length cw04, .slice Aw05 (ansR (⟨x0_0, x0_1, x0_2, x0_3, h0_4, h0_5⟩ : MsgM) i1).b.length cw05] 28)).size) ((HR0_5q.out.below (balloc HB3.out (.cells #[.string (ansR (⟨x0_0, x0_1, x0_2, x0_3, h0_4, h0_5⟩ : MsgM) i1).x0, .string (ansR (⟨x0_0, x0_1, x0_2, x0_3, h0_4, h0_5⟩ : MsgM) i1).x1, .string (ansR (⟨x0_0, x0_1, x0_2, x0_3, h0_4, h0_5⟩ : MsgM) i1).x2, .int .i64 (ansR (⟨x0_0, x0_1, x0_2, x0_3, h0_4, h0_5⟩ : MsgM) i1).x3, .slice Aw04 (ansR (⟨x0_0, x0_1, x0_2, x0_3, h0_4, h0_5⟩ : MsgM) i1).h.length cw04, .slice Aw05 (ansR (⟨x0_0, x0_1, x0_2, x0_3, h0_4, h0_5⟩ : MsgM) i1).b.length cw05] 28)) (Nat.le_refl _)).more (balloc HB3.out (.cells #[.string (ansR (⟨x0_0, x0_1, x0_2, x0_3, h0_4, h0_5⟩ : MsgM) i1).x0, .string (ansR (⟨x0_0, x0_1, x0_2, x0_3, h0_4, h0_5⟩ : MsgM) i1).x1, .string (ansR (⟨x0_0, x0_1, x0_2, x0_3, h0_4, h0_5⟩ : MsgM) i1).x2, .int .i64 (ansR (⟨x0_0, x0_1, x0_2, x0_3, h0_4, h0_5⟩ : MsgM) i1).x3, .slice Aw04 (ansR (⟨x0_0, x0_1, x0_2, x0_3, h0_4, h0_5⟩ : MsgM) i1).h.length cw04, .slice Aw05 (ansR (⟨x0_0, x0_1, x0_2, x0_3, h0_4, h0_5⟩ : MsgM) i1).b.length cw05] 28)).size)).mono ?_
  rintro e w4 ⟨gx04, gx05, rfl, hown4_4, hown4_5, hgs4, hb4⟩
  clear qa0_0 qa0_1 qa0_2 qa0_3 qa0_4 qa0_5
  have hz4 := hb4.size
  simp at hz4
  have HB4 := Lib.hid (btrans (balloc HB3.out (.cells #[.string (ansR (⟨x0_0, x0_1, x0_2, x0_3, h0_4, h0_5⟩ : MsgM) i1).x0, .string (ansR (⟨x0_0, x0_1, x0_2, x0_3, h0_4, h0_5⟩ : MsgM) i1).x1, .string (ansR (⟨x0_0, x0_1, x0_2, x0_3, h0_4, h0_5⟩ : MsgM) i1).x2, .int .i64 (ansR (⟨x0_0, x0_1, x0_2, x0_3, h0_4, h0_5⟩ : MsgM) i1).x3, .slice Aw04 (ansR (⟨x0_0, x0_1, x0_2, x0_3, h0_4, h0_5⟩ : MsgM) i1).h.length cw04, .slice Aw05 (ansR (⟨x0_0, x0_1, x0_2, x0_3, h0_4, h0_5⟩ : MsgM) i1).b.length cw05] 28)) hb4)
  have HOt0_4_4 := Lib.hid (own_call (HOt0_4_3.out.alloc (.cells #[.string (ansR (⟨x0_0, x0_1, x0_2, x0_3, h0_4, h0_5⟩ : MsgM) i1).x0, .string (ansR (⟨x0_0, x0_1, x0_2, x0_3, h0_4, h0_5⟩ : MsgM) i1).x1, .string (ansR (⟨x0_0, x0_1, x0_2, x0_3, h0_4, h0_5⟩ : MsgM) i1).x2, .int .i64 (ansR (⟨x0_0, x0_1, x0_2, x0_3, h0_4, h0_5⟩ : MsgM) i1).x3, .slice Aw04 (ansR (⟨x0_0, x0_1, x0_2, x0_3, h0_4, h0_5⟩ : MsgM) i1).h.length cw04, .slice Aw05 (ansR (⟨x0_0, x0_1, x0_2, x0_3, h0_4, h0_5⟩ : MsgM) i1).b.length cw05] 28)) hb4)
  have HOt0_5_4 := Lib.hid (own_call (HOt0_5_3.out.alloc (.cells #[.string (ansR (⟨x0_0, x0_1, x0_2, x0_3, h0_4, h0_5⟩ : MsgM) i1).x0, .string (ansR (⟨x0_0, x0_1, x0_2, x0_3, h0_4, h0_5⟩ : MsgM) i1).x1, .string (ansR (⟨x0_0, x0_1, x0_2, x0_3, h0_4, h0_5⟩ : MsgM) i1).x2, .int .i64 (ansR (⟨x0_0, x0_1, x0_2, x0_3, h0_4, h0_5⟩ : MsgM) i1).x3, .slice Aw04 (ansR (⟨x0_0, x0_1, x0_2, x0_3, h0_4, h0_5⟩ : MsgM) i1).h.length cw04, .slice Aw05 (ansR (⟨x0_0, x0_1, x0_2, x0_3, h0_4, h0_5⟩ : MsgM) i1).b.length cw05] 28)) hb4)
  have HOw0_4_4 := Lib.hid (own_call (HOw0_4_3.out.alloc (.cells #[.string (ansR (⟨x0_0, x0_1, x0_2, x0_3, h0_4, h0_5⟩ : MsgM) i1).x0, .string (ansR (⟨x0_0, x0_1, x0_2, x0_3, h0_4, h0_5⟩ : MsgM) i1).x1, .string (ansR (⟨x0_0, x0_1, x0_2, x0_3, h0_4, h0_5⟩ : MsgM) i1).x2, .int .i64 (ansR (⟨x0_0, x0_1, x0_2, x0_3, h0_4, h0_5⟩ : MsgM) i1).x3, .slice Aw04 (ansR (⟨x0_0, x0_1, x0_2, x0_3, h0_4, h0_5⟩ : MsgM) i1).h.length cw04, .slice Aw05 (ansR (⟨x0_0, x0_1, x0_2, x0_3, h0_4, h0_5⟩ : MsgM) i1).b.length cw05] 28)) hb4)
  have HOw0_5_4 := Lib.hid (own_call (HOw0_5_3.out.alloc (.cells #[.string (ansR (⟨x0_0, x0_1, x0_2, x0_3, h0_4, h0_5⟩ : MsgM) i1).x0, .string (ansR (⟨x0_0, x0_1, x0_2, x0_3, h0_4, h0_5⟩ : MsgM) i1).x1, .string (ansR (⟨x0_0, x0_1, x0_2, x0_3, h0_4, h0_5⟩ : MsgM) i1).x2, .int .i64 (ansR (⟨x0_0, x0_1, x0_2, x0_3, h0_4, h0_5⟩ : MsgM) i1).x3, .slice Aw04 (ansR (⟨x0_0, x0_1, x0_2, x0_3, h0_4, h0_5⟩ : MsgM) i1).h.length cw04, .slice Aw05 (ansR (⟨x0_0, x0_1, x0_2, x0_3, h0_4, h0_5⟩ : MsgM) i1).b.length cw05] 28)) hb4)
  have HVa0_4 := Lib.hid ((HVa0_3.out.alloc (.cells #[.string (ansR (⟨x0_0, x0_1, x0_2, x0_3, h0_4, h0_5⟩ : MsgM) i1).x0, .string (ansR (⟨x0_0, x0_1, x0_2, x0_3, h0_4, h0_5⟩ : MsgM) i1).x1, .string (ansR (⟨x0_0, x0_1, x0_2, x0_3, h0_4, h0_5⟩ : MsgM) i1).x2, .int .i64 (ansR (⟨x0_0, x0_1, x0_2, x0_3, h0_4, h0_5⟩ : MsgM) i1).x3, .slice Aw04 (ansR (⟨x0_0, x0_1, x0_2, x0_3, h0_4, h0_5⟩ : MsgM) i1).h.length cw04, .slice Aw05 (ansR (⟨x0_0, x0_1, x0_2, x0_3, h0_4, h0_5⟩ : MsgM) i1).b.length cw05] 28)).call hb4)
  have HVw0_4 := Lib.hid ((Holds.new w3 28 #[.string (ansR (⟨x0_0, x0_1, x0_2, x0_3, h0_4, h0_5⟩ : MsgM) i1).x0, .string (ansR (⟨x0_0, x0_1, x0_2, x0_3, h0_4, h0_5⟩ : MsgM) i1).x1, .string (ansR (⟨x0_0, x0_1, x0_2, x0_3, h0_4, h0_5⟩ : MsgM) i1).x2, .int .i64 (ansR (⟨x0_0, x0_1, x0_2, x0_3, h0_4, h0_5⟩ : MsgM) i1).x3, .slice Aw04 (ansR (⟨x0_0, x0_1, x0_2, x0_3, h0_4, h0_5⟩ : MsgM) i1).h.length cw04, .slice Aw05 (ansR (⟨x0_0, x0_1, x0_2, x0_3, h0_4, h0_5⟩ : MsgM) i1).b.length cw05]).call hb4)
  have HOx0_4_4 := Lib.hid hown4_4
  have LOx0_4 := Lib.hid (own_rng hown4_4 (lo := w3.heap.size + 1) (by simp <;> omega))
  have HOx0_5_4 := Lib.hid hown4_5
  have LOx0_5 := Lib.hid (own_rng hown4_5 (lo := w3.heap.size + 1) (by simp <;> omega))
  clear hb4 hown4_4 hown4_5
  clear HB3 HOt0_4_3 HOt0_5_3 HOw0_4_3 HOw0_5_3 HVa0_3
  have HGSx0 := Lib.hid hgs4
  clear hgs4
  have qx0_0 := (Holds.new w4 28 #[.string x0_0, .string x0_1, .string x0_2, .int .i64 x0_3, .slice (some ⟨gx04, 0, none⟩) n0_4 n0_4, .slice (some ⟨gx05, 0, none⟩) n0_5 n0_5]).cell 0 _ rfl
  have qx0_1 := (Holds.new w4 28 #[.string x0_0, .string x0_1, .string x0_2, .int .i64 x0_3, .slice (some ⟨gx04, 0, none⟩) n0_4 n0_4, .slice (some ⟨gx05, 0, none⟩) n0_5 n0_5]).cell 1 _ rfl
  have qx0_2 := (Holds.new w4 28 #[.string x0_0, .string x0_1, .string x0_2, .int .i64 x0_3, .slice (some ⟨gx04, 0, none⟩) n0_4 n0_4, .slice (some ⟨gx05, 0, none⟩) n0_5 n0_5]).cell 2 _ rfl
  have qx0_3 := (Holds.new w4 28 #[.string x0_0, .string x0_1, .string x0_2, .int .i64 x0_3, .slice (some ⟨gx04, 0, none⟩) n0_4 n0_4, .slice (some ⟨gx05, 0, none⟩) n0_5 n0_5]).cell 3 _ rfl
  have qx0_4 := (Holds.new w4 28 #[.string x0_0, .string x0_1, .string x0_2, .int .i64 x0_3, .slice (some ⟨gx04, 0, none⟩) n0_4 n0_4, .slice (some ⟨gx05, 0, none⟩) n0_5 n0_5]).cell 4 _ rfl
  have qx0_5 := (Holds.new w4 28 #[.string x0_0, .string x0_1, .string x0_2, .int .i64 x0_3, .slice (some ⟨gx04, 0, none⟩) n0_4 n0_4, .slice (some ⟨gx05, 0, none⟩) n0_5 n0_5]).cell 5 _ rfl
  go_wp2_with fail
  refine (ians_any x0_0 x0_1 x0_2 x0_3 (some ⟨gx04, 0, none⟩) n0_4 n0_4 h0_4 (some ⟨gx05, 0, none⟩) n0_5 n0_5 h0_5 i1 _ W0_0q.out W0_1q.out W0_2q.out HN0_4q.out (by unfold maxLen; omega) HM0_4q.out HN0_5q.out (by unfold maxLen; omega) HM0_5q.out (Sees.of_own (HOx0_4_4.out.alloc (.cells #[.string x0_0, .string x0_1, .string x0_2, .int .i64 x0_3, .slice (some ⟨gx04, 0, none⟩) n0_4 n0_4, .slice (some ⟨gx05, 0, none⟩) n0_5 n0_5] 28))) (Sees.of_own (HOx0_5_4.out.alloc (.cells #[.string x0_0, .string x0_1, .string x0_2, .int .i64 x0_3, .slice (some ⟨gx04, 0, none⟩) n0_4 n0_4, .slice (some ⟨gx05, 0, none⟩) n0_5 n0_5] 28)))).mono ?_
  rintro e w5 ⟨Ag04, cg04, Ag05, cg05, rfl, hown5_4, hown5_5, hsepg0, hb5⟩
  clear qx0_0 qx0_1 qx0_2 qx0_3 qx0_4 qx0_5
  have hz5 := hb5.size
  simp at hz5
  have HB5 := Lib.hid (btrans (balloc HB4.out (.cells #[.string x0_0, .string x0_1, .string x0_2, .int .i64 x0_3, .slice (some ⟨gx04, 0, none⟩) n0_4 n0_4, .slice (some ⟨gx05, 0, none⟩) n0_5 n0_5] 28)) hb5)
  have HOt0_4_5 := Lib.hid (own_call (HOt0_4_4.out.alloc (.cells #[.string x0_0, .string x0_1, .string x0_2, .int .i64 x0_3, .slice (some ⟨gx04, 0, none⟩) n0_4 n0_4, .slice (some ⟨gx05, 0, none⟩) n0_5 n0_5] 28)) hb5)
  have HOt0_5_5 := Lib.hid (own_call (HOt0_5_4.out.alloc (.cells #[.string x0_0, .string x0_1, .string x0_2, .int .i64 x0_3, .slice (some ⟨gx04, 0, none⟩) n0_4 n0_4, .slice (some ⟨gx05, 0, none⟩) n0_5 n0_5] 28)) hb5)
  have HOw0_4_5 := Lib.hid (own_call (HOw0_4_4.out.alloc (.cells #[.string x0_0, .string x0_1, .string x0_2, .int .i64 x0_3, .slice (some ⟨gx04, 0, none⟩) n0_4 n0_4, .slice (some ⟨gx05, 0, none⟩) n0_5 n0_5] 28)) hb5)
  have HOw0_5_5 := Lib.hid (own_call (HOw0_5_4.out.alloc (.cells #[.string x0_0, .string x0_1, .string x0_2, .int .i64 x0_3, .slice (some ⟨gx04, 0, none⟩) n0_4 n0_4, .slice (some ⟨gx05, 0, none⟩) n0_5 n0_5] 28)) hb5)
  have HOx0_4_5 := Lib.hid (own_call (HOx0_4_4.out.alloc (.cells #[.string x0_0, .string x0_1, .string x0_2, .int .i64 x0_3, .slice (some ⟨gx04, 0, none⟩) n0_4 n0_4, .slice (some ⟨gx05, 0, none⟩) n0_5 n0_5] 28)) hb5)
  have HOx0_5_5 := Lib.hid (own_call (HOx0_5_4.out.alloc (.cells #[.string x0_0, .string x0_1, .string x0_2, .int .i64 x0_3, .slice (some ⟨gx04, 0, none⟩) n0_4 n0_4, .slice (some ⟨gx05, 0, none⟩) n0_5 n0_5] 28)) hb5)
  have HVa0_5 := Lib.hid ((HVa0_4.out.alloc (.cells #[.string x0_0, .string x0_1, .string x0_2, .int .i64 x0_3, .slice (some ⟨gx04, 0, none⟩) n0_4 n0_4, .slice (some ⟨gx05, 0, none⟩) n0_5 n0_5] 28)).call hb5)
  have HVw0_5 := Lib.hid ((HVw0_4.out.alloc (.cells #[.string x0_0, .string x0_1, .string x0_2, .int .i64 x0_3, .slice (some ⟨gx04, 0, none⟩) n0_4 n0_4, .slice (some ⟨gx05, 0, none⟩) n0_5 n0_5] 28)).call hb5)
  have HVx0_5 := Lib.hid ((Holds.new w4 28 #[.string x0_0, .string x0_1, .string x0_2, .int .i64 x0_3, .slice (some ⟨gx04, 0, none⟩) n0_4 n0_4, .slice (some ⟨gx05, 0, none⟩) n0_5 n0_5]).call hb5)
  have HOg0_4_5 := Lib.hid hown5_4
  have LOg0_4 := Lib.hid (own_rng hown5_4 (lo := w4.heap.size + 1) (by simp <;> omega))
  have HOg0_5_5 := Lib.hid hown5_5
  have LOg0_5 := Lib.hid (own_rng hown5_5 (lo := w4.heap.size + 1) (by simp <;> omega))
  clear hb5 hown5_4 hown5_5
  clear HB4 HOt0_4_4 HOt0_5_4 HOw0_4_4 HOw0_5_4 HOx0_4_4 HOx0_5_4 HVa0_4 HVw0_4
  have HSEPg0 := Lib.hid hsepg0
  clear hsepg0
  have qg0_0 := (Holds.new w5 28 #[.string (ansR (⟨x0_0, x0_1, x0_2, x0_3, h0_4, h0_5⟩ : MsgM) i1).x0, .string (ansR (⟨x0_0, x0_1, x0_2, x0_3, h0_4, h0_5⟩ : MsgM) i1).x1, .string (ansR (⟨x0_0, x0_1, x0_2, x0_3, h0_4, h0_5⟩ : MsgM) i1).x2, .int .i64 (ansR (⟨x0_0, x0_1, x0_2, x0_3, h0_4, h0_5⟩ : MsgM) i1).x3, .slice Ag04 (ansR (⟨x0_0, x0_1, x0_2, x0_3, h0_4, h0_5⟩ : MsgM) i1).h.length cg04, .slice Ag05 (ansR (⟨x0_0, x0_1, x0_2, x0_3, h0_4, h0_5⟩ : MsgM) i1).b.length cg05]).cell 0 _ rfl
  have qg0_1 := (Holds.new w5 28 #[.string (ansR (⟨x0_0, x0_1, x0_2, x0_3, h0_4, h0_5⟩ : MsgM) i1).x0, .string (ansR (⟨x0_0, x0_1, x0_2, x0_3, h0_4, h0_5⟩ : MsgM) i1).x1, .string (ansR (⟨x0_0, x0_1, x0_2, x0_3, h0_4, h0_5⟩ : MsgM) i1).x2, .int .i64 (ansR (⟨x0_0, x0_1, x0_2, x0_3, h0_4, h0_5⟩ : MsgM) i1).x3, .slice Ag04 (ansR (⟨x0_0, x0_1, x0_2, x0_3, h0_4, h0_5⟩ : MsgM) i1).h.length cg04, .slice Ag05 (ansR (⟨x0_0, x0_1, x0_2, x0_3, h0_4, h0_5⟩ : MsgM) i1).b.length cg05]).cell 1 _ rfl
  have qg0_2 := (Holds.new w5 28 #[.string (ansR (⟨x0_0, x0_1, x0_2, x0_3, h0_4, h0_5⟩ : MsgM) i1).x0, .string (ansR (⟨x0_0, x0_1, x0_2, x0_3, h0_4, h0_5⟩ : MsgM) i1).x1, .string (ansR (⟨x0_0, x0_1, x0_2, x0_3, h0_4, h0_5⟩ : MsgM) i1).x2, .int .i64 (ansR (⟨x0_0, x0_1, x0_2, x0_3, h0_4, h0_5⟩ : MsgM) i1).x3, .slice Ag04 (ansR (⟨x0_0, x0_1, x0_2, x0_3, h0_4, h0_5⟩ : MsgM) i1).h.length cg04, .slice Ag05 (ansR (⟨x0_0, x0_1, x0_2, x0_3, h0_4, h0_5⟩ : MsgM) i1).b.length cg05]).cell 2 _ rfl
  have qg0_3 := (Holds.new w5 28 #[.string (ansR (⟨x0_0, x0_1, x0_2, x0_3, h0_4, h0_5⟩ : MsgM) i1).x0, .string (ansR (⟨x0_0, x0_1, x0_2, x0_3, h0_4, h0_5⟩ : MsgM) i1).x1, .string (ansR (⟨x0_0, x0_1, x0_2, x0_3, h0_4, h0_5⟩ : MsgM) i1).x2, .int .i64 (ansR (⟨x0_0, x0_1, x0_2, x0_3, h0_4, h0_5⟩ : MsgM) i1).x3, .slice Ag04 (ansR (⟨x0_0, x0_1, x0_2, x0_3, h0_4, h0_5⟩ : MsgM) i1).h.length cg04, .slice Ag05 (ansR (⟨x0_0, x0_1, x0_2, x0_3, h0_4, h0_5⟩ : MsgM) i1).b.length cg05]).cell 3 _ rfl
  have qg0_4 := (Holds.new w5 28 #[.string (ansR (⟨x0_0, x0_1, x0_2, x0_3, h0_4, h0_5⟩ : MsgM) i1).x0, .string (ansR (⟨x0_0, x0_1, x0_2, x0_3, h0_4, h0_5⟩ : MsgM) i1).x1, .string (ansR (⟨x0_0, x0_1, x0_2, x0_3, h0_4, h0_5⟩ : MsgM) i1).x2, .int .i64 (ansR (⟨x0_0, x0_1, x0_2, x0_3, h0_4, h0_5⟩ : MsgM) i1).x3, .slice Ag04 (ansR (⟨x0_0, x0_1, x0_2, x0_3, h0_4, h0_5⟩ : MsgM) i1).h.length cg04, .slice Ag05 (ansR (⟨x0_0, x0_1, x0_2, x0_3, h0_4, h0_5⟩ : MsgM) i1).b.length cg05]).cell 4 _ rfl
  have qg0_5 := (Holds.new w5 28 #[.string (ansR (⟨x0_0, x0_1, x0_2, x0_3, h0_4, h0_5⟩ : MsgM) i1).x0, .string (ansR (⟨x0_0, x0_1, x0_2, x0_3, h0_4, h0_5⟩ : MsgM) i1).x1, .string (ansR (⟨x0_0, x0_1, x0_2, x0_3, h0_4, h0_5⟩ : MsgM) i1).x2, .int .i64 (ansR (⟨x0_0, x0_1, x0_2, x0_3, h0_4, h0_5⟩ : MsgM) i1).x3, .slice Ag04 (ansR (⟨x0_0, x0_1, x0_2, x0_3, h0_4, h0_5⟩ : MsgM) i1).h.length cg04, .slice Ag05 (ansR (⟨x0_0, x0_1, x0_2, x0_3, h0_4, h0_5⟩ : MsgM) i1).b.length cg05]).cell 5 _ rfl
  have qw0_0 := (HVw0_5.out.alloc (.cells #[.string (ansR (⟨x0_0, x0_1, x0_2, x0_3, h0_4, h0_5⟩ : MsgM) i1).x0, .string (ansR (⟨x0_0, x0_1, x0_2, x0_3, h0_4, h0_5⟩ : MsgM) i1).x1, .string (ansR (⟨x0_0, x0_1, x0_2, x0_3, h0_4, h0_5⟩ : MsgM) i1).x2, .int .i64 (ansR (⟨x0_0, x0_1, x0_2, x0_3, h0_4, h0_5⟩ : MsgM) i1).x3, .slice Ag04 (ansR (⟨x0_0, x0_1, x0_2, x0_3, h0_4, h0_5⟩ : MsgM) i1).h.length cg04, .slice Ag05 (ansR (⟨x0_0, x0_1, x0_2, x0_3, h0_4, h0_5⟩ : MsgM) i1).b.length cg05] 28)).cell 0 _ rfl
  have qw0_1 := (HVw0_5.out.alloc (.cells #[.string (ansR (⟨x0_0, x0_1, x0_2, x0_3, h0_4, h0_5⟩ : MsgM) i1).x0, .string (ansR (⟨x0_0, x0_1, x0_2, x0_3, h0_4, h0_5⟩ : MsgM) i1).x1, .string (ansR (⟨x0_0, x0_1, x0_2, x0_3, h0_4, h0_5⟩ : MsgM) i1).x2, .int .i64 (ansR (⟨x0_0, x0_1, x0_2, x0_3, h0_4, h0_5⟩ : MsgM) i1).x3, .slice Ag04 (ansR (⟨x0_0, x0_1, x0_2, x0_3, h0_4, h0_5⟩ : MsgM) i1).h.length cg04, .slice Ag05 (ansR (⟨x0_0, x0_1, x0_2, x0_3, h0_4, h0_5⟩ : MsgM) i1).b.length cg05] 28)).cell 1 _ rfl
  have qw0_2 := (HVw0_5.out.alloc (.cells #[.string (ansR (⟨x0_0, x0_1, x0_2, x0_3, h0_4, h0_5⟩ : MsgM) i1).x0, .string (ansR (⟨x0_0, x0_1, x0_2, x0_3, h0_4, h0_5⟩ : MsgM) i1).x1, .string (ansR (⟨x0_0, x0_1, x0_2, x0_3, h0_4, h0_5⟩ : MsgM) i1).x2, .int .i64 (ansR (⟨x0_0, x0_1, x0_2, x0_3, h0_4, h0_5⟩ : MsgM) i1).x3, .slice Ag04 (ansR (⟨x0_0, x0_1, x0_2, x0_3, h0_4, h0_5⟩ : MsgM) i1).h.length cg04, .slice Ag05 (ansR (⟨x0_0, x0_1, x0_2, x0_3, h0_4, h0_5⟩ : MsgM) i1).b.length cg05] 28)).cell 2 _ rfl
  have qw0_3 := (HVw0_5.out.alloc (.cells #[.string (ansR (⟨x0_0, x0_1, x0_2, x0_3, h0_4, h0_5⟩ : MsgM) i1).x0, .string (ansR (⟨x0_0, x0_1, x0_2, x0_3, h0_4, h0_5⟩ : MsgM) i1).x1, .string (ansR (⟨x0_0, x0_1, x0_2, x0_3, h0_4, h0_5⟩ : MsgM) i1).x2, .int .i64 (ansR (⟨x0_0, x0_1, x0_2, x0_3, h0_4, h0_5⟩ : MsgM) i1).x3, .slice Ag04 (ansR (⟨x0_0, x0_1, x0_2, x0_3, h0_4, h0_5⟩ : MsgM) i1).h.length cg04, .slice Ag05 (ansR (⟨x0_0, x0_1, x0_2, x0_3, h0_4, h0_5⟩ : MsgM) i1).b.length cg05] 28)).cell 3 _ rfl
  have qw0_4 := (HVw0_5.out.alloc (.cells #[.string (ansR (⟨x0_0, x0_1, x0_2, x0_3, h0_4, h0_5⟩ : MsgM) i1).x0, .string (ansR (⟨x0_0, x0_1, x0_2, x0_3, h0_4, h0_5⟩ : MsgM) i1).x1, .string (ansR (⟨x0_0, x0_1, x0_2, x0_3, h0_4, h0_5⟩ : MsgM) i1).x2, .int .i64 (ansR (⟨x0_0, x0_1, x0_2, x0_3, h0_4, h0_5⟩ : MsgM) i1).x3, .slice Ag04 (ansR (⟨x0_0, x0_1, x0_2, x0_3, h0_4, h0_5⟩ : MsgM) i1).h.length cg04, .slice Ag05 (ansR (⟨x0_0, x0_1, x0_2, x0_3, h0_4, h0_5⟩ : MsgM) i1).b.length cg05] 28)).cell 4 _ rfl
  have qw0_5 := (HVw0_5.out.alloc (.cells #[.string (ansR (⟨x0_0, x0_1, x0_2, x0_3, h0_4, h0_5⟩ : MsgM) i1).x0, .string (ansR (⟨x0_0, x0_1, x0_2, x0_3, h0_4, h0_5⟩ : MsgM) i1).x1, .string (ansR (⟨x0_0, x0_1, x0_2, x0_3, h0_4, h0_5⟩ : MsgM) i1).x2, .int .i64 (ansR (⟨x0_0, x0_1, x0_2, x0_3, h0_4, h0_5⟩ : MsgM) i1).x3, .slice Ag04 (ansR (⟨x0_0, x0_1, x0_2, x0_3, h0_4, h0_5⟩ : MsgM) i1).h.length cg04, .slice Ag05 (ansR (⟨x0_0, x0_1, x0_2, x0_3, h0_4, h0_5⟩ : MsgM) i1).b.length cg05] 28)).cell 5 _ rfl
  go_wp2_with fail
  refine (eqMessage_same ((ansR (⟨x0_0, x0_1, x0_2, x0_3, h0_4, h0_5⟩ : MsgM) i1).x0) ((ansR (⟨x0_0, x0_1, x0_2, x0_3, h0_4, h0_5⟩ : MsgM) i1).x1) ((ansR (⟨x0_0, x0_1, x0_2, x0_3, h0_4, h0_5⟩ : MsgM) i1).x2) ((ansR (⟨x0_0, x0_1, x0_2, x0_3, h0_4, h0_5⟩ : MsgM) i1).x3) Ag04 (ansR (⟨x0_0, x0_1, x0_2, x0_3, h0_4, h0_5⟩ : MsgM) i1).h.length cg04 (ansR (⟨x0_0, x0_1, x0_2, x0_3, h0_4, h0_5⟩ : MsgM) i1).h Ag05 (ansR (⟨x0_0, x0_1, x0_2, x0_3, h0_4, h0_5⟩ : MsgM) i1).b.length cg05 (ansR (⟨x0_0, x0_1, x0_2, x0_3, h0_4, h0_5⟩ : MsgM) i1).b Aw04 cw04 Aw05 cw05 _ rfl (by have := (ansR_few (⟨x0_0, x0_1, x0_2, x0_3, h0_4, h0_5⟩ : MsgM) i1).1; unfold maxLen; omega) rfl (by have := (ansR_few (⟨x0_0, x0_1, x0_2, x0_3, h0_4, h0_5⟩ : MsgM) i1).2; unfold maxLen; omega) (Sees.of_own (HOg0_4_5.out.alloc (.cells #[.string (ansR (⟨x0_0, x0_1, x0_2, x0_3, h0_4, h0_5⟩ : MsgM) i1).x0, .string (ansR (⟨x0_0, x0_1, x0_2, x0_3, h0_4, h0_5⟩ : MsgM) i1).x1, .string (ansR (⟨x0_0, x0_1, x0_2, x0_3, h0_4, h0_5⟩ : MsgM) i1).x2, .int .i64 (ansR (⟨x0_0, x0_1, x0_2, x0_3, h0_4, h0_5⟩ : MsgM) i1).x3, .slice Ag04 (ansR (⟨x0_0, x0_1, x0_2, x0_3, h0_4, h0_5⟩ : MsgM) i1).h.length cg04, .slice Ag05 (ansR (⟨x0_0, x0_1, x0_2, x0_3, h0_4, h0_5⟩ : MsgM) i1).b.length cg05] 28))) (Sees.of_own (HOw0_4_5.out.alloc (.cells #[.string (ansR (⟨x0_0, x0_1, x0_2, x0_3, h0_4, h0_5⟩ : MsgM) i1).x0, .string (ansR (⟨x0_0, x0_1, x0_2, x0_3, h0_4, h0_5⟩ : MsgM) i1).x1, .string (ansR (⟨x0_0, x0_1, x0_2, x0_3, h0_4, h0_5⟩ : MsgM) i1).x2, .int .i64 (ansR (⟨x0_0, x0_1, x0_2, x0_3, h0_4, h0_5⟩ : MsgM) i1).x3, .slice Ag04 (ansR (⟨x0_0, x0_1, x0_2, x0_3, h0_4, h0_5⟩ : MsgM) i1).h.length cg04, .slice Ag05 (ansR (⟨x0_0, x0_1, x0_2, x0_3, h0_4, h0_5⟩ : MsgM) i1).b.length cg05] 28))) (Sees.of_own (HOg0_5_5.out.alloc (.cells #[.string (ansR (⟨x0_0, x0_1, x0_2, x0_3, h0_4, h0_5⟩ : MsgM) i1).x0, .string (ansR (⟨x0_0, x0_1, x0_2, x0_3, h0_4, h0_5⟩ : MsgM) i1).x1, .string (ansR (⟨x0_0, x0_1, x0_2, x0_3, h0_4, h0_5⟩ : MsgM) i1).x2, .int .i64 (ansR (⟨x0_0, x0_1, x0_2, x0_3, h0_4, h0_5⟩ : MsgM) i1).x3, .slice Ag04 (ansR (⟨x0_0, x0_1, x0_2, x0_3, h0_4, h0_5⟩ : MsgM) i1).h.length cg04, .slice Ag05 (ansR (⟨x0_0, x0_1, x0_2, x0_3, h0_4, h0_5⟩ : MsgM) i1).b.length cg05] 28))) (Sees.of_own (HOw0_5_5.out.alloc (.cells #[.string (ansR (⟨x0_0, x0_1, x0_2, x0_3, h0_4, h0_5⟩ : MsgM) i1).x0, .string (ansR (⟨x0_0, x0_1, x0_2, x0_3, h0_4, h0_5⟩ : MsgM) i1).x1, .string (ansR (⟨x0_0, x0_1, x0_2, x0_3, h0_4, h0_5⟩ : MsgM) i1).x2, .int .i64 (ansR (⟨x0_0, x0_1, x0_2, x0_3, h0_4, h0_5⟩ : MsgM) i1).x3, .slice Ag04 (ansR (⟨x0_0, x0_1, x0_2, x0_3, h0_4, h0_5⟩ : MsgM) i1).h.length cg04, .slice Ag05 (ansR (⟨x0_0, x0_1, x0_2, x0_3, h0_4, h0_5⟩ : MsgM) i1).b.length cg05] 28)))).mono ?_
  rintro e w6 ⟨rfl, hb6⟩
  clear qg0_0 qg0_1 qg0_2 qg0_3 qg0_4 qg0_5 qw0_0 qw0_1 qw0_2 qw0_3 qw0_4 qw0_5
  have hz6 := hb6.size
  simp at hz6
  have HB6 := Lib.hid (btrans (balloc HB5.out (.cells #[.string (ansR (⟨x0_0, x0_1, x0_2, x0_3, h0_4, h0_5⟩ : MsgM) i1).x0, .string (ansR (⟨x0_0, x0_1, x0_2, x0_3, h0_4, h0_5⟩ : MsgM) i1).x1, .string (ansR (⟨x0_0, x0_1, x0_2, x0_3, h0_4, h0_5⟩ : MsgM) i1).x2, .int .i64 (ansR (⟨x0_0, x0_1, x0_2, x0_3, h0_4, h0_5⟩ : MsgM) i1).x3, .slice Ag04 (ansR (⟨x0_0, x0_1, x0_2, x0_3, h0_4, h0_5⟩ : MsgM) i1).h.length cg04, .slice Ag05 (ansR (⟨x0_0, x0_1, x0_2, x0_3, h0_4, h0_5⟩ : MsgM) i1).b.length cg05] 28)) hb6)
  have HOt0_4_6 := Lib.hid (own_call (HOt0_4_5.out.alloc (.cells #[.string (ansR (⟨x0_0, x0_1, x0_2, x0_3, h0_4, h0_5⟩ : MsgM) i1).x0, .string (ansR (⟨x0_0, x0_1, x0_2, x0_3, h0_4, h0_5⟩ : MsgM) i1).x1, .string (ansR (⟨x0_0, x0_1, x0_2, x0_3, h0_4, h0_5⟩ : MsgM) i1).x2, .int .i64 (ansR (⟨x0_0, x0_1, x0_2, x0_3, h0_4, h0_5⟩ : MsgM) i1).x3, .slice Ag04 (ansR (⟨x0_0, x0_1, x0_2, x0_3, h0_4, h0_5⟩ : MsgM) i1).h.length cg04, .slice Ag05 (ansR (⟨x0_0, x0_1, x0_2, x0_3, h0_4, h0_5⟩ : MsgM) i1).b.length cg05] 28)) hb6)
  have HOt0_5_6 := Lib.hid (own_call (HOt0_5_5.out.alloc (.cells #[.string (ansR (⟨x0_0, x0_1, x0_2, x0_3, h0_4, h0_5⟩ : MsgM) i1).x0, .string (ansR (⟨x0_0, x0_1, x0_2, x0_3, h0_4, h0_5⟩ : MsgM) i1).x1, .string (ansR (⟨x0_0, x0_1, x0_2, x0_3, h0_4, h0_5⟩ : MsgM) i1).x2, .int .i64 (ansR (⟨x0_0, x0_1, x0_2, x0_3, h0_4, h0_5⟩ : MsgM) i1).x3, .slice Ag04 (ansR (⟨x0_0, x0_1, x0_2, x0_3, h0_4, h0_5⟩ : MsgM) i1).h.length cg04, .slice Ag05 (ansR (⟨x0_0, x0_1, x0_2, x0_3, h0_4, h0_5⟩ : MsgM) i1).b.length cg05] 28)) hb6)
  have HOw0_4_6 := Lib.hid (own_call (HOw0_4_5.out.alloc (.cells #[.string (ansR (⟨x0_0, x0_1, x0_2, x0_3, h0_4, h0_5⟩ : MsgM) i1).x0, .string (ansR (⟨x0_0, x0_1, x0_2, x0_3, h0_4, h0_5⟩ : MsgM) i1).x1, .string (ansR (⟨x0_0, x0_1, x0_2, x0_3, h0_4, h0_5⟩ : MsgM) i1).x2, .int .i64 (ansR (⟨x0_0, x0_1, x0_2, x0_3, h0_4, h0_5⟩ : MsgM) i1).x3, .slice Ag04 (ansR (⟨x0_0, x0_1, x0_2, x0_3, h0_4, h0_5⟩ : MsgM) i1).h.length cg04, .slice Ag05 (ansR (⟨x0_0, x0_1, x0_2, x0_3, h0_4, h0_5⟩ : MsgM) i1).b.length cg05] 28)) hb6)
  have HOw0_5_6 := Lib.hid (own_call (HOw0_5_5.out.alloc (.cells #[.string (ansR (⟨x0_0, x0_1, x0_2, x0_3, h0_4, h0_5⟩ : MsgM) i1).x0, .string (ansR (⟨x0_0, x0_1, x0_2, x0_3, h0_4, h0_5⟩ : MsgM) i1).x1, .string (ansR (⟨x0_0, x0_1, x0_2, x0_3, h0_4, h0_5⟩ : MsgM) i1).x2, .int .i64 (ansR (⟨x0_0, x0_1, x0_2, x0_3, h0_4, h0_5⟩ : MsgM) i1).x3, .slice Ag04 (ansR (⟨x0_0, x0_1, x0_2, x0_3, h0_4, h0_5⟩ : MsgM) i1).h.length cg04, .slice Ag05 (ansR (⟨x0_0, x0_1, x0_2, x0_3, h0_4, h0_5⟩ : MsgM) i1).b.length cg05] 28)) hb6)
  have HOx0_4_6 := Lib.hid (own_call (HOx0_4_5.out.alloc (.cells #[.string (ansR (⟨x0_0, x0_1, x0_2, x0_3, h0_4, h0_5⟩ : MsgM) i1).x0, .string (ansR (⟨x0_0, x0_1, x0_2, x0_3, h0_4, h0_5⟩ : MsgM) i1).x1, .string (ansR (⟨x0_0, x0_1, x0_2, x0_3, h0_4, h0_5⟩ : MsgM) i1).x2, .int .i64 (ansR (⟨x0_0, x0_1, x0_2, x0_3, h0_4, h0_5⟩ : MsgM) i1).x3, .slice Ag04 (ansR (⟨x0_0, x0_1, x0_2, x0_3, h0_4, h0_5⟩ : MsgM) i1).h.length cg04, .slice Ag05 (ansR (⟨x0_0, x0_1, x0_2, x0_3, h0_4, h0_5⟩ : MsgM) i1).b.length cg05] 28)) hb6)
  have HOx0_5_6 := Lib.hid (own_call (HOx0_5_5.out.alloc (.cells #[.string (ansR (⟨x0_0, x0_1, x0_2, x0_3, h0_4, h0_5⟩ : MsgM) i1).x0, .string (ansR (⟨x0_0, x0_1, x0_2, x0_3, h0_4, h0_5⟩ : MsgM) i1).x1, .string (ansR (⟨x0_0, x0_1, x0_2, x0_3, h0_4, h0_5⟩ : MsgM) i1).x2, .int .i64 (ansR (⟨x0_0, x0_1, x0_2, x0_3, h0_4, h0_5⟩ : MsgM) i1).x3, .slice Ag04 (ansR (⟨x0_0, x0_1, x0_2, x0_3, h0_4, h0_5⟩ : MsgM) i1).h.length cg04, .slice Ag05 (ansR (⟨x0_0, x0_1, x0_2, x0_3, h0_4, h0_5⟩ : MsgM) i1).b.length cg05] 28)) hb6)
  have HOg0_4_6 := Lib.hid (own_call (HOg0_4_5.out.alloc (.cells #[.string (ansR (⟨x0_0, x0_1, x0_2, x0_3, h0_4, h0_5⟩ : MsgM) i1).x0, .string (ansR (⟨x0_0, x0_1, x0_2, x0_3, h0_4, h0_5⟩ : MsgM) i1).x1, .string (ansR (⟨x0_0, x0_1, x0_2, x0_3, h0_4, h0_5⟩ : MsgM) i1).x2, .int .i64 (ansR (⟨x0_0, x0_1, x0_2, x0_3, h0_4, h0_5⟩ : MsgM) i1).x3, .slice Ag04 (ansR (⟨x0_0, x0_1, x0_2, x0_3, h0_4, h0_5⟩ : MsgM) i1).h.length cg04, .slice Ag05 (ansR (⟨x0_0, x0_1, x0_2, x0_3, h0_4, h0_5⟩ : MsgM) i1).b.length cg05] 28)) hb6)
  have HOg0_5_6 := Lib.hid (own_call (HOg0_5_5.out.alloc (.cells #[.string (ansR (⟨x0_0, x0_1, x0_2, x0_3, h0_4, h0_5⟩ : MsgM) i1).x0, .string (ansR (⟨x0_0, x0_1, x0_2, x0_3, h0_4, h0_5⟩ : MsgM) i1).x1, .string (ansR (⟨x0_0, x0_1, x0_2, x0_3, h0_4, h0_5⟩ : MsgM) i1).x2, .int .i64 (ansR (⟨x0_0, x0_1, x0_2, x0_3, h0_4, h0_5⟩ : MsgM) i1).x3, .slice Ag04 (ansR (⟨x0_0, x0_1, x0_2, x0_3, h0_4, h0_5⟩ : MsgM) i1).h.length cg04, .slice Ag05 (ansR (⟨x0_0, x0_1, x0_2, x0_3, h0_4, h0_5⟩ : MsgM) i1).b.length cg05] 28)) hb6)
  have HVa0_6 := Lib.hid ((HVa0_5.out.alloc (.cells #[.string (ansR (⟨x0_0, x0_1, x0_2, x0_3, h0_4, h0_5⟩ : MsgM) i1).x0, .string (ansR (⟨x0_0, x0_1, x0_2, x0_3, h0_4, h0_5⟩ : MsgM) i1).x1, .string (ansR (⟨x0_0, x0_1, x0_2, x0_3, h0_4, h0_5⟩ : MsgM) i1).x2, .int .i64 (ansR (⟨x0_0, x0_1, x0_2, x0_3, h0_4, h0_5⟩ : MsgM) i1).x3, .slice Ag04 (ansR (⟨x0_0, x0_1, x0_2, x0_3, h0_4, h0_5⟩ : MsgM) i1).h.length cg04, .slice Ag05 (ansR (⟨x0_0, x0_1, x0_2, x0_3, h0_4, h0_5⟩ : MsgM) i1).b.length cg05] 28)).call hb6)
  have HVw0_6 := Lib.hid ((HVw0_5.out.alloc (.cells #[.string (ansR (⟨x0_0, x0_1, x0_2, x0_3, h0_4, h0_5⟩ : MsgM) i1).x0, .string (ansR (⟨x0_0, x0_1, x0_2, x0_3, h0_4, h0_5⟩ : MsgM) i1).x1, .string (ansR (⟨x0_0, x0_1, x0_2, x0_3, h0_4, h0_5⟩ : MsgM) i1).x2, .int .i64 (ansR (⟨x0_0, x0_1, x0_2, x0_3, h0_4, h0_5⟩ : MsgM) i1).x3, .slice Ag04 (ansR (⟨x0_0, x0_1, x0_2, x0_3, h0_4, h0_5⟩ : MsgM) i1).h.length cg04, .slice Ag05 (ansR (⟨x0_0, x0_1, x0_2, x0_3, h0_4, h0_5⟩ : MsgM) i1).b.length cg05] 28)).call hb6)
  have HVx0_6 := Lib.hid ((HVx0_5.out.alloc (.cells #[.string (ansR (⟨x0_0, x0_1, x0_2, x0_3, h0_4, h0_5⟩ : MsgM) i1).x0, .string (ansR (⟨x0_0, x0_1, x0_2, x0_3, h0_4, h0_5⟩ : MsgM) i1).x1, .string (ansR (⟨x0_0, x0_1, x0_2, x0_3, h0_4, h0_5⟩ : MsgM) i1).x2, .int .i64 (ansR (⟨x0_0, x0_1, x0_2, x0_3, h0_4, h0_5⟩ : MsgM) i1).x3, .slice Ag04 (ansR (⟨x0_0, x0_1, x0_2, x0_3, h0_4, h0_5⟩ : MsgM) i1).h.length cg04, .slice Ag05 (ansR (⟨x0_0, x0_1, x0_2, x0_3, h0_4, h0_5⟩ : MsgM) i1).b.length cg05] 28)).call hb6)
  have HVg0_6 := Lib.hid ((Holds.new w5 28 #[.string (ansR (⟨x0_0, x0_1, x0_2, x0_3, h0_4, h0_5⟩ : MsgM) i1).x0, .string (ansR (⟨x0_0, x0_1, x0_2, x0_3, h0_4, h0_5⟩ : MsgM) i1).x1, .string (ansR (⟨x0_0, x0_1, x0_2, x0_3, h0_4, h0_5⟩ : MsgM) i1).x2, .int .i64 (ansR (⟨x0_0, x0_1, x0_2, x0_3, h0_4, h0_5⟩ : MsgM) i1).x3, .slice Ag04 (ansR (⟨x0_0, x0_1, x0_2, x0_3, h0_4, h0_5⟩ : MsgM) i1).h.length cg04, .slice Ag05 (ansR (⟨x0_0, x0_1, x0_2, x0_3, h0_4, h0_5⟩ : MsgM) i1).b.length cg05]).call hb6)
  clear hb6
  clear HB5 HOt0_4_5 HOt0_5_5 HOw0_4_5 HOw0_5_5 HOx0_4_5 HOx0_5_5 HOg0_4_5 HOg0_5_5 HVa0_5 HVw0_5 HVx0_5
  have qa0_0 := HVa0_6.out.cell 0 _ rfl
  have qa0_1 := HVa0_6.out.cell 1 _ rfl
  have qa0_2 := HVa0_6.out.cell 2 _ rfl
  have qa0_3 := HVa0_6.out.cell 3 _ rfl
  have qa0_4 := HVa0_6.out.cell 4 _ rfl
  have qa0_5 := HVa0_6.out.cell 5 _ rfl
  have qx0_0 := HVx0_6.out.cell 0 _ rfl
  have qx0_1 := HVx0_6.out.cell 1 _ rfl
  have qx0_2 := HVx0_6.out.cell 2 _ rfl
  have qx0_3 := HVx0_6.out.cell 3 _ rfl
  have qx0_4 := HVx0_6.out.cell 4 _ rfl
  have qx0_5 := HVx0_6.out.cell 5 _ rfl
  go_wp2
  go_region_held3 (fun w' => w'.cell? ⟨w.heap.size, 0, none⟩ = some (.string x0_0) ∧ w'.cell? ⟨w.heap.size, 1, none⟩ = some (.string x0_1) ∧ w'.cell? ⟨w.heap.size, 2, none⟩ = some (.string x0_2) ∧ w'.cell? ⟨w.heap.size, 3, none⟩ = some (.int .i64 x0_3) ∧ w'.cell? ⟨w.heap.size, 4, none⟩ = some (.slice A0_4 n0_4 c0_4) ∧ w'.cell? ⟨w.heap.size, 5, none⟩ = some (.slice A0_5 n0_5 c0_5) ∧ w'.cell? ⟨w4.heap.size, 0, none⟩ = some (.string x0_0) ∧ w'.cell? ⟨w4.heap.size, 1, none⟩ = some (.string x0_1) ∧ w'.cell? ⟨w4.heap.size, 2, none⟩ = some (.string x0_2) ∧ w'.cell? ⟨w4.heap.size, 3, none⟩ = some (.int .i64 x0_3) ∧ w'.cell? ⟨w4.heap.size, 4, none⟩ = some (.slice (some ⟨gx04, 0, none⟩) n0_4 n0_4) ∧ w'.cell? ⟨w4.heap.size, 5, none⟩ = some (.slice (some ⟨gx05, 0, none⟩) n0_5 n0_5))
    (first | exact ⟨HVa0_8.out.cell 0 _ rfl, HVa0_8.out.cell 1 _ rfl, HVa0_8.out.cell 2 _ rfl, HVa0_8.out.cell 3 _ rfl, HVa0_8.out.cell 4 _ rfl, HVa0_8.out.cell 5 _ rfl, HVx0_8.out.cell 0 _ rfl, HVx0_8.out.cell 1 _ rfl, HVx0_8.out.cell 2 _ rfl, HVx0_8.out.cell 3 _ rfl, HVx0_8.out.cell 4 _ rfl, HVx0_8.out.cell 5 _ rfl⟩ | exact ⟨HVa0_7.out.cell 0 _ rfl, HVa0_7.out.cell 1 _ rfl, HVa0_7.out.cell 2 _ rfl, HVa0_7.out.cell 3 _ rfl, HVa0_7.out.cell 4 _ rfl, HVa0_7.out.cell 5 _ rfl, HVx0_7.out.cell 0 _ rfl, HVx0_7.out.cell 1 _ rfl, HVx0_7.out.cell 2 _ rfl, HVx0_7.out.cell 3 _ rfl, HVx0_7.out.cell 4 _ rfl, HVx0_7.out.cell 5 _ rfl⟩ | exact ⟨HVa0_6.out.drew.cell 0 _ rfl, HVa0_6.out.drew.cell 1 _ rfl, HVa0_6.out.drew.cell 2 _ rfl, HVa0_6.out.drew.cell 3 _ rfl, HVa0_6.out.drew.cell 4 _ rfl, HVa0_6.out.drew.cell 5 _ rfl, HVx0_6.out.drew.cell 0 _ rfl, HVx0_6.out.drew.cell 1 _ rfl, HVx0_6.out.drew.cell 2 _ rfl, HVx0_6.out.drew.cell 3 _ rfl, HVx0_6.out.drew.cell 4 _ rfl, HVx0_6.out.drew.cell 5 _ rfl⟩)
    (first
      | (go_at_call 27; refine (toMessage_any x0_0 x0_1 x0_2 x0_3 A0_4 n0_4 c0_4 h0_4 A0_5 n0_5 c0_5 h0_5 _ HN0_4q.out (by omega) HN0_5q.out (by omega) ((HR0_4q.out.below (bdrew HB6.out) (Nat.le_refl _)).more (bdrew HB6.out).size) ((HR0_5q.out.below (bdrew HB6.out) (Nat.le_refl _)).more (bdrew HB6.out).size)).mono ?_; rintro e w7 ⟨gy04, gy05, rfl, hown7_4, hown7_5, hgs7, hb7⟩; have HB7 := Lib.hid (btrans (bdrew HB6.out) hb7); have HOt0_4_7 := Lib.hid (own_call HOt0_4_6.out.drew hb7); have HOt0_5_7 := Lib.hid (own_call HOt0_5_6.out.drew hb7); have HOw0_4_7 := Lib.hid (own_call HOw0_4_6.out.drew hb7); have HOw0_5_7 := Lib.hid (own_call HOw0_5_6.out.drew hb7); have HOx0_4_7 := Lib.hid (own_call HOx0_4_6.out.drew hb7); have HOx0_5_7 := Lib.hid (own_call HOx0_5_6.out.drew hb7); have HOg0_4_7 := Lib.hid (own_call HOg0_4_6.out.drew hb7); have HOg0_5_7 := Lib.hid (own_call HOg0_5_6.out.drew hb7); have HVa0_7 := Lib.hid (HVa0_6.out.drew.call hb7); have HVw0_7 := Lib.hid (HVw0_6.out.drew.call hb7); have HVx0_7 := Lib.hid (HVx0_6.out.drew.call hb7); have HVg0_7 := Lib.hid (HVg0_6.out.drew.call hb7); have HOy0_4_7 := Lib.hid hown7_4; have HOy0_5_7 := Lib.hid hown7_5; have hz7 := hb7.size; simp at hz7; clear hb7 hgs7 hown7_4 hown7_5)
      | (go_at_call 28; refine (eqMessage_same x0_0 x0_1 x0_2 x0_3 (some ⟨gx04, 0, none⟩) n0_4 n0_4 h0_4 (some ⟨gx05, 0, none⟩) n0_5 n0_5 h0_5 (some ⟨gy04, 0, none⟩) n0_4 (some ⟨gy05, 0, none⟩) n0_5 _ HN0_4q.out (by unfold maxLen; omega) HN0_5q.out (by unfold maxLen; omega) (Sees.of_own HOx0_4_7.out) (Sees.of_own HOy0_4_7.out) (Sees.of_own HOx0_5_7.out) (Sees.of_own HOy0_5_7.out)).mono ?_; rintro e w8 ⟨rfl, hb8⟩; have HB8 := Lib.hid (btrans HB7.out hb8); have HOt0_4_8 := Lib.hid (own_call HOt0_4_7.out hb8); have HOt0_5_8 := Lib.hid (own_call HOt0_5_7.out hb8); have HOw0_4_8 := Lib.hid (own_call HOw0_4_7.out hb8); have HOw0_5_8 := Lib.hid (own_call HOw0_5_7.out hb8); have HOx0_4_8 := Lib.hid (own_call HOx0_4_7.out hb8); have HOx0_5_8 := Lib.hid (own_call HOx0_5_7.out hb8); have HOg0_4_8 := Lib.hid (own_call HOg0_4_7.out hb8); have HOg0_5_8 := Lib.hid (own_call HOg0_5_7.out hb8); have HVa0_8 := Lib.hid (HVa0_7.out.call hb8); have HVw0_8 := Lib.hid (HVw0_7.out.call hb8); have HVx0_8 := Lib.hid (HVx0_7.out.call hb8); have HVg0_8 := Lib.hid (HVg0_7.out.call hb8); have hz8 := hb8.size; clear hb8))
  clear qa0_0 qa0_1 qa0_2 qa0_3 qa0_4 qa0_5 qx0_0 qx0_1 qx0_2 qx0_3 qx0_4 qx0_5
  clear HB7 HOt0_4_7 HOt0_5_7 HOw0_4_7 HOw0_5_7 HOx0_4_7 HOx0_5_7 HOg0_4_7 HOg0_5_7 HOy0_4_7 HOy0_5_7 HVa0_7 HVw0_7 HVx0_7 HVg0_7 HB6 HOt0_4_6 HOt0_5_6 HOw0_4_6 HOw0_5_6 HOx0_4_6 HOx0_5_6 HOg0_4_6 HOg0_5_6 HVa0_6 HVw0_6 HVx0_6 HVg0_6
  have qx0_0 := HVx0_8.out.cell 0 _ rfl
  have qx0_1 := HVx0_8.out.cell 1 _ rfl
  have qx0_2 := HVx0_8.out.cell 2 _ rfl
  have qx0_3 := HVx0_8.out.cell 3 _ rfl
  have qx0_4 := HVx0_8.out.cell 4 _ rfl
  have qx0_5 := HVx0_8.out.cell 5 _ rfl
  go_wp2_with fail
  refine (markMessage_any x0_0 x0_1 x0_2 x0_3 (some ⟨gx04, 0, none⟩) n0_4 n0_4 (some ⟨gx05, 0, none⟩) n0_5 n0_5 1 _ _ _ _ _ (by omega) (by omega) (by omega) (by omega) HOx0_4_8.out HOx0_5_8.out (fun k h1 h2 => by have h8 := HGSx0.out; simp [Value.ownBlock] at h1 h2; omega)).mono ?_
  rintro e w9 ⟨rfl, hown9_4, hown9_5, hg9⟩
  clear qx0_0 qx0_1 qx0_2 qx0_3 qx0_4 qx0_5
  have hz9 := hg9.size
  have HB9 := Lib.hid (Gr.below HB8.out hg9 HB8.out.size (fun k hk e => by skip; rcases e with e | e <;> first | (have h9 := LOx0_4.out _ e; omega) | (have h9 := LOx0_5.out _ e; omega)))
  have HOt0_4_9 := Lib.hid (own_gr HOt0_4_8.out hg9 (fun k hk e => by have h8 := LOt0_4.out k hk; rcases e with e | e <;> first | (have h9 := LOx0_4.out _ e; omega) | (have h9 := LOx0_5.out _ e; omega)))
  have HOt0_5_9 := Lib.hid (own_gr HOt0_5_8.out hg9 (fun k hk e => by have h8 := LOt0_5.out k hk; rcases e with e | e <;> first | (have h9 := LOx0_4.out _ e; omega) | (have h9 := LOx0_5.out _ e; omega)))
  have HOw0_4_9 := Lib.hid (own_gr HOw0_4_8.out hg9 (fun k hk e => by have h8 := LOw0_4.out k hk; rcases e with e | e <;> first | (have h9 := LOx0_4.out _ e; omega) | (have h9 := LOx0_5.out _ e; omega)))
  have HOw0_5_9 := Lib.hid (own_gr HOw0_5_8.out hg9 (fun k hk e => by have h8 := LOw0_5.out k hk; rcases e with e | e <;> first | (have h9 := LOx0_4.out _ e; omega) | (have h9 := LOx0_5.out _ e; omega)))
  have HOg0_4_9 := Lib.hid (own_gr HOg0_4_8.out hg9 (fun k hk e => by have h8 := LOg0_4.out k hk; rcases e with e | e <;> first | (have h9 := LOx0_4.out _ e; omega) | (have h9 := LOx0_5.out _ e; omega)))
  have HOg0_5_9 := Lib.hid (own_gr HOg0_5_8.out hg9 (fun k hk e => by have h8 := LOg0_5.out k hk; rcases e with e | e <;> first | (have h9 := LOx0_4.out _ e; omega) | (have h9 := LOx0_5.out _ e; omega)))
  have HVa0_9 := Lib.hid (HVa0_8.out.gr hg9 (fun e => by skip; rcases e with e | e <;> first | (have h9 := LOx0_4.out _ e; omega) | (have h9 := LOx0_5.out _ e; omega)))
  have HVw0_9 := Lib.hid (HVw0_8.out.gr hg9 (fun e => by skip; rcases e with e | e <;> first | (have h9 := LOx0_4.out _ e; omega) | (have h9 := LOx0_5.out _ e; omega)))
  have HVx0_9 := Lib.hid (HVx0_8.out.gr hg9 (fun e => by skip; rcases e with e | e <;> first | (have h9 := LOx0_4.out _ e; omega) | (have h9 := LOx0_5.out _ e; omega)))
  have HVg0_9 := Lib.hid (HVg0_8.out.gr hg9 (fun e => by skip; rcases e with e | e <;> first | (have h9 := LOx0_4.out _ e; omega) | (have h9 := LOx0_5.out _ e; omega)))
  have HOx0_4_9 := Lib.hid hown9_4
  have HOx0_5_9 := Lib.hid hown9_5
  clear hg9 hown9_4 hown9_5
  clear HB8 HOt0_4_8 HOt0_5_8 HOw0_4_8 HOw0_5_8 HOx0_4_8 HOx0_5_8 HOg0_4_8 HOg0_5_8 HVa0_8 HVw0_8 HVx0_8 HVg0_8
  have qg0_0 := HVg0_9.out.cell 0 _ rfl
  have qg0_1 := HVg0_9.out.cell 1 _ rfl
  have qg0_2 := HVg0_9.out.cell 2 _ rfl
  have qg0_3 := HVg0_9.out.cell 3 _ rfl
  have qg0_4 := HVg0_9.out.cell 4 _ rfl
  have qg0_5 := HVg0_9.out.cell 5 _ rfl
  have qw0_0 := HVw0_9.out.cell 0 _ rfl
  have qw0_1 := HVw0_9.out.cell 1 _ rfl
  have qw0_2 := HVw0_9.out.cell 2 _ rfl
  have qw0_3 := HVw0_9.out.cell 3 _ rfl
  have qw0_4 := HVw0_9.out.cell 4 _ rfl
  have qw0_5 := HVw0_9.out.cell 5 _ rfl
  go_wp2_with fail
  refine (eqMessage_same ((ansR (⟨x0_0, x0_1, x0_2, x0_3, h0_4, h0_5⟩ : MsgM) i1).x0) ((ansR (⟨x0_0, x0_1, x0_2, x0_3, h0_4, h0_5⟩ : MsgM) i1).x1) ((ansR (⟨x0_0, x0_1, x0_2, x0_3, h0_4, h0_5⟩ : MsgM) i1).x2) ((ansR (⟨x0_0, x0_1, x0_2, x0_3, h0_4, h0_5⟩ : MsgM) i1).x3) Ag04 (ansR (⟨x0_0, x0_1, x0_2, x0_3, h0_4, h0_5⟩ : MsgM) i1).h.length cg04 (ansR (⟨x0_0, x0_1, x0_2, x0_3, h0_4, h0_5⟩ : MsgM) i1).h Ag05 (ansR (⟨x0_0, x0_1, x0_2, x0_3, h0_4, h0_5⟩ : MsgM) i1).b.length cg05 (ansR (⟨x0_0, x0_1, x0_2, x0_3, h0_4, h0_5⟩ : MsgM) i1).b Aw04 cw04 Aw05 cw05 _ rfl (by have := (ansR_few (⟨x0_0, x0_1, x0_2, x0_3, h0_4, h0_5⟩ : MsgM) i1).1; unfold maxLen; omega) rfl (by have := (ansR_few (⟨x0_0, x0_1, x0_2, x0_3, h0_4, h0_5⟩ : MsgM) i1).2; unfold maxLen; omega) (Sees.of_own HOg0_4_9.out) (Sees.of_own HOw0_4_9.out) (Sees.of_own HOg0_5_9.out) (Sees.of_own HOw0_5_9.out)).mono ?_
  rintro e w10 ⟨rfl, hb10⟩
  clear qg0_0 qg0_1 qg0_2 qg0_3 qg0_4 qg0_5 qw0_0 qw0_1 qw0_2 qw0_3 qw0_4 qw0_5
  have hz10 := hb10.size
  have HB10 := Lib.hid (btrans HB9.out hb10)
  have HOt0_4_10 := Lib.hid (own_call HOt0_4_9.out hb10)
  have HOt0_5_10 := Lib.hid (own_call HOt0_5_9.out hb10)
  have HOw0_4_10 := Lib.hid (own_call HOw0_4_9.out hb10)
  have HOw0_5_10 := Lib.hid (own_call HOw0_5_9.out hb10)
  have HOx0_4_10 := Lib.hid (own_call HOx0_4_9.out hb10)
  have HOx0_5_10 := Lib.hid (own_call HOx0_5_9.out hb10)
  have HOg0_4_10 := Lib.hid (own_call HOg0_4_9.out hb10)
  have HOg0_5_10 := Lib.hid (own_call HOg0_5_9.out hb10)
  have HVa0_10 := Lib.hid (HVa0_9.out.call hb10)
  have HVw0_10 := Lib.hid (HVw0_9.out.call hb10)
  have HVx0_10 := Lib.hid (HVx0_9.out.call hb10)
  have HVg0_10 := Lib.hid (HVg0_9.out.call hb10)
  clear hb10
  clear HB9 HOt0_4_9 HOt0_5_9 HOw0_4_9 HOw0_5_9 HOx0_4_9 HOx0_5_9 HOg0_4_9 HOg0_5_9 HVa0_9 HVw0_9 HVx0_9 HVg0_9
  have qg0_0 := HVg0_10.out.cell 0 _ rfl
  have qg0_1 := HVg0_10.out.cell 1 _ rfl
  have qg0_2 := HVg0_10.out.cell 2 _ rfl
  have qg0_3 := HVg0_10.out.cell 3 _ rfl
  have qg0_4 := HVg0_10.out.cell 4 _ rfl
  have qg0_5 := HVg0_10.out.cell 5 _ rfl
  go_wp2_with fail
  refine (markMessage_any (ansR (⟨x0_0, x0_1, x0_2, x0_3, h0_4, h0_5⟩ : MsgM) i1).x0 (ansR (⟨x0_0, x0_1, x0_2, x0_3, h0_4, h0_5⟩ : MsgM) i1).x1 (ansR (⟨x0_0, x0_1, x0_2, x0_3, h0_4, h0_5⟩ : MsgM) i1).x2 (ansR (⟨x0_0, x0_1, x0_2, x0_3, h0_4, h0_5⟩ : MsgM) i1).x3 Ag04 (ansR (⟨x0_0, x0_1, x0_2, x0_3, h0_4, h0_5⟩ : MsgM) i1).h.length cg04 Ag05 (ansR (⟨x0_0, x0_1, x0_2, x0_3, h0_4, h0_5⟩ : MsgM) i1).b.length cg05 1 _ _ _ _ _ (by have := (ansR_few (⟨x0_0, x0_1, x0_2, x0_3, h0_4, h0_5⟩ : MsgM) i1).1; omega) (by have := (ansR_few (⟨x0_0, x0_1, x0_2, x0_3, h0_4, h0_5⟩ : MsgM) i1).2; omega) (by omega) (by omega) HOg0_4_10.out HOg0_5_10.out HSEPg0.out).mono ?_
  rintro e w11 ⟨rfl, hown11_4, hown11_5, hg11⟩
  clear qg0_0 qg0_1 qg0_2 qg0_3 qg0_4 qg0_5
  have hz11 := hg11.size
  have HB11 := Lib.hid (Gr.below HB10.out hg11 HB10.out.size (fun k hk e => by skip; rcases e with e | e <;> first | (have h9 := LOg0_4.out _ e; omega) | (have h9 := LOg0_5.out _ e; omega)))
  have HOt0_4_11 := Lib.hid (own_gr HOt0_4_10.out hg11 (fun k hk e => by have h8 := LOt0_4.out k hk; rcases e with e | e <;> first | (have h9 := LOg0_4.out _ e; omega) | (have h9 := LOg0_5.out _ e; omega)))
  have HOt0_5_11 := Lib.hid (own_gr HOt0_5_10.out hg11 (fun k hk e => by have h8 := LOt0_5.out k hk; rcases e with e | e <;> first | (have h9 := LOg0_4.out _ e; omega) | (have h9 := LOg0_5.out _ e; omega)))
  have HOw0_4_11 := Lib.hid (own_gr HOw0_4_10.out hg11 (fun k hk e => by have h8 := LOw0_4.out k hk; rcases e with e | e <;> first | (have h9 := LOg0_4.out _ e; omega) | (have h9 := LOg0_5.out _ e; omega)))
  have HOw0_5_11 := Lib.hid (own_gr HOw0_5_10.out hg11 (fun k hk e => by have h8 := LOw0_5.out k hk; rcases e with e | e <;> first | (have h9 := LOg0_4.out _ e; omega) | (have h9 := LOg0_5.out _ e; omega)))
  have HOx0_4_11 := Lib.hid (own_gr HOx0_4_10.out hg11 (fun k hk e => by have h8 := LOx0_4.out k hk; rcases e with e | e <;> first | (have h9 := LOg0_4.out _ e; omega) | (have h9 := LOg0_5.out _ e; omega)))
  have HOx0_5_11 := Lib.hid (own_gr HOx0_5_10.out hg11 (fun k hk e => by have h8 := LOx0_5.out k hk; rcases e with e | e <;> first | (have h9 := LOg0_4.out _ e; omega) | (have h9 := LOg0_5.out _ e; omega)))
  have HVa0_11 := Lib.hid (HVa0_10.out.gr hg11 (fun e => by skip; rcases e with e | e <;> first | (have h9 := LOg0_4.out _ e; omega) | (have h9 := LOg0_5.out _ e; omega)))
  have HVw0_11 := Lib.hid (HVw0_10.out.gr hg11 (fun e => by skip; rcases e with e | e <;> first | (have h9 := LOg0_4.out _ e; omega) | (have h9 := LOg0_5.out _ e; omega)))
  have HVx0_11 := Lib.hid (HVx0_10.out.gr hg11 (fun e => by skip; rcases e with e | e <;> first | (have h9 := LOg0_4.out _ e; omega) | (have h9 := LOg0_5.out _ e; omega)))
  have HVg0_11 := Lib.hid (HVg0_10.out.gr hg11 (fun e => by skip; rcases e with e | e <;> first | (have h9 := LOg0_4.out _ e; omega) | (have h9 := LOg0_5.out _ e; omega)))
  have HOg0_4_11 := Lib.hid hown11_4
  have HOg0_5_11 := Lib.hid hown11_5
  clear hg11 hown11_4 hown11_5
  clear HB10 HOt0_4_10 HOt0_5_10 HOw0_4_10 HOw0_5_10 HOx0_4_10 HOx0_5_10 HOg0_4_10 HOg0_5_10 HVa0_10 HVw0_10 HVx0_10 HVg0_10
  have qg0_0 := HVg0_11.out.cell 0 _ rfl
  have qg0_1 := HVg0_11.out.cell 1 _ rfl
  have qg0_2 := HVg0_11.out.cell 2 _ rfl
  have qg0_3 := HVg0_11.out.cell 3 _ rfl
  have qg0_4 := HVg0_11.out.cell 4 _ rfl
  have qg0_5 := HVg0_11.out.cell 5 _ rfl
  go_wp2_with fail
  refine (heldMessage_any (ansR (⟨x0_0, x0_1, x0_2, x0_3, h0_4, h0_5⟩ : MsgM) i1).x0 (ansR (⟨x0_0, x0_1, x0_2, x0_3, h0_4, h0_5⟩ : MsgM) i1).x1 (ansR (⟨x0_0, x0_1, x0_2, x0_3, h0_4, h0_5⟩ : MsgM) i1).x2 (ansR (⟨x0_0, x0_1, x0_2, x0_3, h0_4, h0_5⟩ : MsgM) i1).x3 Ag04 (ansR (⟨x0_0, x0_1, x0_2, x0_3, h0_4, h0_5⟩ : MsgM) i1).h.length cg04 Ag05 (ansR (⟨x0_0, x0_1, x0_2, x0_3, h0_4, h0_5⟩ : MsgM) i1).b.length cg05 1 _ (by have := (ansR_few (⟨x0_0, x0_1, x0_2, x0_3, h0_4, h0_5⟩ : MsgM) i1).1; omega) (by have := (ansR_few (⟨x0_0, x0_1, x0_2, x0_3, h0_4, h0_5⟩ : MsgM) i1).2; omega) (by omega) (by omega) (Sees.of_own HOg0_4_11.out) (Sees.of_own HOg0_5_11.out)).mono ?_
  rintro e w12 ⟨rfl, hb12⟩
  clear qg0_0 qg0_1 qg0_2 qg0_3 qg0_4 qg0_5
  have hz12 := hb12.size
  have HB12 := Lib.hid (btrans HB11.out hb12)
  have HOt0_4_12 := Lib.hid (own_call HOt0_4_11.out hb12)
  have HOt0_5_12 := Lib.hid (own_call HOt0_5_11.out hb12)
  have HOw0_4_12 := Lib.hid (own_call HOw0_4_11.out hb12)
  have HOw0_5_12 := Lib.hid (own_call HOw0_5_11.out hb12)
  have HOx0_4_12 := Lib.hid (own_call HOx0_4_11.out hb12)
  have HOx0_5_12 := Lib.hid (own_call HOx0_5_11.out hb12)
  have HOg0_4_12 := Lib.hid (own_call HOg0_4_11.out hb12)
  have HOg0_5_12 := Lib.hid (own_call HOg0_5_11.out hb12)
  have HVa0_12 := Lib.hid (HVa0_11.out.call hb12)
  have HVw0_12 := Lib.hid (HVw0_11.out.call hb12)
  have HVx0_12 := Lib.hid (HVx0_11.out.call hb12)
  have HVg0_12 := Lib.hid (HVg0_11.out.call hb12)
  clear hb12
  clear HB11 HOt0_4_11 HOt0_5_11 HOw0_4_11 HOw0_5_11 HOx0_4_11 HOx0_5_11 HOg0_4_11 HOg0_5_11 HVa0_11 HVw0_11 HVx0_11 HVg0_11
  have qa0_0 := HVa0_12.out.cell 0 _ rfl
  have qa0_1 := HVa0_12.out.cell 1 _ rfl
  have qa0_2 := HVa0_12.out.cell 2 _ rfl
  have qa0_3 := HVa0_12.out.cell 3 _ rfl
  have qa0_4 := HVa0_12.out.cell 4 _ rfl
  have qa0_5 := HVa0_12.out.cell 5 _ rfl
  go_wp2_with fail
  refine (toMessage_any x0_0 x0_1 x0_2 x0_3 A0_4 n0_4 c0_4 h0_4 A0_5 n0_5 c0_5 h0_5 _ HN0_4q.out (by omega) HN0_5q.out (by omega) ((HR0_4q.out.below HB12.out (Nat.le_refl _)).more HB12.out.size) ((HR0_5q.out.below HB12.out (Nat.le_refl _)).more HB12.out.size)).mono ?_
  rintro e w13 ⟨gz04, gz05, rfl, hown13_4, hown13_5, hgs13, hb13⟩
  clear qa0_0 qa0_1 qa0_2 qa0_3 qa0_4 qa0_5
  have hz13 := hb13.size
  have HB13 := Lib.hid (btrans HB12.out hb13)
  have HOt0_4_13 := Lib.hid (own_call HOt0_4_12.out hb13)
  have HOt0_5_13 := Lib.hid (own_call HOt0_5_12.out hb13)
  have HOw0_4_13 := Lib.hid (own_call HOw0_4_12.out hb13)
  have HOw0_5_13 := Lib.hid (own_call HOw0_5_12.out hb13)
  have HOx0_4_13 := Lib.hid (own_call HOx0_4_12.out hb13)
  have HOx0_5_13 := Lib.hid (own_call HOx0_5_12.out hb13)
  have HOg0_4_13 := Lib.hid (own_call HOg0_4_12.out hb13)
  have HOg0_5_13 := Lib.hid (own_call HOg0_5_12.out hb13)
  have HVa0_13 := Lib.hid (HVa0_12.out.call hb13)
  have HVw0_13 := Lib.hid (HVw0_12.out.call hb13)
  have HVx0_13 := Lib.hid (HVx0_12.out.call hb13)
  have HVg0_13 := Lib.hid (HVg0_12.out.call hb13)
  have HOz0_4_13 := Lib.hid hown13_4
  have LOz0_4 := Lib.hid (own_rng hown13_4 (lo := w12.heap.size) (by simp <;> omega))
  have HOz0_5_13 := Lib.hid hown13_5
  have LOz0_5 := Lib.hid (own_rng hown13_5 (lo := w12.heap.size) (by simp <;> omega))
  clear hb13 hown13_4 hown13_5
  clear HB12 HOt0_4_12 HOt0_5_12 HOw0_4_12 HOw0_5_12 HOx0_4_12 HOx0_5_12 HOg0_4_12 HOg0_5_12 HVa0_12 HVw0_12 HVx0_12 HVg0_12
  have HGSz0 := Lib.hid hgs13
  clear hgs13
  go_wp2_with fail
  refine (ians_any x0_0 x0_1 x0_2 x0_3 (some ⟨gz04, 0, none⟩) n0_4 n0_4 h0_4 (some ⟨gz05, 0, none⟩) n0_5 n0_5 h0_5 i1 _ W0_0q.out W0_1q.out W0_2q.out HN0_4q.out (by unfold maxLen; omega) HM0_4q.out HN0_5q.out (by unfold maxLen; omega) HM0_5q.out (Sees.of_own HOz0_4_13.out) (Sees.of_own HOz0_5_13.out)).mono ?_
  rintro e w14 ⟨Ah04, ch04, Ah05, ch05, rfl, hown14_4, hown14_5, hseph0, hb14⟩
  have hz14 := hb14.size
  have HB14 := Lib.hid (btrans HB13.out hb14)
  have HOt0_4_14 := Lib.hid (own_call HOt0_4_13.out hb14)
  have HOt0_5_14 := Lib.hid (own_call HOt0_5_13.out hb14)
  have HOw0_4_14 := Lib.hid (own_call HOw0_4_13.out hb14)
  have HOw0_5_14 := Lib.hid (own_call HOw0_5_13.out hb14)
  have HOx0_4_14 := Lib.hid (own_call HOx0_4_13.out hb14)
  have HOx0_5_14 := Lib.hid (own_call HOx0_5_13.out hb14)
  have HOg0_4_14 := Lib.hid (own_call HOg0_4_13.out hb14)
  have HOg0_5_14 := Lib.hid (own_call HOg0_5_13.out hb14)
  have HOz0_4_14 := Lib.hid (own_call HOz0_4_13.out hb14)
  have HOz0_5_14 := Lib.hid (own_call HOz0_5_13.out hb14)
  have HVa0_14 := Lib.hid (HVa0_13.out.call hb14)
  have HVw0_14 := Lib.hid (HVw0_13.out.call hb14)
  have HVx0_14 := Lib.hid (HVx0_13.out.call hb14)
  have HVg0_14 := Lib.hid (HVg0_13.out.call hb14)
  have HOh0_4_14 := Lib.hid hown14_4
  have LOh0_4 := Lib.hid (own_rng hown14_4 (lo := w13.heap.size) (by simp <;> omega))
  have HOh0_5_14 := Lib.hid hown14_5
  have LOh0_5 := Lib.hid (own_rng hown14_5 (lo := w13.heap.size) (by simp <;> omega))
  clear hb14 hown14_4 hown14_5
  clear HB13 HOt0_4_13 HOt0_5_13 HOw0_4_13 HOw0_5_13 HOx0_4_13 HOx0_5_13 HOg0_4_13 HOg0_5_13 HOz0_4_13 HOz0_5_13 HVa0_13 HVw0_13 HVx0_13 HVg0_13
  have HSEPh0 := Lib.hid hseph0
  clear hseph0
  have qh0_0 := (Holds.new w14 28 #[.string (ansR (⟨x0_0, x0_1, x0_2, x0_3, h0_4, h0_5⟩ : MsgM) i1).x0, .string (ansR (⟨x0_0, x0_1, x0_2, x0_3, h0_4, h0_5⟩ : MsgM) i1).x1, .string (ansR (⟨x0_0, x0_1, x0_2, x0_3, h0_4, h0_5⟩ : MsgM) i1).x2, .int .i64 (ansR (⟨x0_0, x0_1, x0_2, x0_3, h0_4, h0_5⟩ : MsgM) i1).x3, .slice Ah04 (ansR (⟨x0_0, x0_1, x0_2, x0_3, h0_4, h0_5⟩ : MsgM) i1).h.length ch04, .slice Ah05 (ansR (⟨x0_0, x0_1, x0_2, x0_3, h0_4, h0_5⟩ : MsgM) i1).b.length ch05]).cell 0 _ rfl
  have qh0_1 := (Holds.new w14 28 #[.string (ansR (⟨x0_0, x0_1, x0_2, x0_3, h0_4, h0_5⟩ : MsgM) i1).x0, .string (ansR (⟨x0_0, x0_1, x0_2, x0_3, h0_4, h0_5⟩ : MsgM) i1).x1, .string (ansR (⟨x0_0, x0_1, x0_2, x0_3, h0_4, h0_5⟩ : MsgM) i1).x2, .int .i64 (ansR (⟨x0_0, x0_1, x0_2, x0_3, h0_4, h0_5⟩ : MsgM) i1).x3, .slice Ah04 (ansR (⟨x0_0, x0_1, x0_2, x0_3, h0_4, h0_5⟩ : MsgM) i1).h.length ch04, .slice Ah05 (ansR (⟨x0_0, x0_1, x0_2, x0_3, h0_4, h0_5⟩ : MsgM) i1).b.length ch05]).cell 1 _ rfl
  have qh0_2 := (Holds.new w14 28 #[.string (ansR (⟨x0_0, x0_1, x0_2, x0_3, h0_4, h0_5⟩ : MsgM) i1).x0, .string (ansR (⟨x0_0, x0_1, x0_2, x0_3, h0_4, h0_5⟩ : MsgM) i1).x1, .string (ansR (⟨x0_0, x0_1, x0_2, x0_3, h0_4, h0_5⟩ : MsgM) i1).x2, .int .i64 (ansR (⟨x0_0, x0_1, x0_2, x0_3, h0_4, h0_5⟩ : MsgM) i1).x3, .slice Ah04 (ansR (⟨x0_0, x0_1, x0_2, x0_3, h0_4, h0_5⟩ : MsgM) i1).h.length ch04, .slice Ah05 (ansR (⟨x0_0, x0_1, x0_2, x0_3, h0_4, h0_5⟩ : MsgM) i1).b.length ch05]).cell 2 _ rfl
  have qh0_3 := (Holds.new w14 28 #[.string (ansR (⟨x0_0, x0_1, x0_2, x0_3, h0_4, h0_5⟩ : MsgM) i1).x0, .string (ansR (⟨x0_0, x0_1, x0_2, x0_3, h0_4, h0_5⟩ : MsgM) i1).x1, .string (ansR (⟨x0_0, x0_1, x0_2, x0_3, h0_4, h0_5⟩ : MsgM) i1).x2, .int .i64 (ansR (⟨x0_0, x0_1, x0_2, x0_3, h0_4, h0_5⟩ : MsgM) i1).x3, .slice Ah04 (ansR (⟨x0_0, x0_1, x0_2, x0_3, h0_4, h0_5⟩ : MsgM) i1).h.length ch04, .slice Ah05 (ansR (⟨x0_0, x0_1, x0_2, x0_3, h0_4, h0_5⟩ : MsgM) i1).b.length ch05]).cell 3 _ rfl
  have qh0_4 := (Holds.new w14 28 #[.string (ansR (⟨x0_0, x0_1, x0_2, x0_3, h0_4, h0_5⟩ : MsgM) i1).x0, .string (ansR (⟨x0_0, x0_1, x0_2, x0_3, h0_4, h0_5⟩ : MsgM) i1).x1, .string (ansR (⟨x0_0, x0_1, x0_2, x0_3, h0_4, h0_5⟩ : MsgM) i1).x2, .int .i64 (ansR (⟨x0_0, x0_1, x0_2, x0_3, h0_4, h0_5⟩ : MsgM) i1).x3, .slice Ah04 (ansR (⟨x0_0, x0_1, x0_2, x0_3, h0_4, h0_5⟩ : MsgM) i1).h.length ch04, .slice Ah05 (ansR (⟨x0_0, x0_1, x0_2, x0_3, h0_4, h0_5⟩ : MsgM) i1).b.length ch05]).cell 4 _ rfl
  have qh0_5 := (Holds.new w14 28 #[.string (ansR (⟨x0_0, x0_1, x0_2, x0_3, h0_4, h0_5⟩ : MsgM) i1).x0, .string (ansR (⟨x0_0, x0_1, x0_2, x0_3, h0_4, h0_5⟩ : MsgM) i1).x1, .string (ansR (⟨x0_0, x0_1, x0_2, x0_3, h0_4, h0_5⟩ : MsgM) i1).x2, .int .i64 (ansR (⟨x0_0, x0_1, x0_2, x0_3, h0_4, h0_5⟩ : MsgM) i1).x3, .slice Ah04 (ansR (⟨x0_0, x0_1, x0_2, x0_3, h0_4, h0_5⟩ : MsgM) i1).h.length ch04, .slice Ah05 (ansR (⟨x0_0, x0_1, x0_2, x0_3, h0_4, h0_5⟩ : MsgM) i1).b.length ch05]).cell 5 _ rfl
  have qw0_0 := (HVw0_14.out.alloc (.cells #[.string (ansR (⟨x0_0, x0_1, x0_2, x0_3, h0_4, h0_5⟩ : MsgM) i1).x0, .string (ansR (⟨x0_0, x0_1, x0_2, x0_3, h0_4, h0_5⟩ : MsgM) i1).x1, .string (ansR (⟨x0_0, x0_1, x0_2, x0_3, h0_4, h0_5⟩ : MsgM) i1).x2, .int .i64 (ansR (⟨x0_0, x0_1, x0_2, x0_3, h0_4, h0_5⟩ : MsgM) i1).x3, .slice Ah04 (ansR (⟨x0_0, x0_1, x0_2, x0_3, h0_4, h0_5⟩ : MsgM) i1).h.length ch04, .slice Ah05 (ansR (⟨x0_0, x0_1, x0_2, x0_3, h0_4, h0_5⟩ : MsgM) i1).b.length ch05] 28)).cell 0 _ rfl
  have qw0_1 := (HVw0_14.out.alloc (.cells #[.string (ansR (⟨x0_0, x0_1, x0_2, x0_3, h0_4, h0_5⟩ : MsgM) i1).x0, .string (ansR (⟨x0_0, x0_1, x0_2, x0_3, h0_4, h0_5⟩ : MsgM) i1).x1, .string (ansR (⟨x0_0, x0_1, x0_2, x0_3, h0_4, h0_5⟩ : MsgM) i1).x2, .int .i64 (ansR (⟨x0_0, x0_1, x0_2, x0_3, h0_4, h0_5⟩ : MsgM) i1).x3, .slice Ah04 (ansR (⟨x0_0, x0_1, x0_2, x0_3, h0_4, h0_5⟩ : MsgM) i1).h.length ch04, .slice Ah05 (ansR (⟨x0_0, x0_1, x0_2, x0_3, h0_4, h0_5⟩ : MsgM) i1).b.length ch05] 28)).cell 1 _ rfl
  have qw0_2 := (HVw0_14.out.alloc (.cells #[.string (ansR (⟨x0_0, x0_1, x0_2, x0_3, h0_4, h0_5⟩ : MsgM) i1).x0, .string (ansR (⟨x0_0, x0_1, x0_2, x0_3, h0_4, h0_5⟩ : MsgM) i1).x1, .string (ansR (⟨x0_0, x0_1, x0_2, x0_3, h0_4, h0_5⟩ : MsgM) i1).x2, .int .i64 (ansR (⟨x0_0, x0_1, x0_2, x0_3, h0_4, h0_5⟩ : MsgM) i1).x3, .slice Ah04 (ansR (⟨x0_0, x0_1, x0_2, x0_3, h0_4, h0_5⟩ : MsgM) i1).h.length ch04, .slice Ah05 (ansR (⟨x0_0, x0_1, x0_2, x0_3, h0_4, h0_5⟩ : MsgM) i1).b.length ch05] 28)).cell 2 _ rfl
  have qw0_3 := (HVw0_14.out.alloc (.cells #[.string (ansR (⟨x0_0, x0_1, x0_2, x0_3, h0_4, h0_5⟩ : MsgM) i1).x0, .string (ansR (⟨x0_0, x0_1, x0_2, x0_3, h0_4, h0_5⟩ : MsgM) i1).x1, .string (ansR (⟨x0_0, x0_1, x0_2, x0_3, h0_4, h0_5⟩ : MsgM) i1).x2, .int .i64 (ansR (⟨x0_0, x0_1, x0_2, x0_3, h0_4, h0_5⟩ : MsgM) i1).x3, .slice Ah04 (ansR (⟨x0_0, x0_1, x0_2, x0_3, h0_4, h0_5⟩ : MsgM) i1).h.length ch04, .slice Ah05 (ansR (⟨x0_0, x0_1, x0_2, x0_3, h0_4, h0_5⟩ : MsgM) i1).b.length ch05] 28)).cell 3 _ rfl
  have qw0_4 := (HVw0_14.out.alloc (.cells #[.string (ansR (⟨x0_0, x0_1, x0_2, x0_3, h0_4, h0_5⟩ : MsgM) i1).x0, .string (ansR (⟨x0_0, x0_1, x0_2, x0_3, h0_4, h0_5⟩ : MsgM) i1).x1, .string (ansR (⟨x0_0, x0_1, x0_2, x0_3, h0_4, h0_5⟩ : MsgM) i1).x2, .int .i64 (ansR (⟨x0_0, x0_1, x0_2, x0_3, h0_4, h0_5⟩ : MsgM) i1).x3, .slice Ah04 (ansR (⟨x0_0, x0_1, x0_2, x0_3, h0_4, h0_5⟩ : MsgM) i1).h.length ch04, .slice Ah05 (ansR (⟨x0_0, x0_1, x0_2, x0_3, h0_4, h0_5⟩ : MsgM) i1).b.length ch05] 28)).cell 4 _ rfl
  have qw0_5 := (HVw0_14.out.alloc (.cells #[.string (ansR (⟨x0_0, x0_1, x0_2, x0_3, h0_4, h0_5⟩ : MsgM) i1).x0, .string (ansR (⟨x0_0, x0_1, x0_2, x0_3, h0_4, h0_5⟩ : MsgM) i1).x1, .string (ansR (⟨x0_0, x0_1, x0_2, x0_3, h0_4, h0_5⟩ : MsgM) i1).x2, .int .i64 (ansR (⟨x0_0, x0_1, x0_2, x0_3, h0_4, h0_5⟩ : MsgM) i1).x3, .slice Ah04 (ansR (⟨x0_0, x0_1, x0_2, x0_3, h0_4, h0_5⟩ : MsgM) i1).h.length ch04, .slice Ah05 (ansR (⟨x0_0, x0_1, x0_2, x0_3, h0_4, h0_5⟩ : MsgM) i1).b.length ch05] 28)).cell 5 _ rfl
  go_wp2_with fail
  refine (eqMessage_same ((ansR (⟨x0_0, x0_1, x0_2, x0_3, h0_4, h0_5⟩ : MsgM) i1).x0) ((ansR (⟨x0_0, x0_1, x0_2, x0_3, h0_4, h0_5⟩ : MsgM) i1).x1) ((ansR (⟨x0_0, x0_1, x0_2, x0_3, h0_4, h0_5⟩ : MsgM) i1).x2) ((ansR (⟨x0_0, x0_1, x0_2, x0_3, h0_4, h0_5⟩ : MsgM) i1).x3) Ah04 (ansR (⟨x0_0, x0_1, x0_2, x0_3, h0_4, h0_5⟩ : MsgM) i1).h.length ch04 (ansR (⟨x0_0, x0_1, x0_2, x0_3, h0_4, h0_5⟩ : MsgM) i1).h Ah05 (ansR (⟨x0_0, x0_1, x0_2, x0_3, h0_4, h0_5⟩ : MsgM) i1).b.length ch05 (ansR (⟨x0_0, x0_1, x0_2, x0_3, h0_4, h0_5⟩ : MsgM) i1).b Aw04 cw04 Aw05 cw05 _ rfl (by have := (ansR_few (⟨x0_0, x0_1, x0_2, x0_3, h0_4, h0_5⟩ : MsgM) i1).1; unfold maxLen; omega) rfl (by have := (ansR_few (⟨x0_0, x0_1, x0_2, x0_3, h0_4, h0_5⟩ : MsgM) i1).2; unfold maxLen; omega) (Sees.of_own (HOh0_4_14.out.alloc (.cells #[.string (ansR (⟨x0_0, x0_1, x0_2, x0_3, h0_4, h0_5⟩ : MsgM) i1).x0, .string (ansR (⟨x0_0, x0_1, x0_2, x0_3, h0_4, h0_5⟩ : MsgM) i1).x1, .string (ansR (⟨x0_0, x0_1, x0_2, x0_3, h0_4, h0_5⟩ : MsgM) i1).x2, .int .i64 (ansR (⟨x0_0, x0_1, x0_2, x0_3, h0_4, h0_5⟩ : MsgM) i1).x3, .slice Ah04 (ansR (⟨x0_0, x0_1, x0_2, x0_3, h0_4, h0_5⟩ : MsgM) i1).h.length ch04, .slice Ah05 (ansR (⟨x0_0, x0_1, x0_2, x0_3, h0_4, h0_5⟩ : MsgM) i1).b.length ch05] 28))) (Sees.of_own (HOw0_4_14.out.alloc (.cells #[.string (ansR (⟨x0_0, x0_1, x0_2, x0_3, h0_4, h0_5⟩ : MsgM) i1).x0, .string (ansR (⟨x0_0, x0_1, x0_2, x0_3, h0_4, h0_5⟩ : MsgM) i1).x1, .string (ansR (⟨x0_0, x0_1, x0_2, x0_3, h0_4, h0_5⟩ : MsgM) i1).x2, .int .i64 (ansR (⟨x0_0, x0_1, x0_2, x0_3, h0_4, h0_5⟩ : MsgM) i1).x3, .slice Ah04 (ansR (⟨x0_0, x0_1, x0_2, x0_3, h0_4, h0_5⟩ : MsgM) i1).h.length ch04, .slice Ah05 (ansR (⟨x0_0, x0_1, x0_2, x0_3, h0_4, h0_5⟩ : MsgM) i1).b.length ch05] 28))) (Sees.of_own (HOh0_5_14.out.alloc (.cells #[.string (ansR (⟨x0_0, x0_1, x0_2, x0_3, h0_4, h0_5⟩ : MsgM) i1).x0, .string (ansR (⟨x0_0, x0_1, x0_2, x0_3, h0_4, h0_5⟩ : MsgM) i1).x1, .string (ansR (⟨x0_0, x0_1, x0_2, x0_3, h0_4, h0_5⟩ : MsgM) i1).x2, .int .i64 (ansR (⟨x0_0, x0_1, x0_2, x0_3, h0_4, h0_5⟩ : MsgM) i1).x3, .slice Ah04 (ansR (⟨x0_0, x0_1, x0_2, x0_3, h0_4, h0_5⟩ : MsgM) i1).h.length ch04, .slice Ah05 (ansR (⟨x0_0, x0_1, x0_2, x0_3, h0_4, h0_5⟩ : MsgM) i1).b.length ch05] 28))) (Sees.of_own (HOw0_5_14.out.alloc (.cells #[.string (ansR (⟨x0_0, x0_1, x0_2, x0_3, h0_4, h0_5⟩ : MsgM) i1).x0, .string (ansR (⟨x0_0, x0_1, x0_2, x0_3, h0_4, h0_5⟩ : MsgM) i1).x1, .string (ansR (⟨x0_0, x0_1, x0_2, x0_3, h0_4, h0_5⟩ : MsgM) i1).x2, .int .i64 (ansR (⟨x0_0, x0_1, x0_2, x0_3, h0_4, h0_5⟩ : MsgM) i1).x3, .slice Ah04 (ansR (⟨x0_0, x0_1, x0_2, x0_3, h0_4, h0_5⟩ : MsgM) i1).h.length ch04, .slice Ah05 (ansR (⟨x0_0, x0_1, x0_2, x0_3, h0_4, h0_5⟩ : MsgM) i1).b.length ch05] 28)))).mono ?_
  rintro e w15 ⟨rfl, hb15⟩
  clear qh0_0 qh0_1 qh0_2 qh0_3 qh0_4 qh0_5 qw0_0 qw0_1 qw0_2 qw0_3 qw0_4 qw0_5
  have hz15 := hb15.size
  simp at hz15
  have HB15 := Lib.hid (btrans (balloc HB14.out (.cells #[.string (ansR (⟨x0_0, x0_1, x0_2, x0_3, h0_4, h0_5⟩ : MsgM) i1).x0, .string (ansR (⟨x0_0, x0_1, x0_2, x0_3, h0_4, h0_5⟩ : MsgM) i1).x1, .string (ansR (⟨x0_0, x0_1, x0_2, x0_3, h0_4, h0_5⟩ : MsgM) i1).x2, .int .i64 (ansR (⟨x0_0, x0_1, x0_2, x0_3, h0_4, h0_5⟩ : MsgM) i1).x3, .slice Ah04 (ansR (⟨x0_0, x0_1, x0_2, x0_3, h0_4, h0_5⟩ : MsgM) i1).h.length ch04, .slice Ah05 (ansR (⟨x0_0, x0_1, x0_2, x0_3, h0_4, h0_5⟩ : MsgM) i1).b.length ch05] 28)) hb15)
  have HOt0_4_15 := Lib.hid (own_call (HOt0_4_14.out.alloc (.cells #[.string (ansR (⟨x0_0, x0_1, x0_2, x0_3, h0_4, h0_5⟩ : MsgM) i1).x0, .string (ansR (⟨x0_0, x0_1, x0_2, x0_3, h0_4, h0_5⟩ : MsgM) i1).x1, .string (ansR (⟨x0_0, x0_1, x0_2, x0_3, h0_4, h0_5⟩ : MsgM) i1).x2, .int .i64 (ansR (⟨x0_0, x0_1, x0_2, x0_3, h0_4, h0_5⟩ : MsgM) i1).x3, .slice Ah04 (ansR (⟨x0_0, x0_1, x0_2, x0_3, h0_4, h0_5⟩ : MsgM) i1).h.length ch04, .slice Ah05 (ansR (⟨x0_0, x0_1, x0_2, x0_3, h0_4, h0_5⟩ : MsgM) i1).b.length ch05] 28)) hb15)
  have HOt0_5_15 := Lib.hid (own_call (HOt0_5_14.out.alloc (.cells #[.string (ansR (⟨x0_0, x0_1, x0_2, x0_3, h0_4, h0_5⟩ : MsgM) i1).x0, .string (ansR (⟨x0_0, x0_1, x0_2, x0_3, h0_4, h0_5⟩ : MsgM) i1).x1, .string (ansR (⟨x0_0, x0_1, x0_2, x0_3, h0_4, h0_5⟩ : MsgM) i1).x2, .int .i64 (ansR (⟨x0_0, x0_1, x0_2, x0_3, h0_4, h0_5⟩ : MsgM) i1).x3, .slice Ah04 (ansR (⟨x0_0, x0_1, x0_2, x0_3, h0_4, h0_5⟩ : MsgM) i1).h.length ch04, .slice Ah05 (ansR (⟨x0_0, x0_1, x0_2, x0_3, h0_4, h0_5⟩ : MsgM) i1).b.length ch05] 28)) hb15)
  have HOw0_4_15 := Lib.hid (own_call (HOw0_4_14.out.alloc (.cells #[.string (ansR (⟨x0_0, x0_1, x0_2, x0_3, h0_4, h0_5⟩ : MsgM) i1).x0, .string (ansR (⟨x0_0, x0_1, x0_2, x0_3, h0_4, h0_5⟩ : MsgM) i1).x1, .string (ansR (⟨x0_0, x0_1, x0_2, x0_3, h0_4, h0_5⟩ : MsgM) i1).x2, .int .i64 (ansR (⟨x0_0, x0_1, x0_2, x0_3, h0_4, h0_5⟩ : MsgM) i1).x3, .slice Ah04 (ansR (⟨x0_0, x0_1, x0_2, x0_3, h0_4, h0_5⟩ : MsgM) i1).h.length ch04, .slice Ah05 (ansR (⟨x0_0, x0_1, x0_2, x0_3, h0_4, h0_5⟩ : MsgM) i1).b.length ch05] 28)) hb15)
  have HOw0_5_15 := Lib.hid (own_call (HOw0_5_14.out.alloc (.cells #[.string (ansR (⟨x0_0, x0_1, x0_2, x0_3, h0_4, h0_5⟩ : MsgM) i1).x0, .string (ansR (⟨x0_0, x0_1, x0_2, x0_3, h0_4, h0_5⟩ : MsgM) i1).x1, .string (ansR (⟨x0_0, x0_1, x0_2, x0_3, h0_4, h0_5⟩ : MsgM) i1).x2, .int .i64 (ansR (⟨x0_0, x0_1, x0_2, x0_3, h0_4, h0_5⟩ : MsgM) i1).x3, .slice Ah04 (ansR (⟨x0_0, x0_1, x0_2, x0_3, h0_4, h0_5⟩ : MsgM) i1).h.length ch04, .slice Ah05 (ansR (⟨x0_0, x0_1, x0_2, x0_3, h0_4, h0_5⟩ : MsgM) i1).b.length ch05] 28)) hb15)
  have HOx0_4_15 := Lib.hid (own_call (HOx0_4_14.out.alloc (.cells #[.string (ansR (⟨x0_0, x0_1, x0_2, x0_3, h0_4, h0_5⟩ : MsgM) i1).x0, .string (ansR (⟨x0_0, x0_1, x0_2, x0_3, h0_4, h0_5⟩ : MsgM) i1).x1, .string (ansR (⟨x0_0, x0_1, x0_2, x0_3, h0_4, h0_5⟩ : MsgM) i1).x2, .int .i64 (ansR (⟨x0_0, x0_1, x0_2, x0_3, h0_4, h0_5⟩ : MsgM) i1).x3, .slice Ah04 (ansR (⟨x0_0, x0_1, x0_2, x0_3, h0_4, h0_5⟩ : MsgM) i1).h.length ch04, .slice Ah05 (ansR (⟨x0_0, x0_1, x0_2, x0_3, h0_4, h0_5⟩ : MsgM) i1).b.length ch05] 28)) hb15)
  have HOx0_5_15 := Lib.hid (own_call (HOx0_5_14.out.alloc (.cells #[.string (ansR (⟨x0_0, x0_1, x0_2, x0_3, h0_4, h0_5⟩ : MsgM) i1).x0, .string (ansR (⟨x0_0, x0_1, x0_2, x0_3, h0_4, h0_5⟩ : MsgM) i1).x1, .string (ansR (⟨x0_0, x0_1, x0_2, x0_3, h0_4, h0_5⟩ : MsgM) i1).x2, .int .i64 (ansR (⟨x0_0, x0_1, x0_2, x0_3, h0_4, h0_5⟩ : MsgM) i1).x3, .slice Ah04 (ansR (⟨x0_0, x0_1, x0_2, x0_3, h0_4, h0_5⟩ : MsgM) i1).h.length ch04, .slice Ah05 (ansR (⟨x0_0, x0_1, x0_2, x0_3, h0_4, h0_5⟩ : MsgM) i1).b.length ch05] 28)) hb15)
  have HOg0_4_15 := Lib.hid (own_call (HOg0_4_14.out.alloc (.cells #[.string (ansR (⟨x0_0, x0_1, x0_2, x0_3, h0_4, h0_5⟩ : MsgM) i1).x0, .string (ansR (⟨x0_0, x0_1, x0_2, x0_3, h0_4, h0_5⟩ : MsgM) i1).x1, .string (ansR (⟨x0_0, x0_1, x0_2, x0_3, h0_4, h0_5⟩ : MsgM) i1).x2, .int .i64 (ansR (⟨x0_0, x0_1, x0_2, x0_3, h0_4, h0_5⟩ : MsgM) i1).x3, .slice Ah04 (ansR (⟨x0_0, x0_1, x0_2, x0_3, h0_4, h0_5⟩ : MsgM) i1).h.length ch04, .slice Ah05 (ansR (⟨x0_0, x0_1, x0_2, x0_3, h0_4, h0_5⟩ : MsgM) i1).b.length ch05] 28)) hb15)
  have HOg0_5_15 := Lib.hid (own_call (HOg0_5_14.out.alloc (.cells #[.string (ansR (⟨x0_0, x0_1, x0_2, x0_3, h0_4, h0_5⟩ : MsgM) i1).x0, .string (ansR (⟨x0_0, x0_1, x0_2, x0_3, h0_4, h0_5⟩ : MsgM) i1).x1, .string (ansR (⟨x0_0, x0_1, x0_2, x0_3, h0_4, h0_5⟩ : MsgM) i1).x2, .int .i64 (ansR (⟨x0_0, x0_1, x0_2, x0_3, h0_4, h0_5⟩ : MsgM) i1).x3, .slice Ah04 (ansR (⟨x0_0, x0_1, x0_2, x0_3, h0_4, h0_5⟩ : MsgM) i1).h.length ch04, .slice Ah05 (ansR (⟨x0_0, x0_1, x0_2, x0_3, h0_4, h0_5⟩ : MsgM) i1).b.length ch05] 28)) hb15)
  have HOz0_4_15 := Lib.hid (own_call (HOz0_4_14.out.alloc (.cells #[.string (ansR (⟨x0_0, x0_1, x0_2, x0_3, h0_4, h0_5⟩ : MsgM) i1).x0, .string (ansR (⟨x0_0, x0_1, x0_2, x0_3, h0_4, h0_5⟩ : MsgM) i1).x1, .string (ansR (⟨x0_0, x0_1, x0_2, x0_3, h0_4, h0_5⟩ : MsgM) i1).x2, .int .i64 (ansR (⟨x0_0, x0_1, x0_2, x0_3, h0_4, h0_5⟩ : MsgM) i1).x3, .slice Ah04 (ansR (⟨x0_0, x0_1, x0_2, x0_3, h0_4, h0_5⟩ : MsgM) i1).h.length ch04, .slice Ah05 (ansR (⟨x0_0, x0_1, x0_2, x0_3, h0_4, h0_5⟩ : MsgM) i1).b.length ch05] 28)) hb15)
  have HOz0_5_15 := Lib.hid (own_call (HOz0_5_14.out.alloc (.cells #[.string (ansR (⟨x0_0, x0_1, x0_2, x0_3, h0_4, h0_5⟩ : MsgM) i1).x0, .string (ansR (⟨x0_0, x0_1, x0_2, x0_3, h0_4, h0_5⟩ : MsgM) i1).x1, .string (ansR (⟨x0_0, x0_1, x0_2, x0_3, h0_4, h0_5⟩ : MsgM) i1).x2, .int .i64 (ansR (⟨x0_0, x0_1, x0_2, x0_3, h0_4, h0_5⟩ : MsgM) i1).x3, .slice Ah04 (ansR (⟨x0_0, x0_1, x0_2, x0_3, h0_4, h0_5⟩ : MsgM) i1).h.length ch04, .slice Ah05 (ansR (⟨x0_0, x0_1, x0_2, x0_3, h0_4, h0_5⟩ : MsgM) i1).b.length ch05] 28)) hb15)
  have HOh0_4_15 := Lib.hid (own_call (HOh0_4_14.out.alloc (.cells #[.string (ansR (⟨x0_0, x0_1, x0_2, x0_3, h0_4, h0_5⟩ : MsgM) i1).x0, .string (ansR (⟨x0_0, x0_1, x0_2, x0_3, h0_4, h0_5⟩ : MsgM) i1).x1, .string (ansR (⟨x0_0, x0_1, x0_2, x0_3, h0_4, h0_5⟩ : MsgM) i1).x2, .int .i64 (ansR (⟨x0_0, x0_1, x0_2, x0_3, h0_4, h0_5⟩ : MsgM) i1).x3, .slice Ah04 (ansR (⟨x0_0, x0_1, x0_2, x0_3, h0_4, h0_5⟩ : MsgM) i1).h.length ch04, .slice Ah05 (ansR (⟨x0_0, x0_1, x0_2, x0_3, h0_4, h0_5⟩ : MsgM) i1).b.length ch05] 28)) hb15)
  have HOh0_5_15 := Lib.hid (own_call (HOh0_5_14.out.alloc (.cells #[.string (ansR (⟨x0_0, x0_1, x0_2, x0_3, h0_4, h0_5⟩ : MsgM) i1).x0, .string (ansR (⟨x0_0, x0_1, x0_2, x0_3, h0_4, h0_5⟩ : MsgM) i1).x1, .string (ansR (⟨x0_0, x0_1, x0_2, x0_3, h0_4, h0_5⟩ : MsgM) i1).x2, .int .i64 (ansR (⟨x0_0, x0_1, x0_2, x0_3, h0_4, h0_5⟩ : MsgM) i1).x3, .slice Ah04 (ansR (⟨x0_0, x0_1, x0_2, x0_3, h0_4, h0_5⟩ : MsgM) i1).h.length ch04, .slice Ah05 (ansR (⟨x0_0, x0_1, x0_2, x0_3, h0_4, h0_5⟩ : MsgM) i1).b.length ch05] 28)) hb15)
  have HVa0_15 := Lib.hid ((HVa0_14.out.alloc (.cells #[.string (ansR (⟨x0_0, x0_1, x0_2, x0_3, h0_4, h0_5⟩ : MsgM) i1).x0, .string (ansR (⟨x0_0, x0_1, x0_2, x0_3, h0_4, h0_5⟩ : MsgM) i1).x1, .string (ansR (⟨x0_0, x0_1, x0_2, x0_3, h0_4, h0_5⟩ : MsgM) i1).x2, .int .i64 (ansR (⟨x0_0, x0_1, x0_2, x0_3, h0_4, h0_5⟩ : MsgM) i1).x3, .slice Ah04 (ansR (⟨x0_0, x0_1, x0_2, x0_3, h0_4, h0_5⟩ : MsgM) i1).h.length ch04, .slice Ah05 (ansR (⟨x0_0, x0_1, x0_2, x0_3, h0_4, h0_5⟩ : MsgM) i1).b.length ch05] 28)).call hb15)
  have HVw0_15 := Lib.hid ((HVw0_14.out.alloc (.cells #[.string (ansR (⟨x0_0, x0_1, x0_2, x0_3, h0_4, h0_5⟩ : MsgM) i1).x0, .string (ansR (⟨x0_0, x0_1, x0_2, x0_3, h0_4, h0_5⟩ : MsgM) i1).x1, .string (ansR (⟨x0_0, x0_1, x0_2, x0_3, h0_4, h0_5⟩ : MsgM) i1).x2, .int .i64 (ansR (⟨x0_0, x0_1, x0_2, x0_3, h0_4, h0_5⟩ : MsgM) i1).x3, .slice Ah04 (ansR (⟨x0_0, x0_1, x0_2, x0_3, h0_4, h0_5⟩ : MsgM) i1).h.length ch04, .slice Ah05 (ansR (⟨x0_0, x0_1, x0_2, x0_3, h0_4, h0_5⟩ : MsgM) i1).b.length ch05] 28)).call hb15)
  have HVx0_15 := Lib.hid ((HVx0_14.out.alloc (.cells #[.string (ansR (⟨x0_0, x0_1, x0_2, x0_3, h0_4, h0_5⟩ : MsgM) i1).x0, .string (ansR (⟨x0_0, x0_1, x0_2, x0_3, h0_4, h0_5⟩ : MsgM) i1).x1, .string (ansR (⟨x0_0, x0_1, x0_2, x0_3, h0_4, h0_5⟩ : MsgM) i1).x2, .int .i64 (ansR (⟨x0_0, x0_1, x0_2, x0_3, h0_4, h0_5⟩ : MsgM) i1).x3, .slice Ah04 (ansR (⟨x0_0, x0_1, x0_2, x0_3, h0_4, h0_5⟩ : MsgM) i1).h.length ch04, .slice Ah05 (ansR (⟨x0_0, x0_1, x0_2, x0_3, h0_4, h0_5⟩ : MsgM) i1).b.length ch05] 28)).call hb15)
  have HVg0_15 := Lib.hid ((HVg0_14.out.alloc (.cells #[.string (ansR (⟨x0_0, x0_1, x0_2, x0_3, h0_4, h0_5⟩ : MsgM) i1).x0, .string (ansR (⟨x0_0, x0_1, x0_2, x0_3, h0_4, h0_5⟩ : MsgM) i1).x1, .string (ansR (⟨x0_0, x0_1, x0_2, x0_3, h0_4, h0_5⟩ : MsgM) i1).x2, .int .i64 (ansR (⟨x0_0, x0_1, x0_2, x0_3, h0_4, h0_5⟩ : MsgM) i1).x3, .slice Ah04 (ansR (⟨x0_0, x0_1, x0_2, x0_3, h0_4, h0_5⟩ : MsgM) i1).h.length ch04, .slice Ah05 (ansR (⟨x0_0, x0_1, x0_2, x0_3, h0_4, h0_5⟩ : MsgM) i1).b.length ch05] 28)).call hb15)
  have HVh0_15 := Lib.hid ((Holds.new w14 28 #[.string (ansR (⟨x0_0, x0_1, x0_2, x0_3, h0_4, h0_5⟩ : MsgM) i1).x0, .string (ansR (⟨x0_0, x0_1, x0_2, x0_3, h0_4, h0_5⟩ : MsgM) i1).x1, .string (ansR (⟨x0_0, x0_1, x0_2, x0_3, h0_4, h0_5⟩ : MsgM) i1).x2, .int .i64 (ansR (⟨x0_0, x0_1, x0_2, x0_3, h0_4, h0_5⟩ : MsgM) i1).x3, .slice Ah04 (ansR (⟨x0_0, x0_1, x0_2, x0_3, h0_4, h0_5⟩ : MsgM) i1).h.length ch04, .slice Ah05 (ansR (⟨x0_0, x0_1, x0_2, x0_3, h0_4, h0_5⟩ : MsgM) i1).b.length ch05]).call hb15)
  clear hb15
  clear HB14 HOt0_4_14 HOt0_5_14 HOw0_4_14 HOw0_5_14 HOx0_4_14 HOx0_5_14 HOg0_4_14 HOg0_5_14 HOz0_4_14 HOz0_5_14 HOh0_4_14 HOh0_5_14 HVa0_14 HVw0_14 HVx0_14 HVg0_14
  have qg0_0 := HVg0_15.out.cell 0 _ rfl
  have qg0_1 := HVg0_15.out.cell 1 _ rfl
  have qg0_2 := HVg0_15.out.cell 2 _ rfl
  have qg0_3 := HVg0_15.out.cell 3 _ rfl
  have qg0_4 := HVg0_15.out.cell 4 _ rfl
  have qg0_5 := HVg0_15.out.cell 5 _ rfl
  go_wp2_with fail
  refine (heldMessage_any (ansR (⟨x0_0, x0_1, x0_2, x0_3, h0_4, h0_5⟩ : MsgM) i1).x0 (ansR (⟨x0_0, x0_1, x0_2, x0_3, h0_4, h0_5⟩ : MsgM) i1).x1 (ansR (⟨x0_0, x0_1, x0_2, x0_3, h0_4, h0_5⟩ : MsgM) i1).x2 (ansR (⟨x0_0, x0_1, x0_2, x0_3, h0_4, h0_5⟩ : MsgM) i1).x3 Ag04 (ansR (⟨x0_0, x0_1, x0_2, x0_3, h0_4, h0_5⟩ : MsgM) i1).h.length cg04 Ag05 (ansR (⟨x0_0, x0_1, x0_2, x0_3, h0_4, h0_5⟩ : MsgM) i1).b.length cg05 1 _ (by have := (ansR_few (⟨x0_0, x0_1, x0_2, x0_3, h0_4, h0_5⟩ : MsgM) i1).1; omega) (by have := (ansR_few (⟨x0_0, x0_1, x0_2, x0_3, h0_4, h0_5⟩ : MsgM) i1).2; omega) (by omega) (by omega) (Sees.of_own HOg0_4_15.out) (Sees.of_own HOg0_5_15.out)).mono ?_
  rintro e w16 ⟨rfl, hb16⟩
  clear qg0_0 qg0_1 qg0_2 qg0_3 qg0_4 qg0_5
  have hz16 := hb16.size
  have HB16 := Lib.hid (btrans HB15.out hb16)
  have HOt0_4_16 := Lib.hid (own_call HOt0_4_15.out hb16)
  have HOt0_5_16 := Lib.hid (own_call HOt0_5_15.out hb16)
  have HOw0_4_16 := Lib.hid (own_call HOw0_4_15.out hb16)
  have HOw0_5_16 := Lib.hid (own_call HOw0_5_15.out hb16)
  have HOx0_4_16 := Lib.hid (own_call HOx0_4_15.out hb16)
  have HOx0_5_16 := Lib.hid (own_call HOx0_5_15.out hb16)
  have HOg0_4_16 := Lib.hid (own_call HOg0_4_15.out hb16)
  have HOg0_5_16 := Lib.hid (own_call HOg0_5_15.out hb16)
  have HOz0_4_16 := Lib.hid (own_call HOz0_4_15.out hb16)
  have HOz0_5_16 := Lib.hid (own_call HOz0_5_15.out hb16)
  have HOh0_4_16 := Lib.hid (own_call HOh0_4_15.out hb16)
  have HOh0_5_16 := Lib.hid (own_call HOh0_5_15.out hb16)
  have HVa0_16 := Lib.hid (HVa0_15.out.call hb16)
  have HVw0_16 := Lib.hid (HVw0_15.out.call hb16)
  have HVx0_16 := Lib.hid (HVx0_15.out.call hb16)
  have HVg0_16 := Lib.hid (HVg0_15.out.call hb16)
  have HVh0_16 := Lib.hid (HVh0_15.out.call hb16)
  clear hb16
  clear HB15 HOt0_4_15 HOt0_5_15 HOw0_4_15 HOw0_5_15 HOx0_4_15 HOx0_5_15 HOg0_4_15 HOg0_5_15 HOz0_4_15 HOz0_5_15 HOh0_4_15 HOh0_5_15 HVa0_15 HVw0_15 HVx0_15 HVg0_15 HVh0_15
  go_wp2
  go_ret
  exact ⟨rfl, HB16.out⟩
end Go.Proofs.Ytfkhnfbmpjgjgaa
