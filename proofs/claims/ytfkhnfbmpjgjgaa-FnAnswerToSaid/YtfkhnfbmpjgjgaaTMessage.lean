/- The helpers of the exact laws for Message. Written by gen_s.py. -/
import Derived.Test.YtfkhnfbmpjgjgaaTHead
import Derived.Test.YtfkhnfbmpjgjgaaTString
import Derived.Test.YtfkhnfbmpjgjgaaGr
import Derived.Test.YtfkhnfbmpjgjgaaOpenS
namespace Go.Proofs.Ytfkhnfbmpjgjgaa
open Go.RowKit
set_option linter.unusedVariables false
set_option maxRecDepth 20000


theorem toAddress_two (x0 : ByteArray) (x1 : ByteArray) (w : World) :
    Calls Try.prog 67 #[.agg #[.string x0, .string x1]] w fun e w' => e = .returned (.agg #[.string x0, .string x1]) ∧ Below w.heap.size w w' := by
  go_enter Try.func67, Try.ntmps67
  go_wp2
  refine bodyPost_ret (v := .agg #[.string x0, .string x1]) (by simp [results, Try.results67, go_sem]) rfl ⟨rfl, ?_⟩
  repeat (first | exact Below.refl _ _ | refine Below.setCell ?_ (by simp <;> omega) _ | refine Below.alloc ?_ (by simp <;> omega) _)
theorem eqAddress_two (x0 : ByteArray) (x1 : ByteArray) (w : World) :
    Calls Try.prog 69 #[.agg #[.string x0, .string x1], .agg #[.string x0, .string x1]] w fun e w' => e = .returned (.bool true) ∧ Below w.heap.size w w' := by
  go_enter Try.func69, Try.ntmps69
  go_wp2
  go_ret
  refine ⟨rfl, ?_⟩
  repeat (first | exact Below.refl _ _ | refine Below.setCell ?_ (by simp <;> omega) _ | refine Below.alloc ?_ (by simp <;> omega) _)
theorem szAddress_two (x0 : ByteArray) (x1 : ByteArray) (left : Int) (w : World) (hl0 : 0 ≤ left) (hl : left ≤ 1048576) (m0 : x0.size ≤ maxLen) (m1 : x1.size ≤ maxLen) :
    Calls Try.prog 65 #[.agg #[.string x0, .string x1], .int .i64 left] w (SzP left ((x0.size : Int) ≤ left ∧ (x1.size : Int) ≤ left) w) := by
  unfold maxLen at m0 m1
  by_cases q0 : left - (x0.size : Int) < 0
  · go_enter Try.func65, Try.ntmps65
    go_wp2
    go_ret
    exact ⟨_, rfl, .inl (by omega), bnew _ _⟩
  by_cases q1 : left - (x0.size : Int) - (x1.size : Int) < 0
  · go_enter Try.func65, Try.ntmps65
    go_wp2
    go_ret
    exact ⟨_, rfl, .inl (by omega), bnew _ _⟩
  go_enter Try.func65, Try.ntmps65
  go_wp2
  go_ret
  exact ⟨_, rfl, .inr ⟨by omega, by omega, ⟨by omega, by omega⟩⟩, bnew _ _⟩

/-- A copy: its rows are new. -/
def toMessageP (x0 : ByteArray) (x1 : ByteArray) (x2 : ByteArray) (x3 : Int) (n4 : Nat) (h4 : List HeadM) (n5 : Nat) (h5 : List ByteArray) (w : World) (e : Ending) (w' : World) : Prop :=
  ∃ g4 g5 : Nat, e = .returned (.agg #[.string x0, .string x1, .string x2, .int .i64 x3, .slice (some ⟨g4, 0, none⟩) n4 n4, .slice (some ⟨g5, 0, none⟩) n5 n5]) ∧ w'.ownsRow w.heap.size 43 2 (.slice (some ⟨g4, 0, none⟩) n4 n4) n4 (flat headC h4) ∧ w'.ownsRow w.heap.size 9 1 (.slice (some ⟨g5, 0, none⟩) n5 n5) n5 (flat strC h5) ∧ (w.heap.size ≤ g4 ∧ g5 < w'.heap.size ∧ g4 < g5) ∧ Below w.heap.size w w'
set_option maxHeartbeats 8000000 in
theorem toMessage_any (x0 : ByteArray) (x1 : ByteArray) (x2 : ByteArray) (x3 : Int) (A4 : Option Addr) (n4 c4 : Nat) (h4 : List HeadM) (A5 : Option Addr) (n5 c5 : Nat) (h5 : List ByteArray) (w : World) (hn4 : n4 = h4.length) (hc4 : n4 ≤ 2097152) (hn5 : n5 = h5.length) (hc5 : n5 ≤ 2097152) (hr4 : Sees w w.heap.size 2 A4 n4 (flat headC h4)) (hr5 : Sees w w.heap.size 1 A5 n5 (flat strC h5)) :
    Calls Try.prog 27 #[.agg #[.string x0, .string x1, .string x2, .int .i64 x3, .slice A4 n4 c4, .slice A5 n5 c5]] w (toMessageP x0 x1 x2 x3 n4 h4 n5 h5 w) := by
  have HR4 := Lib.hid hr4
  have HN4 := Lib.hid hn4
  have HR5 := Lib.hid hr5
  have HN5 := Lib.hid hn5
  clear hr4 hn4 hr5 hn5
  go_enter Try.func27, Try.ntmps27
  go_wp2_with fail
  refine (toAddress_two _ _ _).mono ?_
  rintro e w1 ⟨rfl, hb1⟩
  have hz1 := hb1.size
  simp at hz1
  have BX1 : Hid (Holds w1 w.heap.size 47 #[.string x0, .string x1, .string x2, .int .i64 x3, .slice A4 n4 c4, .slice A5 n5 c5]) := Lib.hid (Holds.call (by repeat (first | exact Holds.new _ _ _ | refine Holds.alloc ?_ _)) hb1)
  have BR1 : Hid (Holds w1 (w.heap.size + 1) 28 #[.string ⟨#[]⟩, .string ⟨#[]⟩, .string ⟨#[]⟩, .int .i64 0, .slice none 0 0, .slice none 0 0]) := Lib.hid (Holds.call (Holds.alloc (Holds.new' _ _ _ (by simp)) _) hb1)
  have BO1 : Hid (Holds w1 (w.heap.size + 1 + 1) 28 #[.string x0, .string ⟨#[]⟩, .string ⟨#[]⟩, .int .i64 0, .slice none 0 0, .slice none 0 0]) := Lib.hid (Holds.call (Holds.new' _ _ _ (by simp)) hb1)
  have HB1 : Hid (Below w.heap.size w w1) := Lib.hid ((by repeat (first | exact Below.refl _ _ | refine Below.alloc ?_ (by simp <;> omega) _) : Below w.heap.size w _).trans (hb1.mono (by simp <;> omega)))
  clear hb1
  have c0q := BX1.out.cell 0 _ rfl
  have o0q := BO1.out.cell 0 _ rfl
  have f0q := BO1.out.free 0
  have c1q := BX1.out.cell 1 _ rfl
  have o1q := BO1.out.cell 1 _ rfl
  have f1q := BO1.out.free 1
  have c2q := BX1.out.cell 2 _ rfl
  have o2q := BO1.out.cell 2 _ rfl
  have f2q := BO1.out.free 2
  have c3q := BX1.out.cell 3 _ rfl
  have o3q := BO1.out.cell 3 _ rfl
  have f3q := BO1.out.free 3
  have c4q := BX1.out.cell 4 _ rfl
  have o4q := BO1.out.cell 4 _ rfl
  have f4q := BO1.out.free 4
  have c5q := BX1.out.cell 5 _ rfl
  have o5q := BO1.out.cell 5 _ rfl
  have f5q := BO1.out.free 5
  go_wp2_with fail
  refine ((toHeadS_any A4 n4 c4 h4 _ HN4.out (by omega) ?_).mono fun _ _ h => NewRow.of h).mono ?_
  · refine Sees.more (B := w.heap.size) ?_ (by simp <;> omega)
    repeat (first | refine Sees.set ?_ (by simp <;> omega) _ | exact HR4.out.below HB1.out (Nat.le_refl _))
  rintro e w2 ⟨g4, rfl, hown2, hg4, hb2⟩
  have hz2 := hb2.size
  simp at hz2 hg4
  clear c0q o0q f0q c1q o1q f1q c2q o2q f2q c3q o3q f3q c4q o4q f4q c5q o5q f5q
  have BX2 : Hid (Holds w2 w.heap.size 47 #[.string x0, .string x1, .string x2, .int .i64 x3, .slice A4 n4 c4, .slice A5 n5 c5]) := Lib.hid (Holds.call (by repeat (first | refine Holds.far ?_ (by simp <;> omega) _ | exact BX1.out)) hb2)
  have BR2 : Hid (Holds w2 (w.heap.size + 1) 28 #[.string ⟨#[]⟩, .string ⟨#[]⟩, .string ⟨#[]⟩, .int .i64 0, .slice none 0 0, .slice none 0 0]) := Lib.hid (Holds.call (by repeat (first | refine Holds.far ?_ (by simp <;> omega) _ | exact BR1.out)) hb2)
  have BO2 : Hid (Holds w2 (w.heap.size + 1 + 1) 28 #[.string x0, .string x1, .string x2, .int .i64 x3, .slice none 0 0, .slice none 0 0]) := Lib.hid (Holds.call (((BO1.out.set 1 (.string x1)).set 2 (.string x2)).set 3 (.int .i64 x3)) hb2)
  have HB2 : Hid (Below w.heap.size w w2) := Lib.hid ((by repeat (first | refine Below.setCell ?_ (by simp <;> omega) _ | exact HB1.out) : Below w.heap.size w _).trans (hb2.mono (by simp <;> omega)))
  have HO4_2 := Lib.hid (own_more (base' := w.heap.size) hown2 (by simp <;> omega))
  clear hown2
  clear hb2
  have c0q := BX2.out.cell 0 _ rfl
  have o0q := BO2.out.cell 0 _ rfl
  have f0q := BO2.out.free 0
  have c1q := BX2.out.cell 1 _ rfl
  have o1q := BO2.out.cell 1 _ rfl
  have f1q := BO2.out.free 1
  have c2q := BX2.out.cell 2 _ rfl
  have o2q := BO2.out.cell 2 _ rfl
  have f2q := BO2.out.free 2
  have c3q := BX2.out.cell 3 _ rfl
  have o3q := BO2.out.cell 3 _ rfl
  have f3q := BO2.out.free 3
  have c4q := BX2.out.cell 4 _ rfl
  have o4q := BO2.out.cell 4 _ rfl
  have f4q := BO2.out.free 4
  have c5q := BX2.out.cell 5 _ rfl
  have o5q := BO2.out.cell 5 _ rfl
  have f5q := BO2.out.free 5
  go_wp2_with fail
  refine ((tos_any A5 n5 c5 h5 _ HN5.out (by omega) ?_).mono fun _ _ h => NewRow.of h).mono ?_
  · refine Sees.more (B := w.heap.size) ?_ (by simp <;> omega)
    repeat (first | refine Sees.set ?_ (by simp <;> omega) _ | exact HR5.out.below HB2.out (Nat.le_refl _))
  rintro e w3 ⟨g5, rfl, hown3, hg5, hb3⟩
  have hz3 := hb3.size
  simp at hz3 hg5
  clear c0q o0q f0q c1q o1q f1q c2q o2q f2q c3q o3q f3q c4q o4q f4q c5q o5q f5q
  have BX3 : Hid (Holds w3 w.heap.size 47 #[.string x0, .string x1, .string x2, .int .i64 x3, .slice A4 n4 c4, .slice A5 n5 c5]) := Lib.hid (Holds.call (by repeat (first | refine Holds.far ?_ (by simp <;> omega) _ | exact BX2.out)) hb3)
  have BR3 : Hid (Holds w3 (w.heap.size + 1) 28 #[.string ⟨#[]⟩, .string ⟨#[]⟩, .string ⟨#[]⟩, .int .i64 0, .slice none 0 0, .slice none 0 0]) := Lib.hid (Holds.call (by repeat (first | refine Holds.far ?_ (by simp <;> omega) _ | exact BR2.out)) hb3)
  have BO3 : Hid (Holds w3 (w.heap.size + 1 + 1) 28 #[.string x0, .string x1, .string x2, .int .i64 x3, .slice (some ⟨g4, 0, none⟩) n4 n4, .slice none 0 0]) := Lib.hid (Holds.call (BO2.out.set 4 (.slice (some ⟨g4, 0, none⟩) n4 n4)) hb3)
  have HB3 : Hid (Below w.heap.size w w3) := Lib.hid ((by repeat (first | refine Below.setCell ?_ (by simp <;> omega) _ | exact HB2.out) : Below w.heap.size w _).trans (hb3.mono (by simp <;> omega)))
  have HO4_3 := Lib.hid (own_call (own_far HO4_2.out (by intro k hk; simp [Value.ownBlock] at hk; simp <;> omega) _) hb3)
  have HO5_3 := Lib.hid (own_more (base' := w.heap.size) hown3 (by simp <;> omega))
  clear hown3
  clear hb3
  have c0q := BX3.out.cell 0 _ rfl
  have o0q := BO3.out.cell 0 _ rfl
  have f0q := BO3.out.free 0
  have c1q := BX3.out.cell 1 _ rfl
  have o1q := BO3.out.cell 1 _ rfl
  have f1q := BO3.out.free 1
  have c2q := BX3.out.cell 2 _ rfl
  have o2q := BO3.out.cell 2 _ rfl
  have f2q := BO3.out.free 2
  have c3q := BX3.out.cell 3 _ rfl
  have o3q := BO3.out.cell 3 _ rfl
  have f3q := BO3.out.free 3
  have c4q := BX3.out.cell 4 _ rfl
  have o4q := BO3.out.cell 4 _ rfl
  have f4q := BO3.out.free 4
  have c5q := BX3.out.cell 5 _ rfl
  have o5q := BO3.out.cell 5 _ rfl
  have f5q := BO3.out.free 5
  clear c0q o0q f0q c1q o1q f1q c2q o2q f2q c3q o3q f3q c4q o4q f4q c5q o5q f5q
  have o0q := BO3.out.cell 0 _ rfl
  have f0q := BO3.out.free 0
  have o1q := BO3.out.cell 1 _ rfl
  have f1q := BO3.out.free 1
  have o2q := BO3.out.cell 2 _ rfl
  have f2q := BO3.out.free 2
  have o3q := BO3.out.cell 3 _ rfl
  have f3q := BO3.out.free 3
  have o4q := BO3.out.cell 4 _ rfl
  have f4q := BO3.out.free 4
  have o5q := BO3.out.cell 5 _ rfl
  have f5q := BO3.out.free 5
  have c0q := BX3.out.cell 0 _ rfl
  have c1q := BX3.out.cell 1 _ rfl
  have c2q := BX3.out.cell 2 _ rfl
  have c3q := BX3.out.cell 3 _ rfl
  have r0q := BR3.out.cell 0 _ rfl
  have k0q := BR3.out.free 0
  have r1q := BR3.out.cell 1 _ rfl
  have k1q := BR3.out.free 1
  have r2q := BR3.out.cell 2 _ rfl
  have k2q := BR3.out.free 2
  have r3q := BR3.out.cell 3 _ rfl
  have k3q := BR3.out.free 3
  have r4q := BR3.out.cell 4 _ rfl
  have k4q := BR3.out.free 4
  have r5q := BR3.out.cell 5 _ rfl
  have k5q := BR3.out.free 5
  go_wp2
  have q0 := ((BR3.out.far (p := ⟨w.heap.size + 1 + 1, 5, none⟩) (by simp) (.slice (some ⟨g5, 0, none⟩) n5 n5)).set 0 (.string x0)).cell 0 (.string x0) rfl
  have q1 := (((BR3.out.far (p := ⟨w.heap.size + 1 + 1, 5, none⟩) (by simp) (.slice (some ⟨g5, 0, none⟩) n5 n5)).set 0 (.string x0)).set 1 (.string x1)).cell 1 (.string x1) rfl
  have q2 := ((((BR3.out.far (p := ⟨w.heap.size + 1 + 1, 5, none⟩) (by simp) (.slice (some ⟨g5, 0, none⟩) n5 n5)).set 0 (.string x0)).set 1 (.string x1)).set 2 (.string x2)).cell 2 (.string x2) rfl
  have q3 := (((((BR3.out.far (p := ⟨w.heap.size + 1 + 1, 5, none⟩) (by simp) (.slice (some ⟨g5, 0, none⟩) n5 n5)).set 0 (.string x0)).set 1 (.string x1)).set 2 (.string x2)).set 3 (.int .i64 x3)).cell 3 (.int .i64 x3) rfl
  have q4 := ((((((BR3.out.far (p := ⟨w.heap.size + 1 + 1, 5, none⟩) (by simp) (.slice (some ⟨g5, 0, none⟩) n5 n5)).set 0 (.string x0)).set 1 (.string x1)).set 2 (.string x2)).set 3 (.int .i64 x3)).set 4 (.slice (some ⟨g4, 0, none⟩) n4 n4)).cell 4 (.slice (some ⟨g4, 0, none⟩) n4 n4) rfl
  have q5 := (((((((BR3.out.far (p := ⟨w.heap.size + 1 + 1, 5, none⟩) (by simp) (.slice (some ⟨g5, 0, none⟩) n5 n5)).set 0 (.string x0)).set 1 (.string x1)).set 2 (.string x2)).set 3 (.int .i64 x3)).set 4 (.slice (some ⟨g4, 0, none⟩) n4 n4)).set 5 (.slice (some ⟨g5, 0, none⟩) n5 n5)).cell 5 (.slice (some ⟨g5, 0, none⟩) n5 n5) rfl
  refine bodyPost_ret (v := .agg #[.string x0, .string x1, .string x2, .int .i64 x3, .slice (some ⟨g4, 0, none⟩) n4 n4, .slice (some ⟨g5, 0, none⟩) n5 n5]) (by simp [results, Try.results27, go_sem, q0, q1, q2, q3, q4, q5]) rfl ⟨g4, g5, rfl, ?_, ?_, ?_, ?_⟩
  · repeat (refine own_far ?_ (by intro k hk; simp [Value.ownBlock] at hk; simp <;> omega) _)
    exact HO4_3.out
  · repeat (refine own_far ?_ (by intro k hk; simp [Value.ownBlock] at hk; simp <;> omega) _)
    exact HO5_3.out
  · simp
    omega
  · repeat (refine Below.setCell ?_ (by simp <;> omega) _)
    exact HB3.out
set_option maxHeartbeats 8000000 in
theorem szMessage_any (x0 : ByteArray) (x1 : ByteArray) (x2 : ByteArray) (x3 : Int) (A4 : Option Addr) (n4 c4 : Nat) (h4 : List HeadM) (A5 : Option Addr) (n5 c5 : Nat) (h5 : List ByteArray) (left : Int) (w : World) (hl0 : 0 ≤ left) (hl : left ≤ 1048576) (m0 : x0.size ≤ maxLen) (m1 : x1.size ≤ maxLen) (m2 : x2.size ≤ maxLen) (hn4 : n4 = h4.length) (hc4 : n4 ≤ maxLen) (hm4 : headMax h4) (hn5 : n5 = h5.length) (hc5 : n5 ≤ maxLen) (hm5 : strsMax h5) (hr4 : Sees w w.heap.size 2 A4 n4 (flat headC h4)) (hr5 : Sees w w.heap.size 1 A5 n5 (flat strC h5)) :
    Calls Try.prog 26 #[.agg #[.string x0, .string x1, .string x2, .int .i64 x3, .slice A4 n4 c4, .slice A5 n5 c5], .int .i64 left] w (SzP left ((x0.size : Int) ≤ left ∧ (x1.size : Int) ≤ left ∧ (x2.size : Int) ≤ left ∧ headsOk left h4 ∧ strsOk left h5) w) := by
  have M0 := Lib.hid m0
  have M1 := Lib.hid m1
  have M2 := Lib.hid m2
  have HR4 := Lib.hid hr4
  have HN4 := Lib.hid hn4
  have HC4 := Lib.hid hc4
  have HM4 := Lib.hid hm4
  have HR5 := Lib.hid hr5
  have HN5 := Lib.hid hn5
  have HC5 := Lib.hid hc5
  have HM5 := Lib.hid hm5
  clear hr4 hn4 hc4 hm4 hr5 hn5 hc5 hm5
  unfold maxLen at m0 m1 m2
  by_cases q0 : left - (x0.size : Int) < 0
  · go_enter Try.func26, Try.ntmps26
    go_wp2
    go_ret
    exact ⟨_, rfl, .inl (by omega), bnew _ _⟩
  go_enter Try.func26, Try.ntmps26
  have BX0 := Lib.hid (Holds.new w 47 #[.string x0, .string x1, .string x2, .int .i64 x3, .slice A4 n4 c4, .slice A5 n5 c5])
  have HB0 := Lib.hid (bnew w (.cells #[.string x0, .string x1, .string x2, .int .i64 x3, .slice A4 n4 c4, .slice A5 n5 c5] 47))
  go_wp2_with fail
  refine (szAddress_two _ _ _ _ ?_ ?_ M1.out M2.out).mono ?_
  · omega
  · omega
  rintro e w1 ⟨v1, rfl, hv1, hb1⟩
  have BX1 := Lib.hid (BX0.out.call hb1)
  have HB1 := Lib.hid (btrans HB0.out hb1)
  clear hb1
  have c0q := BX1.out.cell 0 _ rfl
  have c1q := BX1.out.cell 1 _ rfl
  have c2q := BX1.out.cell 2 _ rfl
  have c3q := BX1.out.cell 3 _ rfl
  have c4q := BX1.out.cell 4 _ rfl
  have c5q := BX1.out.cell 5 _ rfl
  by_cases p1 : v1 < 0
  · clear hv1
    go_wp2
    go_ret
    exact ⟨_, rfl, .inl (by omega), HB1.out⟩
  obtain ⟨hv1a, hv1b, hv1c⟩ := hv1.resolve_left p1
  have OK1 := Lib.hid hv1c
  clear hv1 hv1c
  go_wp2_with fail
  refine (szHeadS_any A4 n4 c4 h4 _ _ HN4.out HC4.out ?_ ?_ ((HR4.out.below HB1.out (Nat.le_refl _)).more HB1.out.size) HM4.out).mono ?_
  · omega
  · omega
  rintro e w2 ⟨v2, rfl, hv2, hb2⟩
  have BX2 := Lib.hid (BX1.out.call hb2)
  have HB2 := Lib.hid (btrans HB1.out hb2)
  clear hb2 c0q c1q c2q c3q c4q c5q
  have c0q := BX2.out.cell 0 _ rfl
  have c1q := BX2.out.cell 1 _ rfl
  have c2q := BX2.out.cell 2 _ rfl
  have c3q := BX2.out.cell 3 _ rfl
  have c4q := BX2.out.cell 4 _ rfl
  have c5q := BX2.out.cell 5 _ rfl
  by_cases p2 : v2 < 0
  · clear hv2
    go_wp2
    go_ret
    exact ⟨_, rfl, .inl (by omega), HB2.out⟩
  obtain ⟨hv2a, hv2b, hv2c⟩ := hv2.resolve_left p2
  have OK2 := Lib.hid hv2c
  clear hv2 hv2c
  go_wp2_with fail
  refine (szs_any A5 n5 c5 h5 _ _ HN5.out HC5.out ?_ ?_ ((HR5.out.below HB2.out (Nat.le_refl _)).more HB2.out.size) HM5.out).mono ?_
  · omega
  · omega
  rintro e w3 ⟨v3, rfl, hv3, hb3⟩
  have BX3 := Lib.hid (BX2.out.call hb3)
  have HB3 := Lib.hid (btrans HB2.out hb3)
  clear hb3 c0q c1q c2q c3q c4q c5q
  have c0q := BX3.out.cell 0 _ rfl
  have c1q := BX3.out.cell 1 _ rfl
  have c2q := BX3.out.cell 2 _ rfl
  have c3q := BX3.out.cell 3 _ rfl
  have c4q := BX3.out.cell 4 _ rfl
  have c5q := BX3.out.cell 5 _ rfl
  by_cases p3 : v3 < 0
  · clear hv3
    go_wp2
    go_ret
    exact ⟨_, rfl, .inl (by omega), HB3.out⟩
  obtain ⟨hv3a, hv3b, hv3c⟩ := hv3.resolve_left p3
  have OK3 := Lib.hid hv3c
  clear hv3 hv3c
  go_wp2
  go_ret
  exact ⟨_, rfl, .inr ⟨by omega, by omega, ⟨by omega, by have := OK1.out.1; omega, by have := OK1.out.2; omega, headsOk_mono (by omega) OK2.out, strsOk_mono (by omega) OK3.out⟩⟩, HB3.out⟩
set_option maxHeartbeats 8000000 in
theorem eqMessage_same (x0 : ByteArray) (x1 : ByteArray) (x2 : ByteArray) (x3 : Int) (A4 : Option Addr) (n4 c4 : Nat) (h4 : List HeadM) (A5 : Option Addr) (n5 c5 : Nat) (h5 : List ByteArray) (B4 : Option Addr) (d4 : Nat) (B5 : Option Addr) (d5 : Nat) (w : World) (hn4 : n4 = h4.length) (hc4 : n4 ≤ maxLen) (hn5 : n5 = h5.length) (hc5 : n5 ≤ maxLen) (hr4 : Sees w w.heap.size 2 A4 n4 (flat headC h4)) (hs4 : Sees w w.heap.size 2 B4 n4 (flat headC h4)) (hr5 : Sees w w.heap.size 1 A5 n5 (flat strC h5)) (hs5 : Sees w w.heap.size 1 B5 n5 (flat strC h5)) :
    Calls Try.prog 28 #[.agg #[.string x0, .string x1, .string x2, .int .i64 x3, .slice A4 n4 c4, .slice A5 n5 c5], .agg #[.string x0, .string x1, .string x2, .int .i64 x3, .slice B4 n4 d4, .slice B5 n5 d5]] w fun e w' => e = .returned (.bool true) ∧ Below w.heap.size w w' := by
  have HR4 := Lib.hid hr4
  have HS4 := Lib.hid hs4
  have HN4 := Lib.hid hn4
  have HC4 := Lib.hid hc4
  have HR5 := Lib.hid hr5
  have HS5 := Lib.hid hs5
  have HN5 := Lib.hid hn5
  have HC5 := Lib.hid hc5
  clear hr4 hs4 hn4 hc4 hr5 hs5 hn5 hc5
  go_enter Try.func28, Try.ntmps28
  have BX0 := Lib.hid ((Holds.new w 28 #[.string x0, .string x1, .string x2, .int .i64 x3, .slice A4 n4 c4, .slice A5 n5 c5]).alloc (.cells #[.string x0, .string x1, .string x2, .int .i64 x3, .slice B4 n4 d4, .slice B5 n5 d5] 28))
  have BY0 := Lib.hid (Holds.new' (g := w.heap.size + 1) (w.alloc (.cells #[.string x0, .string x1, .string x2, .int .i64 x3, .slice A4 n4 c4, .slice A5 n5 c5] 28)) 28 #[.string x0, .string x1, .string x2, .int .i64 x3, .slice B4 n4 d4, .slice B5 n5 d5] (by simp))
  have HB0 := Lib.hid (balloc (bnew w (.cells #[.string x0, .string x1, .string x2, .int .i64 x3, .slice A4 n4 c4, .slice A5 n5 c5] 28)) (.cells #[.string x0, .string x1, .string x2, .int .i64 x3, .slice B4 n4 d4, .slice B5 n5 d5] 28))
  go_wp2_with fail
  refine (eqAddress_two _ _ _).mono ?_
  rintro e w1 ⟨rfl, hb1⟩
  have BX1 := Lib.hid (BX0.out.call hb1)
  have BY1 := Lib.hid (BY0.out.call hb1)
  have HB1 := Lib.hid (btrans HB0.out hb1)
  clear hb1
  have c0q := BX1.out.cell 0 _ rfl
  have e0q := BY1.out.cell 0 _ rfl
  have c1q := BX1.out.cell 1 _ rfl
  have e1q := BY1.out.cell 1 _ rfl
  have c2q := BX1.out.cell 2 _ rfl
  have e2q := BY1.out.cell 2 _ rfl
  have c3q := BX1.out.cell 3 _ rfl
  have e3q := BY1.out.cell 3 _ rfl
  have c4q := BX1.out.cell 4 _ rfl
  have e4q := BY1.out.cell 4 _ rfl
  have c5q := BX1.out.cell 5 _ rfl
  have e5q := BY1.out.cell 5 _ rfl
  go_wp2_with fail
  refine (eqHeadS_same A4 B4 n4 c4 d4 h4 _ HN4.out HC4.out ((HR4.out.below HB1.out (Nat.le_refl _)).more HB1.out.size) ((HS4.out.below HB1.out (Nat.le_refl _)).more HB1.out.size)).mono ?_
  rintro e w2 ⟨rfl, hb2⟩
  have BX2 := Lib.hid (BX1.out.call hb2)
  have BY2 := Lib.hid (BY1.out.call hb2)
  have HB2 := Lib.hid (btrans HB1.out hb2)
  clear hb2 c0q e0q c1q e1q c2q e2q c3q e3q c4q e4q c5q e5q
  have c0q := BX2.out.cell 0 _ rfl
  have e0q := BY2.out.cell 0 _ rfl
  have c1q := BX2.out.cell 1 _ rfl
  have e1q := BY2.out.cell 1 _ rfl
  have c2q := BX2.out.cell 2 _ rfl
  have e2q := BY2.out.cell 2 _ rfl
  have c3q := BX2.out.cell 3 _ rfl
  have e3q := BY2.out.cell 3 _ rfl
  have c4q := BX2.out.cell 4 _ rfl
  have e4q := BY2.out.cell 4 _ rfl
  have c5q := BX2.out.cell 5 _ rfl
  have e5q := BY2.out.cell 5 _ rfl
  go_wp2_with fail
  refine (eqs_same A5 B5 n5 c5 d5 h5 _ HN5.out HC5.out ((HR5.out.below HB2.out (Nat.le_refl _)).more HB2.out.size) ((HS5.out.below HB2.out (Nat.le_refl _)).more HB2.out.size)).mono ?_
  rintro e w3 ⟨rfl, hb3⟩
  have BX3 := Lib.hid (BX2.out.call hb3)
  have BY3 := Lib.hid (BY2.out.call hb3)
  have HB3 := Lib.hid (btrans HB2.out hb3)
  clear hb3 c0q e0q c1q e1q c2q e2q c3q e3q c4q e4q c5q e5q
  have c0q := BX3.out.cell 0 _ rfl
  have e0q := BY3.out.cell 0 _ rfl
  have c1q := BX3.out.cell 1 _ rfl
  have e1q := BY3.out.cell 1 _ rfl
  have c2q := BX3.out.cell 2 _ rfl
  have e2q := BY3.out.cell 2 _ rfl
  have c3q := BX3.out.cell 3 _ rfl
  have e3q := BY3.out.cell 3 _ rfl
  have c4q := BX3.out.cell 4 _ rfl
  have e4q := BY3.out.cell 4 _ rfl
  have c5q := BX3.out.cell 5 _ rfl
  have e5q := BY3.out.cell 5 _ rfl
  go_wp2
  go_ret
  exact ⟨rfl, HB3.out⟩
set_option maxHeartbeats 8000000 in
theorem markMessage_any (x0 : ByteArray) (x1 : ByteArray) (x2 : ByteArray) (x3 : Int) (A4 : Option Addr) (n4 c4 : Nat) (A5 : Option Addr) (n5 c5 : Nat) (q : Nat) (base4 : Nat) (xs4 : List Value) (base5 : Nat) (xs5 : List Value) (w : World) (hc4 : n4 ≤ 2097152) (hc5 : n5 ≤ 2097152) (hq : 1 ≤ q) (hq2 : q ≤ 100000000000) (ho4 : w.ownsRow base4 43 2 (.slice A4 n4 c4) n4 xs4) (ho5 : w.ownsRow base5 9 1 (.slice A5 n5 c5) n5 xs5)
    (hd4_5 : ∀ k, (Value.slice A4 n4 c4).ownBlock = some k → (Value.slice A5 n5 c5).ownBlock ≠ some k) :
    Calls Try.prog 30 #[.agg #[.string x0, .string x1, .string x2, .int .i64 x3, .slice A4 n4 c4, .slice A5 n5 c5], .int .i64 (q : Int)] w fun e w' => e = .returned (.int .i64 ((q : Int) + n4 * 2 + n5)) ∧ w'.ownsRow base4 43 2 (.slice A4 n4 c4) n4 (flat (headMk q) (List.range n4)) ∧ w'.ownsRow base5 9 1 (.slice A5 n5 c5) n5 (flat (strMk (q + n4 * 2)) (List.range n5)) ∧ Gr w w' (fun k => (Value.slice A4 n4 c4).ownBlock = some k ∨ (Value.slice A5 n5 c5).ownBlock = some k) := by
  have HO4_0 := Lib.hid (ho4.alloc (.cells #[.string x0, .string x1, .string x2, .int .i64 x3, .slice A4 n4 c4, .slice A5 n5 c5] 28))
  have HO5_0 := Lib.hid (ho5.alloc (.cells #[.string x0, .string x1, .string x2, .int .i64 x3, .slice A4 n4 c4, .slice A5 n5 c5] 28))
  have LT := Lib.hid (⟨fun k hk => (ho4.lt k hk).2, fun k hk => (ho5.lt k hk).2⟩ : (∀ k, (Value.slice A4 n4 c4).ownBlock = some k → k < w.heap.size) ∧ (∀ k, (Value.slice A5 n5 c5).ownBlock = some k → k < w.heap.size))
  have HD4_5 := Lib.hid hd4_5
  clear ho4 ho5 hd4_5
  have BX0 := Lib.hid (Holds.new w 28 #[.string x0, .string x1, .string x2, .int .i64 x3, .slice A4 n4 c4, .slice A5 n5 c5])
  have HG0 : Hid (Gr w _ (fun k => (Value.slice A4 n4 c4).ownBlock = some k ∨ (Value.slice A5 n5 c5).ownBlock = some k)) := Lib.hid ((Gr.refl w _).alloc (.cells #[.string x0, .string x1, .string x2, .int .i64 x3, .slice A4 n4 c4, .slice A5 n5 c5] 28))
  go_enter Try.func30, Try.ntmps30
  have hk1 := markHeadS_any A4 n4 c4 base4 q _ _ (by omega) (by omega) (by omega) HO4_0.out
  rw [show ((q : Nat) : Int) = (q : Int) by omega] at hk1
  have HK1 := Lib.hid hk1
  clear hk1
  go_wp2_with fail
  refine HK1.out.mono ?_
  rintro e w1 ⟨rfl, hown1, hgr1⟩
  have GI1 := Gr.of_grown hgr1
  have BX1 := Lib.hid (BX0.out.gr GI1 (fun e => by have := LT.out.1 _ e; omega))
  have HG1 := Lib.hid (HG0.out.trans (GI1.mono (fun k _ e => .inl e)))
  have HO4_1 := Lib.hid hown1
  have HO5_1 := Lib.hid (own_gr HO5_0.out GI1 (fun k hk e => HD4_5.out k e hk))
  clear hown1 hgr1 GI1
  have c0q := BX1.out.cell 0 _ rfl
  have c1q := BX1.out.cell 1 _ rfl
  have c2q := BX1.out.cell 2 _ rfl
  have c3q := BX1.out.cell 3 _ rfl
  have c4q := BX1.out.cell 4 _ rfl
  have c5q := BX1.out.cell 5 _ rfl
  have hk2 := marks_any A5 n5 c5 base5 (q + n4 * 2) _ _ (by omega) (by omega) (by omega) HO5_1.out
  rw [show (((q + n4 * 2) : Nat) : Int) = (q : Int) + n4 * 2 by omega] at hk2
  have HK2 := Lib.hid hk2
  clear hk2
  go_wp2_with fail
  refine HK2.out.mono ?_
  rintro e w2 ⟨rfl, hown2, hgr2⟩
  have GI2 := Gr.of_grown hgr2
  have BX2 := Lib.hid (BX1.out.gr GI2 (fun e => by have := LT.out.2 _ e; omega))
  have HG2 := Lib.hid (HG1.out.trans (GI2.mono (fun k _ e => .inr (e))))
  have HO4_2 := Lib.hid (own_gr HO4_1.out GI2 (fun k hk e => HD4_5.out k hk e))
  have HO5_2 := Lib.hid hown2
  clear hown2 hgr2 GI2 c0q c1q c2q c3q c4q c5q
  have c0q := BX2.out.cell 0 _ rfl
  have c1q := BX2.out.cell 1 _ rfl
  have c2q := BX2.out.cell 2 _ rfl
  have c3q := BX2.out.cell 3 _ rfl
  have c4q := BX2.out.cell 4 _ rfl
  have c5q := BX2.out.cell 5 _ rfl
  go_wp2
  go_ret
  exact ⟨ret_int (by omega), HO4_2.out, HO5_2.out, HG2.out⟩
set_option maxHeartbeats 8000000 in
theorem heldMessage_any (x0 : ByteArray) (x1 : ByteArray) (x2 : ByteArray) (x3 : Int) (A4 : Option Addr) (n4 c4 : Nat) (A5 : Option Addr) (n5 c5 : Nat) (q : Nat) (w : World) (hc4 : n4 ≤ 2097152) (hc5 : n5 ≤ 2097152) (hq : 1 ≤ q) (hq2 : q ≤ 100000000000) (hr4 : Sees w w.heap.size 2 A4 n4 (flat (headMk q) (List.range n4))) (hr5 : Sees w w.heap.size 1 A5 n5 (flat (strMk (q + n4 * 2)) (List.range n5))) :
    Calls Try.prog 35 #[.agg #[.string x0, .string x1, .string x2, .int .i64 x3, .slice A4 n4 c4, .slice A5 n5 c5], .int .i64 (q : Int)] w fun e w' => e = .returned (.int .i64 ((q : Int) + n4 * 2 + n5)) ∧ Below w.heap.size w w' := by
  have HR4 := Lib.hid hr4
  have HR5 := Lib.hid hr5
  clear hr4 hr5
  have BX0 := Lib.hid (Holds.new w 28 #[.string x0, .string x1, .string x2, .int .i64 x3, .slice A4 n4 c4, .slice A5 n5 c5])
  have HB0 := Lib.hid (bnew w (.cells #[.string x0, .string x1, .string x2, .int .i64 x3, .slice A4 n4 c4, .slice A5 n5 c5] 28))
  go_enter Try.func35, Try.ntmps35
  have hk1 := heldHeadS_any A4 n4 c4 q _ (by omega) (by omega) (by omega) ((HR4.out.below HB0.out (Nat.le_refl _)).more HB0.out.size)
  rw [show ((q : Nat) : Int) = (q : Int) by omega] at hk1
  have HK1 := Lib.hid hk1
  clear hk1
  go_wp2_with fail
  refine HK1.out.mono ?_
  rintro e w1 ⟨rfl, hb1⟩
  have BX1 := Lib.hid (BX0.out.call hb1)
  have HB1 := Lib.hid (btrans HB0.out hb1)
  clear hb1
  have c0q := BX1.out.cell 0 _ rfl
  have c1q := BX1.out.cell 1 _ rfl
  have c2q := BX1.out.cell 2 _ rfl
  have c3q := BX1.out.cell 3 _ rfl
  have c4q := BX1.out.cell 4 _ rfl
  have c5q := BX1.out.cell 5 _ rfl
  have p1 : ¬ (q : Int) + n4 * 2 < 0 := by omega
  have hk2 := helds_any A5 n5 c5 (q + n4 * 2) _ (by omega) (by omega) (by omega) ((HR5.out.below HB1.out (Nat.le_refl _)).more HB1.out.size)
  rw [show (((q + n4 * 2) : Nat) : Int) = (q : Int) + n4 * 2 by omega] at hk2
  have HK2 := Lib.hid hk2
  clear hk2
  go_wp2_with fail
  refine HK2.out.mono ?_
  rintro e w2 ⟨rfl, hb2⟩
  have BX2 := Lib.hid (BX1.out.call hb2)
  have HB2 := Lib.hid (btrans HB1.out hb2)
  clear hb2 c0q c1q c2q c3q c4q c5q
  have c0q := BX2.out.cell 0 _ rfl
  have c1q := BX2.out.cell 1 _ rfl
  have c2q := BX2.out.cell 2 _ rfl
  have c3q := BX2.out.cell 3 _ rfl
  have c4q := BX2.out.cell 4 _ rfl
  have c5q := BX2.out.cell 5 _ rfl
  have p2 : ¬ (q : Int) + n4 * 2 + n5 < 0 := by omega
  go_wp2
  go_ret
  exact ⟨ret_int (by omega), HB2.out⟩
open Go.ChangeShapes Go.WideShapes Go.Deep in
theorem message_open {H : Type} {enc : TypeId × Value → H} {r : Reach} {b0 : Nat} {w : World} {v : Value} {d : DataW H} {p : List MemPlace} (hv : Value.okWide Try.prog w r b0 47 v) (h : DataW.Trod enc Try.prog w 0 (fun _ => true) true 47 v d p) :
    ∃ (x0 : ByteArray) (x1 : ByteArray) (x2 : ByteArray) (x3 : Int) (A4 : Option Addr) (n4 c4 : Nat) (h4 : List HeadM) (A5 : Option Addr) (n5 c5 : Nat) (h5 : List ByteArray), v = .agg #[.string x0, .string x1, .string x2, .int .i64 x3, .slice A4 n4 c4, .slice A5 n5 c5] ∧ x0.size ≤ maxLen ∧ x1.size ≤ maxLen ∧ x2.size ≤ maxLen ∧ (Lit.int .i64 x3).wf = true ∧ n4 = h4.length ∧ n4 ≤ maxLen ∧ headMax h4 ∧ Sees w w.heap.size 2 A4 n4 (flat headC h4) ∧ n5 = h5.length ∧ n5 ≤ maxLen ∧ strsMax h5 ∧ Sees w w.heap.size 1 A5 n5 (flat strC h5) := by
  obtain ⟨cs, n, rfl, hl, hf⟩ := open_struct Try.underlying47 hv h
  rw [show Try.prog.cellsOf 47 = 6 by kernel_rfl] at hl
  match cs, hl with
  | [c0, c1, c2, c3, c4, c5], _ =>
    obtain ⟨y0, hy0⟩ := hf 0 _ rfl
    have hz0 : DataW.trod enc Try.prog w 0 (fun _ => true) true n 9 [c0] = some y0 := hy0
    obtain ⟨x0, e0, _, w0⟩ := DataW.trod_string Try.underlying9 hz0
    injection e0 with e0
    subst e0
    obtain ⟨y1, hy1⟩ := hf 1 _ rfl
    have hz1 : DataW.trod enc Try.prog w 0 (fun _ => true) true n 44 [c1, c2] = some y1 := hy1
    obtain ⟨_, n1q, hg1⟩ := open_fields Try.underlying44 (by kernel_rfl) (by kernel_rfl) hz1
    obtain ⟨_, z1, e1, hq1⟩ := hg1 0 _ rfl
    injection e1 with e1
    subst e1
    obtain ⟨x1, e1, _, w1⟩ := DataW.trod_string Try.underlying9 hq1
    injection e1 with e1
    subst e1
    obtain ⟨_, z2, e2, hq2⟩ := hg1 1 _ rfl
    injection e2 with e2
    subst e2
    obtain ⟨x2, e2, _, w2⟩ := DataW.trod_string Try.underlying9 hq2
    injection e2 with e2
    subst e2
    obtain ⟨y2, hy2⟩ := hf 2 _ rfl
    have hz2 : DataW.trod enc Try.prog w 0 (fun _ => true) true n 3 [c3] = some y2 := hy2
    obtain ⟨x3, e3, _, w3⟩ := DataW.trod_int Try.underlying3 hz2
    injection e3 with e3
    subst e3
    obtain ⟨y3, hy3⟩ := hf 3 _ rfl
    have hz3 : DataW.trod enc Try.prog w 0 (fun _ => true) true n 45 [c4] = some y3 := hy3
    obtain ⟨A4, n4, c4q, e4, ht4⟩ := open_cell_slice Try.underlying45 hz3
    subst e4
    obtain ⟨h4, hn4, hc4, hr4, hm4⟩ := head_open ht4
    obtain ⟨y4, hy4⟩ := hf 4 _ rfl
    have hz4 : DataW.trod enc Try.prog w 0 (fun _ => true) true n 26 [c5] = some y4 := hy4
    obtain ⟨A5, n5, c5q, e5, ht5⟩ := open_cell_slice Try.underlying26 hz4
    subst e5
    obtain ⟨h5, hn5, hc5, hr5, hm5⟩ := open_texts Try.underlying26 Try.underlying9 (by kernel_rfl) ht5
    exact ⟨x0, x1, x2, x3, A4, n4, c4q, h4, A5, n5, c5q, h5, rfl, w0, w1, w2, w3, hn4, hc4, hm4, hr4, hn5, hc5, hm5, hr5⟩
end Go.Proofs.Ytfkhnfbmpjgjgaa
