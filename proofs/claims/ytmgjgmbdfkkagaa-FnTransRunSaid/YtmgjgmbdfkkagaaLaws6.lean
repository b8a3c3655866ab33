/- The walks of the exact laws of chapter 6. -/
import Derived.Test.YtmgjgmbdfkkagaaTrans
import Derived.Test.YtmgjgmbdfkkagaaCopy
import Derived.Test.YtmgjgmbdfkkagaaMark
namespace Go.Proofs.Ytmgjgmbdfkkagaa
open Go.RowKit
set_option linter.unusedVariables false
set_option maxRecDepth 20000

theorem walk_FnExactTransStep (s : Int) (hs : (Lit.int .i64 s).wf = true) (h : Int) (hh : (Lit.int .i64 h).wf = true) (w : World) :
    Calls Try.prog 7 #[.int .i64 s, .int .i64 h] w fun e w' => e = .returned (.bool true) ∧ Below w.heap.size w w' := by
  clear hs hh
  go_enter Try.func7, Try.ntmps7
  go_wp2_with fail
  (with_reducible refine (sstep_any s h _).mono ?_)
  rintro e w1 ⟨rfl, rfl⟩
  go_wp2_with fail
  (with_reducible refine (istep_any s h _).mono ?_)
  rintro e w2 ⟨rfl, rfl⟩
  go_wp2
  go_ret
  exact ⟨rfl, Below.refl _ _⟩
theorem walk_FnExactHearsOf (c : Int) (hc : (Lit.int .i64 c).wf = true) (w : World) :
    Calls Try.prog 9 #[.int .i64 c] w fun e w' => e = .returned (.bool true) ∧ Below w.heap.size w w' := by
  clear hc
  go_enter Try.func9, Try.ntmps9
  go_wp2_with fail
  (with_reducible refine (shears_any c _).mono ?_)
  rintro e w1 ⟨rfl, rfl⟩
  go_wp2_with fail
  (with_reducible refine (ihears_any c _).mono ?_)
  rintro e w2 ⟨rfl, rfl⟩
  go_wp2
  go_ret
  exact ⟨rfl, Below.refl _ _⟩
theorem walk_FnExactStateText (s : Int) (hs : (Lit.int .i64 s).wf = true) (w : World) :
    Calls Try.prog 10 #[.int .i64 s] w fun e w' => e = .returned (.bool true) ∧ Below w.heap.size w w' := by
  clear hs
  go_enter Try.func10, Try.ntmps10
  go_wp2_with fail
  (with_reducible refine (sstt_any s _).mono ?_)
  rintro e w1 ⟨rfl, hb1⟩
  go_wp2_with fail
  (with_reducible refine (istt_any s _).mono ?_)
  rintro e w2 ⟨rfl, rfl⟩
  go_wp2
  go_ret
  exact ⟨rfl, hb1⟩
set_option maxHeartbeats 2000000 in
theorem walk_FnExactTransRun (A : Option Addr) (n c : Nat) (hs : List Int) (hn : n = hs.length) (hc : n ≤ maxLen) (hm : intMax hs) (w : World) (hr : Sees w w.heap.size 1 A n (flat intC hs)) :
    Calls Try.prog 8 #[.slice A n c] w fun e w' => e = .returned (.bool true) ∧ Below w.heap.size w w' := by
  have HN := Lib.hid hn
  have HR := Lib.hid hr
  clear hn hr hm
  unfold maxLen at hc
  by_cases hbig : (1048576 : Int) < n
  · go_enter Try.func8, Try.ntmps8
    go_wp2
    go_ret
    exact ⟨rfl, Below.refl _ _⟩
  go_enter Try.func8, Try.ntmps8
  go_wp2_with fail
  (with_reducible refine (toi_any A n c hs _ HN.out (by omega) HR.out).mono ?_)
  rintro e w1 ⟨rfl, hown1, hb1⟩
  have HB1 := Lib.hid hb1
  have HO1 := Lib.hid hown1
  clear hb1 hown1
  go_wp2_with fail
  (with_reducible refine (srun_any _ n n hs _ HN.out (by unfold maxLen; omega) (Sees.of_own HO1.out)).mono ?_)
  rintro e w2 ⟨rfl, hb2⟩
  have HB2 := Lib.hid (btrans HB1.out hb2)
  clear hb2
  go_wp2_with fail
  (with_reducible refine (toi_any A n c hs _ HN.out (by omega) ((HR.out.below HB2.out (Nat.le_refl _)).more HB2.out.size)).mono ?_)
  rintro e w3 ⟨rfl, hown3, hb3⟩
  have HB3 := Lib.hid (btrans HB2.out hb3)
  have HO3 := Lib.hid hown3
  clear hb3 hown3
  go_wp2_with fail
  (with_reducible refine (irun_any _ n n hs _ HN.out (by unfold maxLen; omega) (Sees.of_own HO3.out)).mono ?_)
  rintro e w4 ⟨rfl, hb4⟩
  have HB4 := Lib.hid (btrans HB3.out hb4)
  have HO4 := Lib.hid (own_call HO3.out hb4)
  clear hb4
  go_wp2_with fail
  (with_reducible refine (toi_any A n c hs _ HN.out (by omega) ((HR.out.below HB4.out (Nat.le_refl _)).more HB4.out.size)).mono ?_)
  rintro e w5 ⟨rfl, hown5, hb5⟩
  have HB5 := Lib.hid (btrans HB4.out hb5)
  have HO5 := Lib.hid hown5
  have HO6 := Lib.hid (own_call HO4.out hb5)
  clear hb5 hown5
  go_wp2_with fail
  (with_reducible refine (eqi_same _ _ n n n hs _ HN.out (by unfold maxLen; omega) (Sees.of_own HO6.out) (Sees.of_own HO5.out)).mono ?_)
  rintro e w6 ⟨rfl, hb6⟩
  have HB6 := Lib.hid (btrans HB5.out hb6)
  clear hb6
  go_wp2
  go_ret
  exact ⟨rfl, HB6.out⟩
end Go.Proofs.Ytmgjgmbdfkkagaa
