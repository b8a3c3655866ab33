/- The contracts of the functions of chapter 6: steps of transactions. -/
import Derived.Test.YtmgjgmbdfkkagaaTexts
import Derived.Test.YtmgjgmbdfkkagaaWorld
import Derived.Test.YtmgjgmbdfkkagaaLists
import Derived.Test.YtmgjgmbdfkkagaaTInt
import Derived.RegionTactic
import Derived.BigRegion
import Derived.Deep.RegionLaw
import Derived.Deep.RegionHeld3
import Derived.StillTailTactics
import Derived.Deep.QuietTactic
import Derived.BigQuiet
import Derived.Outline
namespace Go.Proofs.Ytmgjgmbdfkkagaa
open Go.RowKit
set_option linter.unusedVariables false
set_option maxRecDepth 20000

/-- A state, and a thing that happens. -/
def inV (s : Int) : Bool := decide (0 ≤ s) && decide (s ≤ 4)
theorem five {s : Int} (h : inV s = true) : s = 0 ∨ s = 1 ∨ s = 2 ∨ s = 3 ∨ s = 4 := by
  unfold inV at h
  simp only [Bool.and_eq_true, decide_eq_true_eq] at h
  omega
theorem inV_no {s : Int} (h : inV s = false) : s < 0 ∨ 4 < s := by
  unfold inV at h
  simp only [Bool.and_eq_false_iff, decide_eq_false_iff_not] at h
  omega
def ansT (h : Int) : Int := if h = 0 then 1 else if h = 1 then 4 else if h = 2 then 2 else -1
def tryT (h : Int) : Int := if h = 4 then 4 else ansT h
def doneT (h : Int) : Int := if h = 2 then 2 else if h = 3 then 3 else if h = 4 then 4 else -1
def sureT (h : Int) : Int := if h = 3 then 3 else if h = 4 then 4 else -1
def nextT (s h : Int) : Int := if s = 0 then tryT h else if s = 1 then ansT h else if s = 2 then doneT h else if s = 3 then sureT h else -1
/-- The state after a step, and whether it is told. -/
def stepN (s h : Int) : Int := if inV s && inV h then (if nextT s h = -1 then s else nextT s h) else -1
def stepB (s h : Int) : Bool := inV s && inV h && !decide (nextT s h = -1)
theorem ret_i {a b : Int} (h : a = b) : Ending.returned (.int .i64 a) = .returned (.int .i64 b) := by rw [h]
theorem stv_any (s : Int) (w : World) :
    Calls Try.prog 28 #[.int .i64 s] w fun e w' => e = .returned (.bool (inV s)) ∧ w = w' := by
  by_cases h1 : 0 ≤ s <;> by_cases h2 : s ≤ 4
  all_goals
    go_enter Try.func28, Try.ntmps28
    go_wp2
    go_ret
    exact ⟨ret_bool (by unfold inV; simp [h1, h2]), rfl⟩
theorem hev_any (s : Int) (w : World) :
    Calls Try.prog 29 #[.int .i64 s] w fun e w' => e = .returned (.bool (inV s)) ∧ w = w' := by
  by_cases h1 : 0 ≤ s <;> by_cases h2 : s ≤ 4
  all_goals
    go_enter Try.func29, Try.ntmps29
    go_wp2
    go_ret
    exact ⟨ret_bool (by unfold inV; simp [h1, h2]), rfl⟩
theorem ans_any (h : Int) (w : World) :
    Calls Try.prog 36 #[.int .i64 h] w fun e w' => e = .returned (.int .i64 (ansT h)) ∧ w = w' := by
  by_cases h0 : h = 0
  · subst h0
    go_enter Try.func36, Try.ntmps36
    go_wp2
    go_ret
    exact ⟨rfl, rfl⟩
  by_cases h1 : h = 1
  · subst h1
    go_enter Try.func36, Try.ntmps36
    go_wp2
    go_ret
    exact ⟨rfl, rfl⟩
  by_cases h2 : h = 2
  · subst h2
    go_enter Try.func36, Try.ntmps36
    go_wp2
    go_ret
    exact ⟨rfl, rfl⟩
  go_enter Try.func36, Try.ntmps36
  go_wp2
  go_ret
  exact ⟨ret_i (by unfold ansT; simp [h0, h1, h2]), rfl⟩
theorem don_any (h : Int) (w : World) :
    Calls Try.prog 37 #[.int .i64 h] w fun e w' => e = .returned (.int .i64 (doneT h)) ∧ w = w' := by
  by_cases h0 : h = 2
  · subst h0
    go_enter Try.func37, Try.ntmps37
    go_wp2
    go_ret
    exact ⟨rfl, rfl⟩
  by_cases h1 : h = 3
  · subst h1
    go_enter Try.func37, Try.ntmps37
    go_wp2
    go_ret
    exact ⟨rfl, rfl⟩
  by_cases h2 : h = 4
  · subst h2
    go_enter Try.func37, Try.ntmps37
    go_wp2
    go_ret
    exact ⟨rfl, rfl⟩
  go_enter Try.func37, Try.ntmps37
  go_wp2
  go_ret
  exact ⟨ret_i (by unfold doneT; simp [h0, h1, h2]), rfl⟩
theorem sur_any (h : Int) (w : World) :
    Calls Try.prog 38 #[.int .i64 h] w fun e w' => e = .returned (.int .i64 (sureT h)) ∧ w = w' := by
  by_cases h0 : h = 3
  · subst h0
    go_enter Try.func38, Try.ntmps38
    go_wp2
    go_ret
    exact ⟨rfl, rfl⟩
  by_cases h1 : h = 4
  · subst h1
    go_enter Try.func38, Try.ntmps38
    go_wp2
    go_ret
    exact ⟨rfl, rfl⟩
  go_enter Try.func38, Try.ntmps38
  go_wp2
  go_ret
  exact ⟨ret_i (by unfold sureT; simp [h0, h1]), rfl⟩
theorem try_any (h : Int) (w : World) :
    Calls Try.prog 35 #[.int .i64 h] w fun e w' => e = .returned (.int .i64 (tryT h)) ∧ w = w' := by
  by_cases h0 : h = 4
  · subst h0
    go_enter Try.func35, Try.ntmps35
    go_wp2
    go_ret
    exact ⟨rfl, rfl⟩
  go_enter Try.func35, Try.ntmps35
  go_wp2_with fail
  refine (ans_any _ _).mono ?_
  rintro e w' ⟨rfl, rfl⟩
  go_wp2
  go_ret
  exact ⟨ret_i (by unfold tryT; simp [h0]), rfl⟩
theorem next_any (s h : Int) (w : World) :
    Calls Try.prog 30 #[.int .i64 s, .int .i64 h] w fun e w' => e = .returned (.int .i64 (nextT s h)) ∧ w = w' := by
  by_cases h0 : s = 0
  · subst h0
    go_enter Try.func30, Try.ntmps30
    go_wp2_with fail
    refine (try_any _ _).mono ?_
    rintro e w' ⟨rfl, rfl⟩
    go_wp2
    go_ret
    exact ⟨rfl, rfl⟩
  by_cases h1 : s = 1
  · subst h1
    go_enter Try.func30, Try.ntmps30
    go_wp2_with fail
    refine (ans_any _ _).mono ?_
    rintro e w' ⟨rfl, rfl⟩
    go_wp2
    go_ret
    exact ⟨rfl, rfl⟩
  by_cases h2 : s = 2
  · subst h2
    go_enter Try.func30, Try.ntmps30
    go_wp2_with fail
    refine (don_any _ _).mono ?_
    rintro e w' ⟨rfl, rfl⟩
    go_wp2
    go_ret
    exact ⟨rfl, rfl⟩
  by_cases h3 : s = 3
  · subst h3
    go_enter Try.func30, Try.ntmps30
    go_wp2_with fail
    refine (sur_any _ _).mono ?_
    rintro e w' ⟨rfl, rfl⟩
    go_wp2
    go_ret
    exact ⟨rfl, rfl⟩
  go_enter Try.func30, Try.ntmps30
  go_wp2
  go_ret
  exact ⟨ret_i (by unfold nextT; simp [h0, h1, h2, h3]), rfl⟩
theorem stv_is (v : Bool) (s : Int) (w : World) (h : inV s = v) :
    Calls Try.prog 28 #[.int .i64 s] w fun e w' => e = .returned (.bool v) ∧ w = w' := by
  have := stv_any s w; rwa [h] at this
theorem hev_is (v : Bool) (s : Int) (w : World) (h : inV s = v) :
    Calls Try.prog 29 #[.int .i64 s] w fun e w' => e = .returned (.bool v) ∧ w = w' := by
  have := hev_any s w; rwa [h] at this
theorem in_is (v : Bool) (n lo hi : Int) (w : World) (h : (decide (lo ≤ n) && decide (n ≤ hi)) = v) :
    Calls Try.prog 31 #[.int .i64 n, .int .i64 lo, .int .i64 hi] w fun e w' => e = .returned (.bool v) ∧ w = w' := by
  have := in_any n lo hi w; rwa [h] at this
theorem ret_ib {a b : Int} {c d : Bool} (h : a = b) (h' : c = d) : Ending.returned (.tuple #[.int .i64 a, .bool c]) = .returned (.tuple #[.int .i64 b, .bool d]) := by rw [h, h']
set_option maxHeartbeats 1000000 in
theorem istep_any (s h : Int) (w : World) :
    Calls Try.prog 12 #[.int .i64 s, .int .i64 h] w fun e w' => e = .returned (.tuple #[.int .i64 (stepN s h), .bool (stepB s h)]) ∧ w = w' := by
  by_cases h1 : inV s = true
  · have H1 := Lib.hid h1
    clear h1
    by_cases h2 : inV h = true
    · have H2 := Lib.hid h2
      clear h2
      obtain ⟨x, hx⟩ : ∃ x, nextT s h = x := ⟨_, rfl⟩
      have HX := Lib.hid hx
      by_cases h3 : x = -1
      all_goals
        go_enter Try.func12, Try.ntmps12
        go_wp2_with fail
        refine (stv_is true _ _ H1.out).mono ?_
        rintro e w' ⟨rfl, rfl⟩
        go_wp2_with fail
        refine (hev_is true _ _ H2.out).mono ?_
        rintro e w' ⟨rfl, rfl⟩
        go_wp2_with fail
        refine (next_any _ _ _).mono ?_
        rintro e w' ⟨rfl, rfl⟩
        rw [HX.out]
        clear hx
        go_wp2
        refine bodyPost_ret (v := .tuple #[.int .i64 (stepN s h), .bool (stepB s h)]) (by unfold stepN stepB; simp [results, Try.results12, go_sem, H1.out, H2.out, HX.out, h3]) rfl ⟨rfl, rfl⟩
    · have H2 := Lib.hid (show inV h = false by simpa using h2)
      clear h2
      go_enter Try.func12, Try.ntmps12
      go_wp2_with fail
      refine (stv_is true _ _ H1.out).mono ?_
      rintro e w' ⟨rfl, rfl⟩
      go_wp2_with fail
      refine (hev_is false _ _ H2.out).mono ?_
      rintro e w' ⟨rfl, rfl⟩
      go_wp2
      refine bodyPost_ret (v := .tuple #[.int .i64 (stepN s h), .bool (stepB s h)]) (by unfold stepN stepB; simp [results, Try.results12, go_sem, H1.out, H2.out]) rfl ⟨rfl, rfl⟩
  · have H1 := Lib.hid (show inV s = false by simpa using h1)
    clear h1
    go_enter Try.func12, Try.ntmps12
    go_wp2_with fail
    refine (stv_is false _ _ H1.out).mono ?_
    rintro e w' ⟨rfl, rfl⟩
    go_wp2
    refine bodyPost_ret (v := .tuple #[.int .i64 (stepN s h), .bool (stepB s h)]) (by unfold stepN stepB; simp [results, Try.results12, go_sem, H1.out]) rfl ⟨rfl, rfl⟩
set_option maxHeartbeats 4000000 in
theorem sstep_any (s h : Int) (w : World) :
    Calls Try.prog 13 #[.int .i64 s, .int .i64 h] w fun e w' => e = .returned (.tuple #[.int .i64 (stepN s h), .bool (stepB s h)]) ∧ w = w' := by
  by_cases h1 : inV s = true
  · have H1 := Lib.hid h1
    by_cases h2 : inV h = true
    · have H2 := Lib.hid h2
      rcases five h1 with rfl | rfl | rfl | rfl | rfl <;> rcases five h2 with rfl | rfl | rfl | rfl | rfl
      all_goals
        clear h1 h2
        go_enter Try.func13, Try.ntmps13
        go_wp2_with fail
        refine (in_is true _ _ _ _ rfl).mono ?_
        rintro e w' ⟨rfl, rfl⟩
        go_wp2_with fail
        refine (in_is true _ _ _ _ rfl).mono ?_
        rintro e w' ⟨rfl, rfl⟩
        go_wp2
        exact bodyPost_ret (by simp [results, Try.results13, go_sem] <;> decide) rfl ⟨rfl, rfl⟩
    · have H2 := Lib.hid (show inV h = false by simpa using h2)
      clear h2 h1
      go_enter Try.func13, Try.ntmps13
      go_wp2_with fail
      refine (in_is true _ _ _ _ H1.out).mono ?_
      rintro e w' ⟨rfl, rfl⟩
      go_wp2_with fail
      refine (in_is false _ _ _ _ H2.out).mono ?_
      rintro e w' ⟨rfl, rfl⟩
      go_wp2
      refine bodyPost_ret (v := .tuple #[.int .i64 (stepN s h), .bool (stepB s h)]) (by unfold stepN stepB; simp [results, Try.results13, go_sem, H1.out, H2.out]) rfl ⟨rfl, rfl⟩
  · have H1 := Lib.hid (show inV s = false by simpa using h1)
    clear h1
    go_enter Try.func13, Try.ntmps13
    go_wp2_with fail
    refine (in_is false _ _ _ _ H1.out).mono ?_
    rintro e w' ⟨rfl, rfl⟩
    go_wp2
    refine bodyPost_ret (v := .tuple #[.int .i64 (stepN s h), .bool (stepB s h)]) (by unfold stepN stepB; simp [results, Try.results13, go_sem, H1.out]) rfl ⟨rfl, rfl⟩

/-- A run: the state behind it, and how many steps are told. -/
def runStep (p : Int × Nat) (h : Int) : Int × Nat := (stepN p.1 h, if stepB p.1 h then p.2 + 1 else p.2)
def runF (l : List Int) : Int × Nat := l.foldl runStep (0, 0)
theorem runF_more {hs : List Int} {k : Nat} {a : Int} (h : hs[k]? = some a) : runF (hs.take (k + 1)) = runStep (runF (hs.take k)) a := by
  rw [take_more h]; unfold runF; rw [List.foldl_append]; rfl
def runB (l : List Int) : Bool := decide (l.length ≤ 20) && l.all inV
def runN (l : List Int) : Int := if runB l then (runF l).1 else -1
def runM (l : List Int) : Nat := if runB l then (runF l).2 else 0
theorem step_in {s h : Int} (hs : inV s = true) (hh : inV h = true) : inV (stepN s h) = true := by
  rcases five hs with rfl | rfl | rfl | rfl | rfl <;> rcases five hh with rfl | rfl | rfl | rfl | rfl <;> rfl
theorem step_none (s : Int) {h : Int} (hh : inV h = false) : stepN s h = -1 := by unfold stepN; rw [hh]; simp
theorem run_no {hs : List Int} {k : Nat} {a : Int} (h : hs[k]? = some a) (ha : inV a = false) : runN hs = -1 ∧ runM hs = 0 := by
  have : runB hs = false := by unfold runB; rw [all_no inV h ha]; simp
  unfold runN runM
  rw [this]
  exact ⟨rfl, rfl⟩
theorem run_many {hs : List Int} (h : 20 < hs.length) : runN hs = -1 ∧ runM hs = 0 := by
  have : runB hs = false := by unfold runB; rw [decide_eq_false (by omega)]; rfl
  unfold runN runM
  rw [this]
  exact ⟨rfl, rfl⟩
theorem run_yes {hs : List Int} (h : hs.length ≤ 20) (ha : hs.all inV = true) : runN hs = (runF hs).1 ∧ runM hs = (runF hs).2 := by
  have : runB hs = true := by unfold runB; rw [decide_eq_true h, ha]; rfl
  unfold runN runM
  rw [this]
  exact ⟨rfl, rfl⟩
theorem ret_ii {a b c d : Int} (h : a = b) (h' : c = d) : Ending.returned (.tuple #[.int .i64 a, .int .i64 c]) = .returned (.tuple #[.int .i64 b, .int .i64 d]) := by rw [h, h']
set_option maxHeartbeats 2000000 in
theorem irun_any (A : Option Addr) (n c : Nat) (hs : List Int) (w : World) (hn : n = hs.length) (hc : n ≤ maxLen) (hr : Sees w w.heap.size 1 A n (flat intC hs)) :
    Calls Try.prog 16 #[.slice A n c] w fun e w' => e = .returned (.tuple #[.int .i64 (runN hs), .int .i64 (runM hs)]) ∧ Below w.heap.size w w' := by
  have HR := Lib.hid hr
  have HN := Lib.hid hn
  clear hr hn
  unfold maxLen at hc
  by_cases hbig : 20 < n
  · have h1 := run_many (hs := hs) (by have := HN.out; omega)
    have HX := Lib.hid h1
    clear h1
    go_enter Try.func16, Try.ntmps16
    go_wp2
    refine bodyPost_ret (v := .tuple #[.int .i64 (runN hs), .int .i64 (runM hs)]) (by simp [results, Try.results16, go_sem]; rw [HX.out.1, HX.out.2]; exact ⟨rfl, rfl⟩) rfl ⟨rfl, ?_⟩
    exact Below.refl _ _
  go_enter Try.func16, Try.ntmps16
  go_wp2
  go_loopw [4, 5, 15] (fun st tl i wr => ∃ k : Nat, ∃ s : Int, ∃ t : Nat, k ≤ n ∧ i = .int .i64 k ∧ st = .int .i64 s ∧ tl = .int .i64 (t : Int) ∧ t ≤ k ∧ inV s = true ∧ (hs.take k).all inV = true ∧ runF (hs.take k) = (s, t) ∧ (0 < k → n ≤ 20) ∧ Below w.heap.size w wr) (fun _ _ i _ => n - (intOf i).toNat)
  case atStart => exact ⟨0, 0, 0, Nat.zero_le _, rfl, rfl, rfl, Nat.le_refl _, rfl, rfl, rfl, by omega, Below.refl _ _⟩
  case round =>
    obtain ⟨k, s, t, hk, rfl, rfl, rfl, ht, hs1, hall, hrun, h20, hbel⟩ := hrel
    have HB := Lib.hid hbel
    have HS := Lib.hid hs1
    have HA := Lib.hid hall
    have HU := Lib.hid hrun
    have H20 := Lib.hid h20
    clear hbel hs1 hall hrun h20
    by_cases hlt : k < n
    · obtain ⟨b, off, rfl, hb, hcell⟩ := (HR.out.below HB.out (Nat.le_refl _)).2 (by omega)
      obtain ⟨h, hp⟩ := get_of HN.out hlt
      have HP := Lib.hid hp
      have c0 := int_cell hcell hp
      clear hcell hb hp
      obtain ⟨x, hx⟩ : ∃ x, stepN s h = x := ⟨_, rfl⟩
      obtain ⟨y, hy⟩ : ∃ y, stepB s h = y := ⟨_, rfl⟩
      have HX := Lib.hid hx
      have HY := Lib.hid hy
      clear hx hy
      have hst : ∀ W : World, Calls Try.prog 12 #[.int .i64 s, .int .i64 h] W fun e w' => e = .returned (.tuple #[.int .i64 x, .bool y]) ∧ W = w' := fun W => by
        have := istep_any s h W; rwa [HX.out, HY.out] at this
      have HST := Lib.hid hst
      clear hst
      by_cases hv : inV h = true
      · have HV := Lib.hid hv
        have hx5 := five (by rw [← HX.out]; exact step_in HS.out HV.out : inV x = true)
        have hx0 : 0 ≤ x := by omega
        have HIX := Lib.hid (by rw [← HX.out]; exact step_in HS.out HV.out : inV x = true)
        have hxn : ¬ x = -1 := by omega
        clear hv hx5
        have hrel : ∀ y', y' = y → (hs.take (k + 1)).all inV = true ∧ runF (hs.take (k + 1)) = (x, if y' then t + 1 else t) := by
          rintro _ rfl
          rw [all_more inV HP.out, HA.out, HV.out, runF_more HP.out, HU.out]
          refine ⟨rfl, ?_⟩
          unfold runStep
          show (stepN s h, if stepB s h then t + 1 else t) = _
          rw [HX.out, HY.out]
        have HREL := Lib.hid hrel
        clear hrel
        cases y
        all_goals
          go_wp2_with fail
          (with_reducible refine (HST.out _).mono ?_)
          rintro e w1 ⟨rfl, rfl⟩
          go_wp2
          go_roundw
          case rel => exact ⟨k + 1, x, _, by omega, by go_num, rfl, by first | rfl | go_num, by first | omega | exact Nat.succ_le_succ ht | exact Nat.le_succ_of_le ht, HIX.out, (HREL.out _ rfl).1, (HREL.out _ rfl).2, by omega, by first | exact HB.out | exact bdrewN HB.out _⟩
          case measure => simp [intOf]; omega
      · have HV := Lib.hid (show inV h = false by simpa using hv)
        have h1 := run_no HP.out HV.out
        have HM := Lib.hid h1
        have hx1 : x = -1 := by rw [← HX.out]; exact step_none s HV.out
        clear hv h1
        subst hx1
        go_wp2_with fail
        (with_reducible refine (HST.out _).mono ?_)
        rintro e w1 ⟨rfl, rfl⟩
        go_wp2
        refine bodyPost_ret (v := .tuple #[.int .i64 (runN hs), .int .i64 (runM hs)]) (by simp [results, Try.results16, go_sem]; rw [HM.out.1, HM.out.2]; exact ⟨rfl, rfl⟩) rfl ⟨rfl, ?_⟩
        first | exact HB.out | exact bdrewN HB.out _
    · have h1 : runN hs = s ∧ runM hs = t := by
        have hl : hs.length ≤ 20 := by have := HN.out; have := H20.out; omega
        have h2 := run_yes hl (by have := HA.out; rwa [take_all HN.out hlt] at this)
        have h3 := HU.out
        rw [take_all HN.out hlt] at h3
        rw [h3] at h2
        exact h2
      have HM := Lib.hid h1
      clear h1
      go_wp2
      refine bodyPost_ret (v := .tuple #[.int .i64 (runN hs), .int .i64 (runM hs)]) (by simp [results, Try.results16, go_sem]; rw [HM.out.1, HM.out.2]; exact ⟨rfl, rfl⟩) rfl ⟨rfl, ?_⟩
      exact HB.out
set_option maxHeartbeats 2000000 in
theorem srun_any (A : Option Addr) (n c : Nat) (hs : List Int) (w : World) (hn : n = hs.length) (hc : n ≤ maxLen) (hr : Sees w w.heap.size 1 A n (flat intC hs)) :
    Calls Try.prog 17 #[.slice A n c] w fun e w' => e = .returned (.tuple #[.int .i64 (runN hs), .int .i64 (runM hs)]) ∧ Below w.heap.size w w' := by
  have HR := Lib.hid hr
  have HN := Lib.hid hn
  clear hr hn
  unfold maxLen at hc
  go_enter Try.func17, Try.ntmps17
  go_wp2
  go_loopw [4, 5, 6] (fun st tl i wr => ∃ k : Nat, ∃ s : Int, ∃ t : Nat, k ≤ n ∧ i = .int .i64 k ∧ st = .int .i64 s ∧ tl = .int .i64 (t : Int) ∧ t ≤ k ∧ inV s = true ∧ (hs.take k).all inV = true ∧ runF (hs.take k) = (s, t) ∧ (0 < k → n ≤ 20) ∧ Below w.heap.size w wr) (fun _ _ i _ => n - (intOf i).toNat)
  case atStart => exact ⟨0, 0, 0, Nat.zero_le _, rfl, rfl, rfl, Nat.le_refl _, rfl, rfl, rfl, by omega, Below.refl _ _⟩
  case round =>
    obtain ⟨k, s, t, hk, rfl, rfl, rfl, ht, hs1, hall, hrun, h20, hbel⟩ := hrel
    have HB := Lib.hid hbel
    have HS := Lib.hid hs1
    have HA := Lib.hid hall
    have HU := Lib.hid hrun
    have H20 := Lib.hid h20
    clear hbel hs1 hall hrun h20
    by_cases hlt : k < n
    · obtain ⟨b, off, rfl, hb, hcell⟩ := (HR.out.below HB.out (Nat.le_refl _)).2 (by omega)
      obtain ⟨h, hp⟩ := get_of HN.out hlt
      have HP := Lib.hid hp
      have c0 := int_cell hcell hp
      clear hcell hb hp
      obtain ⟨x, hx⟩ : ∃ x, stepN s h = x := ⟨_, rfl⟩
      obtain ⟨y, hy⟩ : ∃ y, stepB s h = y := ⟨_, rfl⟩
      have HX := Lib.hid hx
      have HY := Lib.hid hy
      clear hx hy
      have hst : ∀ W : World, Calls Try.prog 13 #[.int .i64 s, .int .i64 h] W fun e w' => e = .returned (.tuple #[.int .i64 x, .bool y]) ∧ W = w' := fun W => by
        have := sstep_any s h W; rwa [HX.out, HY.out] at this
      have HST := Lib.hid hst
      clear hst
      by_cases hv : inV h = true
      · have HV := Lib.hid hv
        have hx5 := five (by rw [← HX.out]; exact step_in HS.out HV.out : inV x = true)
        have hx0 : 0 ≤ x := by omega
        have HIX := Lib.hid (by rw [← HX.out]; exact step_in HS.out HV.out : inV x = true)
        have hxn : ¬ x = -1 := by omega
        clear hv hx5
        by_cases hbig : 20 < n
        · have h1 := run_many (hs := hs) (by have := HN.out; omega)
          have HM := Lib.hid h1
          clear h1
          go_wp2_with fail
          (with_reducible refine (HST.out _).mono ?_)
          rintro e w1 ⟨rfl, rfl⟩
          go_wp2
          refine bodyPost_ret (v := .tuple #[.int .i64 (runN hs), .int .i64 (runM hs)]) (by simp [results, Try.results17, go_sem]; rw [HM.out.1, HM.out.2]; exact ⟨rfl, rfl⟩) rfl ⟨rfl, ?_⟩
          first | exact HB.out | exact bdrewN HB.out _
        have hrel : ∀ y', y' = y → (hs.take (k + 1)).all inV = true ∧ runF (hs.take (k + 1)) = (x, if y' then t + 1 else t) := by
          rintro _ rfl
          rw [all_more inV HP.out, HA.out, HV.out, runF_more HP.out, HU.out]
          refine ⟨rfl, ?_⟩
          unfold runStep
          show (stepN s h, if stepB s h then t + 1 else t) = _
          rw [HX.out, HY.out]
        have HREL := Lib.hid hrel
        clear hrel
        cases y
        all_goals
          go_wp2_with fail
          (with_reducible refine (HST.out _).mono ?_)
          rintro e w1 ⟨rfl, rfl⟩
          go_wp2
          go_roundw
          case rel => exact ⟨k + 1, x, _, by omega, by go_num, rfl, by first | rfl | go_num, by first | omega | exact Nat.succ_le_succ ht | exact Nat.le_succ_of_le ht, HIX.out, (HREL.out _ rfl).1, (HREL.out _ rfl).2, by omega, by first | exact HB.out | exact bdrewN HB.out _⟩
          case measure => simp [intOf]; omega
      · have HV := Lib.hid (show inV h = false by simpa using hv)
        have h1 := run_no HP.out HV.out
        have HM := Lib.hid h1
        have hx1 : x = -1 := by rw [← HX.out]; exact step_none s HV.out
        clear hv h1
        subst hx1
        go_wp2_with fail
        (with_reducible refine (HST.out _).mono ?_)
        rintro e w1 ⟨rfl, rfl⟩
        go_wp2
        refine bodyPost_ret (v := .tuple #[.int .i64 (runN hs), .int .i64 (runM hs)]) (by simp [results, Try.results17, go_sem]; rw [HM.out.1, HM.out.2]; exact ⟨rfl, rfl⟩) rfl ⟨rfl, ?_⟩
        first | exact HB.out | exact bdrewN HB.out _
    · have h1 : runN hs = s ∧ runM hs = t := by
        have hl : hs.length ≤ 20 := by have := HN.out; have := H20.out; omega
        have h2 := run_yes hl (by have := HA.out; rwa [take_all HN.out hlt] at this)
        have h3 := HU.out
        rw [take_all HN.out hlt] at h3
        rw [h3] at h2
        exact h2
      have HM := Lib.hid h1
      clear h1
      go_wp2
      refine bodyPost_ret (v := .tuple #[.int .i64 (runN hs), .int .i64 (runM hs)]) (by simp [results, Try.results17, go_sem]; rw [HM.out.1, HM.out.2]; exact ⟨rfl, rfl⟩) rfl ⟨rfl, ?_⟩
      exact HB.out

/-- What an answer is to a transaction. -/
def hearN (c : Int) : Int := if 100 ≤ c ∧ c ≤ 699 then (if c < 200 then 0 else if c < 300 then 1 else 2) else -1
/-- The name of a state. -/
def stT (s : Int) : ByteArray := if s = 0 then ⟨#[116, 114, 121, 105, 110, 103]⟩ else if s = 1 then ⟨#[119, 97, 105, 116, 105, 110, 103]⟩ else if s = 2 then ⟨#[100, 111, 110, 101]⟩ else if s = 3 then ⟨#[115, 117, 114, 101]⟩ else if s = 4 then ⟨#[101, 110, 100, 101, 100]⟩ else ⟨#[]⟩
theorem icode_any (v : Bool) (cd : Int) (w : World) (h : (decide (100 ≤ cd) && decide (cd ≤ 699)) = v) :
    Calls Try.prog 34 #[.int .i64 cd] w fun e w' => e = .returned (.bool v) ∧ w = w' := by
  by_cases h1 : 100 ≤ cd <;> by_cases h2 : cd ≤ 699
  all_goals
    go_enter Try.func34, Try.ntmps34
    go_wp2
    go_ret
    exact ⟨ret_bool (by rw [← h]; simp [h1, h2]), rfl⟩
theorem ihears_any (c : Int) (w : World) :
    Calls Try.prog 19 #[.int .i64 c] w fun e w' => e = .returned (.int .i64 (hearN c)) ∧ w = w' := by
  by_cases h0 : 100 ≤ c ∧ c ≤ 699
  · have HV : Hid ((decide (100 ≤ c) && decide (c ≤ 699)) = true) := Lib.hid (by simp [h0])
    by_cases h1 : c < 200 <;> by_cases h2 : c < 300
    all_goals
      go_enter Try.func19, Try.ntmps19
      go_wp2_with fail
      refine (icode_any true _ _ HV.out).mono ?_
      rintro e w' ⟨rfl, rfl⟩
      go_wp2
      go_ret
      exact ⟨ret_i (by unfold hearN; simp [h0, h1, h2] <;> omega), rfl⟩
  · have HV : Hid ((decide (100 ≤ c) && decide (c ≤ 699)) = false) := Lib.hid (by simp; omega)
    have HN := Lib.hid h0
    clear h0
    go_enter Try.func19, Try.ntmps19
    go_wp2_with fail
    refine (icode_any false _ _ HV.out).mono ?_
    rintro e w' ⟨rfl, rfl⟩
    go_wp2
    go_ret
    exact ⟨ret_i (by unfold hearN; rw [if_neg HN.out]), rfl⟩
theorem shears_any (c : Int) (w : World) :
    Calls Try.prog 20 #[.int .i64 c] w fun e w' => e = .returned (.int .i64 (hearN c)) ∧ w = w' := by
  by_cases h0 : 100 ≤ c ∧ c ≤ 699
  · have HV : Hid ((decide (100 ≤ c) && decide (c ≤ 699)) = true) := Lib.hid (by simp [h0])
    by_cases h1 : c < 200 <;> by_cases h2 : c < 300
    all_goals
      go_enter Try.func20, Try.ntmps20
      go_wp2_with fail
      refine (in_is true _ _ _ _ HV.out).mono ?_
      rintro e w' ⟨rfl, rfl⟩
      go_wp2
      go_ret
      exact ⟨ret_i (by unfold hearN; simp [h0, h1, h2] <;> omega), rfl⟩
  · have HV : Hid ((decide (100 ≤ c) && decide (c ≤ 699)) = false) := Lib.hid (by simp; omega)
    have HN := Lib.hid h0
    clear h0
    go_enter Try.func20, Try.ntmps20
    go_wp2_with fail
    refine (in_is false _ _ _ _ HV.out).mono ?_
    rintro e w' ⟨rfl, rfl⟩
    go_wp2
    go_ret
    exact ⟨ret_i (by unfold hearN; rw [if_neg HN.out]), rfl⟩
theorem istt_any (s : Int) (w : World) :
    Calls Try.prog 22 #[.int .i64 s] w fun e w' => e = .returned (.string (stT s)) ∧ w = w' := by
  by_cases h0 : s = 0
  · subst h0
    go_enter Try.func22, Try.ntmps22
    go_wp2
    go_ret
    exact ⟨rfl, rfl⟩
  by_cases h1 : s = 1
  · subst h1
    go_enter Try.func22, Try.ntmps22
    go_wp2
    go_ret
    exact ⟨rfl, rfl⟩
  by_cases h2 : s = 2
  · subst h2
    go_enter Try.func22, Try.ntmps22
    go_wp2
    go_ret
    exact ⟨rfl, rfl⟩
  by_cases h3 : s = 3
  · subst h3
    go_enter Try.func22, Try.ntmps22
    go_wp2
    go_ret
    exact ⟨rfl, rfl⟩
  by_cases h4 : s = 4
  · subst h4
    go_enter Try.func22, Try.ntmps22
    go_wp2
    go_ret
    exact ⟨rfl, rfl⟩
  go_enter Try.func22, Try.ntmps22
  go_wp2
  go_ret
  exact ⟨ret_str (by unfold stT; simp [h0, h1, h2, h3, h4]), rfl⟩
set_option maxHeartbeats 1000000 in
theorem sstt_any (s : Int) (w : World) :
    Calls Try.prog 23 #[.int .i64 s] w fun e w' => e = .returned (.string (stT s)) ∧ Below w.heap.size w w' := by
  by_cases h1 : inV s = true
  · have H1 := Lib.hid h1
    rcases five h1 with rfl | rfl | rfl | rfl | rfl
    all_goals
      clear h1
      go_enter Try.func23, Try.ntmps23
      go_wp2_with fail
      refine (in_is true _ _ _ _ rfl).mono ?_
      rintro e w' ⟨rfl, rfl⟩
      go_wp2
      go_ret
      exact ⟨rfl, bnew _ _⟩
  · have H1 := Lib.hid (show inV s = false by simpa using h1)
    have h2 := inV_no H1.out
    clear h1
    have HT : Hid (stT s = ⟨#[]⟩) := Lib.hid (by unfold stT; rw [if_neg (by omega), if_neg (by omega), if_neg (by omega), if_neg (by omega), if_neg (by omega)])
    clear h2
    go_enter Try.func23, Try.ntmps23
    go_wp2_with fail
    refine (in_is false _ _ _ _ H1.out).mono ?_
    rintro e w' ⟨rfl, rfl⟩
    go_wp2
    go_ret
    exact ⟨ret_str HT.out.symm, Below.refl _ _⟩
end Go.Proofs.Ytmgjgmbdfkkagaa
