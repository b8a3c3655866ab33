/- The walks of the laws of chapter 6 over drawn inputs. -/
import Derived.Test.YtmgjgmbdfkkagaaLaws6
import Derived.Test.YtmgjgmbdfkkagaaDrawX
import Derived.Test.YtmgjgmbdfkkagaaAlive
namespace Go.Proofs.Ytmgjgmbdfkkagaa
open Go.RowKit
set_option linter.unusedVariables false
set_option maxRecDepth 20000

theorem step_good {s h : Int} (hs : inV s = true) (hh : inV h = true) : 0 ≤ stepN s h ∧ s ≤ stepN s h ∧ stepN s h ≤ 4 ∧ (stepB s h = true ∨ (stepB s h = false ∧ stepN s h = s)) ∧ stepN 4 h = 4 ∧ stepB 4 h = false := by
  rcases five hs with rfl | rfl | rfl | rfl | rfl <;> rcases five hh with rfl | rfl | rfl | rfl | rfl <;> decide
theorem step_bad {s h : Int} (hs : (inV s && inV h) = false) : stepN s h = -1 ∧ stepB s h = false := by
  unfold stepN stepB
  rw [hs]
  exact ⟨rfl, rfl⟩
theorem ist_is (a b : Int) (y : Bool) (x : Int) (h1 : stepN a b = x) (h2 : stepB a b = y) (w : World) :
    Calls Try.prog 12 #[.int .i64 a, .int .i64 b] w fun e w' => e = .returned (.tuple #[.int .i64 x, .bool y]) ∧ w = w' := by
  have := istep_any a b w; rwa [h1, h2] at this
theorem sst_is (a b : Int) (y : Bool) (x : Int) (h1 : stepN a b = x) (h2 : stepB a b = y) (w : World) :
    Calls Try.prog 13 #[.int .i64 a, .int .i64 b] w fun e w' => e = .returned (.tuple #[.int .i64 x, .bool y]) ∧ w = w' := by
  have := sstep_any a b w; rwa [h1, h2] at this

set_option maxHeartbeats 4000000 in
theorem walk_FnTransStep (a0 : Option Addr) (len0 cap0 : Nat) (z0 : List Int) (w : World) (w0 : IsBytes w a0 len0 cap0 z0) :
    Calls Try.prog 3 #[.slice a0 len0 cap0] w fun e w' => e = .returned (.bool true) ∧ Below w.heap.size w w' := by
  obtain ⟨hlc, hcm, hb⟩ := bytes_of w0
  have HB := Lib.hid hb
  have hcm' := hcm
  unfold maxLen at hcm'
  clear w0 hb
  by_cases hbig : (1048576 : Int) < len0
  · go_enter Try.func3, Try.ntmps3
    go_wp2
    go_ret
    exact ⟨rfl, Below.refl _ _⟩
  go_enter Try.func3, Try.ntmps3
  go_wp2_with fail
  refine (drawXs_any _ _ _ _ hlc hcm HB.out).mono ?_
  rintro e w1 ⟨s, h, rfl, hb1⟩
  have HB1 := Lib.hid hb1
  clear hb1
  by_cases hv : (inV s && inV h) = true
  · rw [Bool.and_eq_true] at hv
    obtain ⟨g0, g1, g2, g3, g4, g5⟩ := step_good hv.1 hv.2
    obtain ⟨x, hx⟩ : ∃ x, stepN s h = x := ⟨_, rfl⟩
    obtain ⟨y, hy⟩ : ∃ y, stepB s h = y := ⟨_, rfl⟩
    rw [hx] at g0 g1 g2 g3
    rw [hy] at g3
    have HX := Lib.hid hx
    have HY := Lib.hid hy
    have HI : Hid (∀ W : World, Calls Try.prog 12 #[.int .i64 s, .int .i64 h] W fun e w' => e = .returned (.tuple #[.int .i64 x, .bool y]) ∧ W = w') := Lib.hid (ist_is s h y x hx hy)
    have HS : Hid (∀ W : World, Calls Try.prog 13 #[.int .i64 s, .int .i64 h] W fun e w' => e = .returned (.tuple #[.int .i64 x, .bool y]) ∧ W = w') := Lib.hid (sst_is s h y x hx hy)
    have HE : Hid (∀ W : World, Calls Try.prog 12 #[.int .i64 4, .int .i64 h] W fun e w' => e = .returned (.tuple #[.int .i64 4, .bool false]) ∧ W = w') := Lib.hid (ist_is 4 h false 4 g4 g5)
    clear hv hx hy HX HY g4 g5
    rcases g3 with rfl | ⟨rfl, rfl⟩
    all_goals
      go_wp2_with fail
      (with_reducible refine (HI.out _).mono ?_)
      rintro e w2 ⟨rfl, rfl⟩
      go_wp2_with fail
      (with_reducible refine (HS.out _).mono ?_)
      rintro e w2 ⟨rfl, rfl⟩
      go_wp2_with fail
      (with_reducible refine (HE.out _).mono ?_)
      rintro e w2 ⟨rfl, rfl⟩
      go_wp2
      go_ret
      exact ⟨rfl, HB1.out⟩
  · have hv : (inV s && inV h) = false := by simpa using hv
    obtain ⟨g1, g2⟩ := step_bad hv
    have HI : Hid (∀ W : World, Calls Try.prog 12 #[.int .i64 s, .int .i64 h] W fun e w' => e = .returned (.tuple #[.int .i64 (-1), .bool false]) ∧ W = w') := Lib.hid (ist_is s h false (-1) g1 g2)
    have HS : Hid (∀ W : World, Calls Try.prog 13 #[.int .i64 s, .int .i64 h] W fun e w' => e = .returned (.tuple #[.int .i64 (-1), .bool false]) ∧ W = w') := Lib.hid (sst_is s h false (-1) g1 g2)
    clear hv g1 g2
    go_wp2_with fail
    (with_reducible refine (HI.out _).mono ?_)
    rintro e w2 ⟨rfl, rfl⟩
    go_wp2_with fail
    (with_reducible refine (HS.out _).mono ?_)
    rintro e w2 ⟨rfl, rfl⟩
    go_wp2_with fail
    (with_reducible refine (alive_any _).mono ?_)
    rintro e w2 ⟨rfl, rfl⟩
    go_wp2
    go_ret
    exact ⟨rfl, HB1.out⟩

set_option maxHeartbeats 4000000 in
theorem walk_FnHearsOf (a0 : Option Addr) (len0 cap0 : Nat) (z0 : List Int) (w : World) (w0 : IsBytes w a0 len0 cap0 z0) :
    Calls Try.prog 5 #[.slice a0 len0 cap0] w fun e w' => e = .returned (.bool true) ∧ Below w.heap.size w w' := by
  obtain ⟨hlc, hcm, hb⟩ := bytes_of w0
  have HB := Lib.hid hb
  have hcm' := hcm
  unfold maxLen at hcm'
  clear w0 hb
  by_cases hbig : (1048576 : Int) < len0
  · go_enter Try.func5, Try.ntmps5
    go_wp2
    go_ret
    exact ⟨rfl, Below.refl _ _⟩
  go_enter Try.func5, Try.ntmps5
  go_wp2_with fail
  refine (drawXh_any _ _ _ _ hlc hcm HB.out).mono ?_
  rintro e w1 ⟨c, rfl, hb1⟩
  have HB1 := Lib.hid hb1
  clear hb1
  have hc : (hearN c = -1 ∧ c < 100) ∨ (hearN c = -1 ∧ 100 ≤ c ∧ 699 < c) ∨ (hearN c = 0) ∨ (hearN c = 1) ∨ (hearN c = 2) := by
    unfold hearN
    split
    · split
      · simp
      · split <;> simp
    · simp; omega
  rcases hc with ⟨h1, h2⟩ | ⟨h1, h2, h3⟩ | h1 | h1 | h1
  · have HI : Hid (∀ W : World, Calls Try.prog 19 #[.int .i64 c] W fun e w' => e = .returned (.int .i64 (-1)) ∧ W = w') := Lib.hid (fun W => by have := ihears_any c W; rwa [h1] at this)
    have HS : Hid (∀ W : World, Calls Try.prog 20 #[.int .i64 c] W fun e w' => e = .returned (.int .i64 (-1)) ∧ W = w') := Lib.hid (fun W => by have := shears_any c W; rwa [h1] at this)
    clear h1
    go_wp2_with fail
    (with_reducible refine (HI.out _).mono ?_)
    rintro e w2 ⟨rfl, rfl⟩
    go_wp2_with fail
    (with_reducible refine (HS.out _).mono ?_)
    rintro e w2 ⟨rfl, rfl⟩
    go_wp2_with fail
    (with_reducible refine (alive_any _).mono ?_)
    rintro e w2 ⟨rfl, rfl⟩
    go_wp2
    go_ret
    exact ⟨rfl, HB1.out⟩
  · have HI : Hid (∀ W : World, Calls Try.prog 19 #[.int .i64 c] W fun e w' => e = .returned (.int .i64 (-1)) ∧ W = w') := Lib.hid (fun W => by have := ihears_any c W; rwa [h1] at this)
    have HS : Hid (∀ W : World, Calls Try.prog 20 #[.int .i64 c] W fun e w' => e = .returned (.int .i64 (-1)) ∧ W = w') := Lib.hid (fun W => by have := shears_any c W; rwa [h1] at this)
    clear h1
    go_wp2_with fail
    (with_reducible refine (HI.out _).mono ?_)
    rintro e w2 ⟨rfl, rfl⟩
    go_wp2_with fail
    (with_reducible refine (HS.out _).mono ?_)
    rintro e w2 ⟨rfl, rfl⟩
    go_wp2_with fail
    (with_reducible refine (alive_any _).mono ?_)
    rintro e w2 ⟨rfl, rfl⟩
    go_wp2
    go_ret
    exact ⟨rfl, HB1.out⟩
  · have HI : Hid (∀ W : World, Calls Try.prog 19 #[.int .i64 c] W fun e w' => e = .returned (.int .i64 (0)) ∧ W = w') := Lib.hid (fun W => by have := ihears_any c W; rwa [h1] at this)
    have HS : Hid (∀ W : World, Calls Try.prog 20 #[.int .i64 c] W fun e w' => e = .returned (.int .i64 (0)) ∧ W = w') := Lib.hid (fun W => by have := shears_any c W; rwa [h1] at this)
    clear h1
    go_wp2_with fail
    (with_reducible refine (HI.out _).mono ?_)
    rintro e w2 ⟨rfl, rfl⟩
    go_wp2_with fail
    (with_reducible refine (HS.out _).mono ?_)
    rintro e w2 ⟨rfl, rfl⟩
    go_wp2_with fail
    (with_reducible refine (ist_is 1 0 true _ rfl rfl _).mono ?_)
    rintro e w2 ⟨rfl, rfl⟩
    go_wp2
    go_ret
    exact ⟨rfl, HB1.out⟩
  · have HI : Hid (∀ W : World, Calls Try.prog 19 #[.int .i64 c] W fun e w' => e = .returned (.int .i64 (1)) ∧ W = w') := Lib.hid (fun W => by have := ihears_any c W; rwa [h1] at this)
    have HS : Hid (∀ W : World, Calls Try.prog 20 #[.int .i64 c] W fun e w' => e = .returned (.int .i64 (1)) ∧ W = w') := Lib.hid (fun W => by have := shears_any c W; rwa [h1] at this)
    clear h1
    go_wp2_with fail
    (with_reducible refine (HI.out _).mono ?_)
    rintro e w2 ⟨rfl, rfl⟩
    go_wp2_with fail
    (with_reducible refine (HS.out _).mono ?_)
    rintro e w2 ⟨rfl, rfl⟩
    go_wp2_with fail
    (with_reducible refine (ist_is 1 1 true _ rfl rfl _).mono ?_)
    rintro e w2 ⟨rfl, rfl⟩
    go_wp2
    go_ret
    exact ⟨rfl, HB1.out⟩
  · have HI : Hid (∀ W : World, Calls Try.prog 19 #[.int .i64 c] W fun e w' => e = .returned (.int .i64 (2)) ∧ W = w') := Lib.hid (fun W => by have := ihears_any c W; rwa [h1] at this)
    have HS : Hid (∀ W : World, Calls Try.prog 20 #[.int .i64 c] W fun e w' => e = .returned (.int .i64 (2)) ∧ W = w') := Lib.hid (fun W => by have := shears_any c W; rwa [h1] at this)
    clear h1
    go_wp2_with fail
    (with_reducible refine (HI.out _).mono ?_)
    rintro e w2 ⟨rfl, rfl⟩
    go_wp2_with fail
    (with_reducible refine (HS.out _).mono ?_)
    rintro e w2 ⟨rfl, rfl⟩
    go_wp2_with fail
    (with_reducible refine (ist_is 1 2 true _ rfl rfl _).mono ?_)
    rintro e w2 ⟨rfl, rfl⟩
    go_wp2
    go_ret
    exact ⟨rfl, HB1.out⟩

/-- Names of different states differ. -/
theorem stT_ne {k s : Int} (hk : inV k = true) (h : ¬ k = s) : ((stT k).toList == (stT s).toList) = false := by
  rw [beq_eq_false_iff_ne, ByteArray.toList_eq, ByteArray.toList_eq]
  unfold stT
  rcases five hk with rfl | rfl | rfl | rfl | rfl
  all_goals
    repeat' split
    all_goals first | (subst_vars; omega) | decide | (exfalso; omega)
theorem stT_none {s : Int} (h : inV s = false) : stT s = ⟨#[]⟩ := by
  have h2 := inV_no h
  unfold stT
  rw [if_neg (by omega), if_neg (by omega), if_neg (by omega), if_neg (by omega), if_neg (by omega)]
theorem stT_some {s : Int} (h : inV s = true) : ((stT s).toList == []) = false := by
  rw [beq_eq_false_iff_ne, ByteArray.toList_eq]
  rcases five h with rfl | rfl | rfl | rfl | rfl <;> decide

set_option maxHeartbeats 4000000 in
theorem walk_FnStateText (a0 : Option Addr) (len0 cap0 : Nat) (z0 : List Int) (w : World) (w0 : IsBytes w a0 len0 cap0 z0) :
    Calls Try.prog 6 #[.slice a0 len0 cap0] w fun e w' => e = .returned (.bool true) ∧ Below w.heap.size w w' := by
  obtain ⟨hlc, hcm, hb⟩ := bytes_of w0
  have HB := Lib.hid hb
  have hcm' := hcm
  unfold maxLen at hcm'
  clear w0 hb
  by_cases hbig : (1048576 : Int) < len0
  · go_enter Try.func6, Try.ntmps6
    go_wp2
    go_ret
    exact ⟨rfl, Below.refl _ _⟩
  go_enter Try.func6, Try.ntmps6
  go_wp2_with fail
  refine (drawXt_any _ _ _ _ hlc hcm HB.out).mono ?_
  rintro e w1 ⟨s, rfl, hb1⟩
  have HB1 := Lib.hid hb1
  clear hb1
  obtain ⟨t, ht⟩ : ∃ t, stT s = t := ⟨_, rfl⟩
  have HT := Lib.hid ht
  clear ht
  go_wp2_with fail
  (with_reducible refine (istt_any s _).mono ?_)
  rintro e w2 ⟨rfl, rfl⟩
  rw [HT.out]
  go_wp2_with fail
  (with_reducible refine (sstt_any s _).mono ?_)
  rintro e w2 ⟨rfl, hb2⟩
  rw [HT.out]
  have HB2 := Lib.hid (btrans HB1.out hb2)
  clear hb2
  go_wp2
  go_loopw [5] (fun i wr => ∃ k : Nat, k ≤ 5 ∧ i = .int .i64 k ∧ Below w.heap.size w wr) (fun i _ => 5 - (intOf i).toNat)
  case atStart => exact ⟨0, by omega, rfl, by first | exact HB2.out | exact bdrewN HB2.out _⟩
  case round =>
    obtain ⟨k, hk, rfl, hbel⟩ := hrel
    have HBR := Lib.hid hbel
    clear hbel
    by_cases hlt : k < 5
    · by_cases he : (k : Int) = s
      · go_wp2
        go_roundw
        case rel => exact ⟨k + 1, by omega, by go_num, by first | exact HBR.out | exact bdrewN HBR.out _⟩
        case measure => simp [intOf]; omega
      · have hkv : inV (k : Int) = true := by unfold inV; simp; omega
        have hne := stT_ne hkv he
        rw [HT.out] at hne
        obtain ⟨u, hu⟩ : ∃ u, stT (k : Int) = u := ⟨_, rfl⟩
        rw [hu] at hne
        have HU := Lib.hid hu
        clear hu hkv
        go_wp2_with fail
        (with_reducible refine (istt_any (k : Int) _).mono ?_)
        rintro e w3 ⟨rfl, rfl⟩
        rw [HU.out]
        go_wp2
        go_roundw
        case rel => exact ⟨k + 1, by omega, by go_num, by first | exact HBR.out | exact bdrewN HBR.out _⟩
        case measure => simp [intOf]; omega
    · by_cases hv : inV s = true
      · have hne := stT_some hv
        rw [HT.out] at hne
        have h5 := five hv
        have h6 : 0 ≤ s := by omega
        have h7 : s ≤ 4 := by omega
        clear h5 hv
        go_wp2_with fail
        (with_reducible refine (alive_any _).mono ?_)
        rintro e w3 ⟨rfl, rfl⟩
        go_wp2
        go_ret
        exact ⟨ret_bool (by simp; omega), by first | exact HBR.out | exact bdrewN HBR.out _⟩
      · have hv : inV s = false := by simpa using hv
        have h5 := inV_no hv
        have h6 := stT_none hv
        rw [HT.out] at h6
        subst h6
        clear hv
        rcases h5 with h5 | h5
        · go_wp2_with fail
          (with_reducible refine (alive_any _).mono ?_)
          rintro e w3 ⟨rfl, rfl⟩
          go_wp2
          go_ret
          exact ⟨rfl, by first | exact HBR.out | exact bdrewN HBR.out _⟩
        · have h6 : 0 ≤ s := by omega
          go_wp2_with fail
          (with_reducible refine (alive_any _).mono ?_)
          rintro e w3 ⟨rfl, rfl⟩
          go_wp2
          go_ret
          exact ⟨rfl, by first | exact HBR.out | exact bdrewN HBR.out _⟩

theorem run_last {hs : List Int} {k : Nat} {a : Int} (h : hs[k]? = some a) (hn : hs.length = k + 1) (hv : runB hs = true) :
    runN hs = stepN (runN (hs.take k)) a ∧ runM hs = (if stepB (runN (hs.take k)) a then runM (hs.take k) + 1 else runM (hs.take k)) := by
  have e : hs.take (k + 1) = hs := List.take_of_length_le (by omega)
  unfold runB at hv
  rw [Bool.and_eq_true, decide_eq_true_eq] at hv
  have h1 : (hs.take k).all inV = true := by
    rw [List.all_eq_true]
    exact fun x hx => List.all_eq_true.mp hv.2 x (List.mem_of_mem_take hx)
  have h2 := run_yes hv.1 hv.2
  have h3 := run_yes (hs := hs.take k) (by rw [List.length_take]; omega) h1
  have h4 := runF_more h
  rw [e] at h4
  rw [h2.1, h2.2, h3.1, h3.2, h4]
  exact ⟨rfl, rfl⟩
theorem runF_le (hs : List Int) : (runF hs).2 ≤ hs.length := by
  have : ∀ (l : List Int) (p : Int × Nat), (l.foldl runStep p).2 ≤ p.2 + l.length := by
    intro l
    induction l with
    | nil => intro p; exact Nat.le_refl _
    | cons a l ih =>
      intro p
      rw [List.foldl_cons, List.length_cons]
      refine Nat.le_trans (ih _) ?_
      unfold runStep
      show (if stepB p.1 a then p.2 + 1 else p.2) + _ ≤ _
      split <;> omega
  have h := this hs (0, 0)
  simpa [runF] using h
theorem runM_le (hs : List Int) : runM hs ≤ hs.length := by
  unfold runM
  split
  · exact runF_le hs
  · exact Nat.zero_le _
theorem runN_in {hs : List Int} (hv : runB hs = true) : 0 ≤ runN hs := by
  have key : ∀ (l : List Int) (p : Int × Nat), inV p.1 = true → l.all inV = true → inV (l.foldl runStep p).1 = true := by
    intro l
    induction l with
    | nil => intro p hp _; exact hp
    | cons a l ih =>
      intro p hp ha
      rw [List.all_cons, Bool.and_eq_true] at ha
      exact ih _ (step_in hp ha.1) ha.2
  have h1 : runN hs = (runF hs).1 := by unfold runN; rw [if_pos hv]
  unfold runB at hv
  rw [Bool.and_eq_true] at hv
  have := five (key hs (0, 0) rfl hv.2)
  rw [h1]
  show 0 ≤ (hs.foldl runStep (0, 0)).1
  omega

set_option maxHeartbeats 4000000 in
theorem walk_FnTransRun (a0 : Option Addr) (len0 cap0 : Nat) (z0 : List Int) (w : World) (w0 : IsBytes w a0 len0 cap0 z0) :
    Calls Try.prog 4 #[.slice a0 len0 cap0] w fun e w' => e = .returned (.bool true) ∧ Below w.heap.size w w' := by
  obtain ⟨hlc, hcm, hb⟩ := bytes_of w0
  have HB := Lib.hid hb
  have hcm' := hcm
  unfold maxLen at hcm'
  clear w0 hb
  by_cases hbig : (1048576 : Int) < len0
  · go_enter Try.func4, Try.ntmps4
    go_wp2
    go_ret
    exact ⟨rfl, Below.refl _ _⟩
  go_enter Try.func4, Try.ntmps4
  go_wp2_with fail
  refine (drawXr_any _ _ _ _ hlc hcm HB.out).mono ?_
  rintro e w1 ⟨A, n, c, hs, hnc, hn, hn21, hr, rfl, hb1⟩
  have HB1 := Lib.hid hb1
  have HR1 := Lib.hid hr
  have HN := Lib.hid hn
  clear hb1 hr hn
  obtain ⟨x, hx⟩ : ∃ x, runN hs = x := ⟨_, rfl⟩
  obtain ⟨m, hm⟩ : ∃ m, runM hs = m := ⟨_, rfl⟩
  have HX := Lib.hid hx
  have HM := Lib.hid hm
  have hmn : m ≤ n := by rw [← hm, HN.out]; exact runM_le hs
  clear hx hm
  go_wp2_with fail
  (with_reducible refine (irun_any A n c hs _ HN.out (by unfold maxLen; omega) HR1.out).mono ?_)
  rintro e w2 ⟨rfl, hb2⟩
  rw [HX.out, HM.out]
  have HR2 := Lib.hid ((HR1.out.below hb2 (Nat.le_refl _)).more hb2.size)
  have HB2 := Lib.hid (btrans HB1.out hb2)
  clear hb2
  go_wp2_with fail
  (with_reducible refine (srun_any A n c hs _ HN.out (by unfold maxLen; omega) HR2.out).mono ?_)
  rintro e w3 ⟨rfl, hb3⟩
  rw [HX.out, HM.out]
  have HR3 := Lib.hid ((HR2.out.below hb3 (Nat.le_refl _)).more hb3.size)
  have HB3 := Lib.hid (btrans HB2.out hb3)
  clear hb3
  by_cases hv : runB hs = true
  · have hx0 : 0 ≤ x := by have := runN_in hv; rw [HX.out] at this; exact this
    have HV := Lib.hid hv
    clear hv
    by_cases h0 : n = 0
    · have hs0 : hs = [] := List.eq_nil_of_length_eq_zero (by have := HN.out; omega)
      have hm0 : m = 0 := by omega
      subst hm0 h0
      go_wp2_with fail
      (with_reducible refine (alive_any _).mono ?_)
      rintro e w4 ⟨rfl, rfl⟩
      go_wp2
      go_ret
      exact ⟨rfl, HB3.out⟩
    · obtain ⟨k, rfl⟩ : ∃ k, n = k + 1 := ⟨n - 1, by omega⟩
      clear h0
      obtain ⟨b, off, rfl, hb, hcell⟩ := HR3.out.2 (by omega)
      obtain ⟨a, ha⟩ := get_of (k := k) HN.out (by omega)
      have hl := run_last ha HN.out.symm HV.out
      obtain ⟨x0, hx0'⟩ : ∃ x, runN (hs.take k) = x := ⟨_, rfl⟩
      obtain ⟨m0, hm0⟩ : ∃ m, runM (hs.take k) = m := ⟨_, rfl⟩
      obtain ⟨y, hy⟩ : ∃ y, stepB x0 a = y := ⟨_, rfl⟩
      rw [HX.out, HM.out, hx0', hm0, hy] at hl
      have HX0 := Lib.hid hx0'
      have HM0 := Lib.hid hm0
      have HY := Lib.hid hy
      have HL := Lib.hid hl.1.symm
      have hl2 := hl.2
      have c0 := int_cell hcell ha
      have HC := Lib.hid c0
      have HNK : Hid (k = (hs.take k).length) := Lib.hid (by have := HN.out; rw [List.length_take]; omega)
      have hsub : ((k + 1 : Nat) : Int) - 1 = k := by omega
      have hb0 : ((k : Int) + 1 == 0) = false := beq_eq_false_iff_ne.mpr (by omega)
      have hb1 : decide (x < 0) = false := decide_eq_false (by omega)
      have hb2 : (decide (x < 0) || (k : Int) + 1 == 0) = false := by rw [hb0, hb1]; rfl
      clear hl hx0' hm0 hy hcell ha hb
      cases y
      all_goals
        simp only [if_true, if_false, Bool.false_eq_true] at hl2
        subst hl2
        go_wp2_with fail
        (with_reducible refine (irun_any _ k c (hs.take k) _ HNK.out (by unfold maxLen; omega) (by have := HR3.out.upto (k := k) (by omega); rw [Nat.mul_one] at this; rw [show flat intC (hs.take k) = (flat intC hs).take (k * 1) from flat_take intC_len hs k, Nat.mul_one]; exact this)).mono ?_)
        rintro e w4 ⟨rfl, hb4⟩
        rw [HX0.out, HM0.out]
        have HB4 := Lib.hid (btrans HB3.out hb4)
        have c1 := (hb4.cell (p := ⟨b, off + k, none⟩) (by have := (HR3.out.2 (by omega)); obtain ⟨_, _, e1, e2, _⟩ := this; cases e1; exact e2)).trans HC.out
        clear hb4
        go_wp2_with fail
        (with_reducible refine (ist_is x0 a _ x HL.out HY.out _).mono ?_)
        rintro e w5 ⟨rfl, rfl⟩
        go_wp2
        go_ret
        exact ⟨ret_bool (by first | rfl | (simp; omega) | (have h9 : ∀ v : Int, (v == v + 1) = false := fun v => beq_eq_false_iff_ne.mpr (by omega); rw [h9]; simp; omega)), by first | exact HB4.out | exact bdrewN HB4.out _⟩
  · have hv : runB hs = false := by simpa using hv
    have hx1 : x = -1 := by rw [← HX.out]; unfold runN; rw [hv]; rfl
    have hm1 : m = 0 := by rw [← HM.out]; unfold runM; rw [hv]; rfl
    subst hx1 hm1
    clear hv
    go_wp2_with fail
    (with_reducible refine (alive_any _).mono ?_)
    rintro e w4 ⟨rfl, rfl⟩
    go_wp2
    go_ret
    exact ⟨rfl, HB3.out⟩
end Go.Proofs.Ytmgjgmbdfkkagaa
