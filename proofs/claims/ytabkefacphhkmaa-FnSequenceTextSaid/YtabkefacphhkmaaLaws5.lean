/- The walks of the exact laws of chapter 5. -/
import Derived.Test.YtabkefacphhkmaaSeqR
import Derived.Test.YtabkefacphhkmaaSeqF
import Derived.Test.YtabkefacphhkmaaAlive
namespace Go.Proofs.Ytabkefacphhkmaa
open Go.RowKit
set_option linter.unusedVariables false
set_option maxRecDepth 20000

theorem szq_yes (a : ByteArray) (n l : Int) (w : World) (ha : a.size ≤ maxLen) (hl : l ≤ 1048576) (hs : a.size ≤ l) :
    Calls Try.prog 24 #[.agg #[.string a, .int .i64 n], .int .i64 l] w fun e w' => e = .returned (.int .i64 (l - (a.size : Int))) ∧ Below w.heap.size w w' := by
  unfold maxLen at ha
  have h1 : ¬ l - (a.size : Int) < 0 := by omega
  go_enter Try.func24, Try.ntmps24
  go_wp2
  go_ret
  exact ⟨rfl, (Below.refl _ _).alloc (Nat.le_refl _) _⟩
theorem szq_no (a : ByteArray) (n l : Int) (w : World) (ha : a.size ≤ maxLen) (h0 : 0 ≤ l) (hl : l ≤ 1048576) (hs : l < a.size) :
    Calls Try.prog 24 #[.agg #[.string a, .int .i64 n], .int .i64 l] w fun e w' => e = .returned (.int .i64 (-1)) ∧ Below w.heap.size w w' := by
  unfold maxLen at ha
  have h1 : l - (a.size : Int) < 0 := by omega
  go_enter Try.func24, Try.ntmps24
  go_wp2
  go_ret
  exact ⟨rfl, (Below.refl _ _).alloc (Nat.le_refl _) _⟩
theorem toq_any (a : ByteArray) (n : Int) (w : World) :
    Calls Try.prog 25 #[.agg #[.string a, .int .i64 n]] w fun e w' => e = .returned (.agg #[.string a, .int .i64 n]) ∧ Below w.heap.size w w' := by
  go_enter Try.func25, Try.ntmps25
  go_wp2
  refine bodyPost_ret (v := .agg #[.string a, .int .i64 n]) (by simp [results, Try.results25, go_sem]) rfl ⟨rfl, ?_⟩
  repeat (first | exact Below.refl _ _ | refine Below.setCell ?_ (by simp <;> omega) _ | refine Below.alloc ?_ (by simp <;> omega) _)
theorem eqq_same (a : ByteArray) (n : Int) (w : World) :
    Calls Try.prog 26 #[.agg #[.string a, .int .i64 n], .agg #[.string a, .int .i64 n]] w fun e w' => e = .returned (.bool true) ∧ Below w.heap.size w w' := by
  go_enter Try.func26, Try.ntmps26
  go_wp2
  go_ret
  refine ⟨rfl, ?_⟩
  repeat (first | exact Below.refl _ _ | refine Below.setCell ?_ (by simp <;> omega) _ | refine Below.alloc ?_ (by simp <;> omega) _)

set_option maxHeartbeats 1000000 in
theorem walk_FnExactSequenceValid (a : ByteArray) (ha : a.size ≤ maxLen) (n : Int) (hn : (Lit.int .i64 n).wf = true) (w : World) :
    Calls Try.prog 7 #[.agg #[.string a, .int .i64 n]] w fun e w' => e = .returned (.bool true) ∧ Below w.heap.size w w' := by
  have HA := Lib.hid ha
  have HB0 := Lib.hid (bnew w (.cells #[.string a, .int .i64 n] 36))
  have BX0 := Lib.hid (Holds.new w 36 #[.string a, .int .i64 n])
  clear ha hn
  by_cases hsz : a.size ≤ 1048576
  · have hp : ¬ (1048576 : Int) - (a.size : Int) < 0 := by omega
    go_enter Try.func7, Try.ntmps7
    go_wp2_with fail
    refine (szq_yes _ _ _ _ HA.out (by omega) (by omega)).mono ?_
    rintro e w1 ⟨rfl, hb1⟩
    have HB1 := Lib.hid (btrans HB0.out hb1)
    have BX1 := Lib.hid (BX0.out.call hb1)
    clear hb1
    have c0 := BX1.out.cell 0 _ rfl
    have c1 := BX1.out.cell 1 _ rfl
    go_wp2_with fail
    refine (toq_any _ _ _).mono ?_
    rintro e w2 ⟨rfl, hb2⟩
    have HB2 := Lib.hid (btrans HB1.out hb2)
    have BX2 := Lib.hid (BX1.out.call hb2)
    clear hb2 c0 c1
    have c0 := BX2.out.cell 0 _ rfl
    have c1 := BX2.out.cell 1 _ rfl
    go_wp2_with fail
    refine (ssq_any _ _ _ HA.out).mono ?_
    rintro e w3 ⟨rfl, hb3⟩
    have HB3 := Lib.hid (btrans HB2.out hb3)
    have BX3 := Lib.hid (BX2.out.call hb3)
    clear hb3 c0 c1
    have c0 := BX3.out.cell 0 _ rfl
    have c1 := BX3.out.cell 1 _ rfl
    go_wp2_with fail
    refine (toq_any _ _ _).mono ?_
    rintro e w4 ⟨rfl, hb4⟩
    have HB4 := Lib.hid (btrans HB3.out hb4)
    have BX4 := Lib.hid (BX3.out.call hb4)
    clear hb4 c0 c1
    have c0 := BX4.out.cell 0 _ rfl
    have c1 := BX4.out.cell 1 _ rfl
    go_wp2_with fail
    refine (isq_any _ _ _ HA.out).mono ?_
    rintro e w5 ⟨rfl, hb5⟩
    have HB5 := Lib.hid (btrans HB4.out hb5)
    have BX5 := Lib.hid (BX4.out.call hb5)
    clear hb5 c0 c1
    have c0 := BX5.out.cell 0 _ rfl
    have c1 := BX5.out.cell 1 _ rfl
    go_wp2
    go_ret
    exact ⟨rfl, HB5.out⟩
  · go_enter Try.func7, Try.ntmps7
    go_wp2_with fail
    refine (szq_no _ _ _ _ HA.out (by omega) (by omega) (by omega)).mono ?_
    rintro e w1 ⟨rfl, hb1⟩
    have HB1 := Lib.hid (btrans HB0.out hb1)
    clear hb1
    go_wp2
    go_ret
    exact ⟨rfl, HB1.out⟩

set_option maxHeartbeats 1000000 in
theorem walk_FnExactSequenceText (a : ByteArray) (ha : a.size ≤ maxLen) (n : Int) (hn : (Lit.int .i64 n).wf = true) (w : World) :
    Calls Try.prog 8 #[.agg #[.string a, .int .i64 n]] w fun e w' => e = .returned (.bool true) ∧ Below w.heap.size w w' := by
  have HA := Lib.hid ha
  have HB0 := Lib.hid (bnew w (.cells #[.string a, .int .i64 n] 36))
  have BX0 := Lib.hid (Holds.new w 36 #[.string a, .int .i64 n])
  clear ha hn
  by_cases hsz : a.size ≤ 1048576
  · have hp : ¬ (1048576 : Int) - (a.size : Int) < 0 := by omega
    go_enter Try.func8, Try.ntmps8
    go_wp2_with fail
    refine (szq_yes _ _ _ _ HA.out (by omega) (by omega)).mono ?_
    rintro e w1 ⟨rfl, hb1⟩
    have HB1 := Lib.hid (btrans HB0.out hb1)
    have BX1 := Lib.hid (BX0.out.call hb1)
    clear hb1
    have c0 := BX1.out.cell 0 _ rfl
    have c1 := BX1.out.cell 1 _ rfl
    go_wp2_with fail
    refine (toq_any _ _ _).mono ?_
    rintro e w2 ⟨rfl, hb2⟩
    have HB2 := Lib.hid (btrans HB1.out hb2)
    have BX2 := Lib.hid (BX1.out.call hb2)
    clear hb2 c0 c1
    have c0 := BX2.out.cell 0 _ rfl
    have c1 := BX2.out.cell 1 _ rfl
    go_wp2_with fail
    refine (stq_any _ _ _ HA.out).mono ?_
    rintro e w3 ⟨rfl, hb3⟩
    have HB3 := Lib.hid (btrans HB2.out hb3)
    have BX3 := Lib.hid (BX2.out.call hb3)
    clear hb3 c0 c1
    have c0 := BX3.out.cell 0 _ rfl
    have c1 := BX3.out.cell 1 _ rfl
    go_wp2_with fail
    refine (toq_any _ _ _).mono ?_
    rintro e w4 ⟨rfl, hb4⟩
    have HB4 := Lib.hid (btrans HB3.out hb4)
    have BX4 := Lib.hid (BX3.out.call hb4)
    clear hb4 c0 c1
    have c0 := BX4.out.cell 0 _ rfl
    have c1 := BX4.out.cell 1 _ rfl
    go_wp2_with fail
    refine (itq_any _ _ _ HA.out).mono ?_
    rintro e w5 ⟨rfl, hb5⟩
    have HB5 := Lib.hid (btrans HB4.out hb5)
    have BX5 := Lib.hid (BX4.out.call hb5)
    clear hb5 c0 c1
    have c0 := BX5.out.cell 0 _ rfl
    have c1 := BX5.out.cell 1 _ rfl
    go_wp2
    go_ret
    exact ⟨rfl, HB5.out⟩
  · go_enter Try.func8, Try.ntmps8
    go_wp2_with fail
    refine (szq_no _ _ _ _ HA.out (by omega) (by omega) (by omega)).mono ?_
    rintro e w1 ⟨rfl, hb1⟩
    have HB1 := Lib.hid (btrans HB0.out hb1)
    clear hb1
    go_wp2
    go_ret
    exact ⟨rfl, HB1.out⟩

/-- What is read, its two fields. -/
def rA (v : Bool) (s : ByteArray) : ByteArray := if v = true then seqA s else ⟨#[]⟩
def rN (v : Bool) (s : ByteArray) : Int := if v = true then seqN s else 0
theorem rseqV_is (v : Bool) (s : ByteArray) : rseqV v s = .tuple #[.agg #[.string (rA v s), .int .i64 (rN v s)], .bool v] := by
  cases v <;> rfl
set_option maxHeartbeats 1000000 in
theorem walk_FnExactReadSequence (s : ByteArray) (hs : s.size ≤ maxLen) (w : World) :
    Calls Try.prog 9 #[.string s] w fun e w' => e = .returned (.bool true) ∧ Below w.heap.size w w' := by
  have HS := Lib.hid hs
  unfold maxLen at hs
  by_cases h : (1048576 : Int) < s.size
  · go_enter Try.func9, Try.ntmps9
    go_wp2
    go_ret
    exact ⟨rfl, Below.refl _ _⟩
  · have HI : Hid (∀ W : World, Calls Try.prog 18 #[.string s] W fun e w' => e = .returned (.tuple #[.agg #[.string (rA (rseqB s) s), .int .i64 (rN (rseqB s) s)], .bool (rseqB s)]) ∧ Below W.heap.size W w') := Lib.hid (fun W => by
      have := irq_any s W HS.out; rw [rseqV_is] at this; exact this)
    have HP : Hid (∀ W : World, Calls Try.prog 20 #[.string s] W fun e w' => e = .returned (.tuple #[.agg #[.string (rA (rseqB s) s), .int .i64 (rN (rseqB s) s)], .bool (rseqB s)]) ∧ Below W.heap.size W w') := Lib.hid (fun W => by
      have := srq_any s W (by omega); rw [rseqV_is] at this; exact this)
    obtain ⟨A, hA⟩ : ∃ A, rA (rseqB s) s = A := ⟨_, rfl⟩
    obtain ⟨N, hN⟩ : ∃ N, rN (rseqB s) s = N := ⟨_, rfl⟩
    rw [hA, hN] at HI HP
    clear hA hN
    go_enter Try.func9, Try.ntmps9
    go_wp2_with fail
    refine (HP.out _).mono ?_
    rintro e w1 ⟨rfl, hb1⟩
    have HB1 := Lib.hid (balloc hb1 (.cells #[.string A, .int .i64 N] 24))
    have BX1 := Lib.hid (Holds.new w1 24 #[.string A, .int .i64 N])
    clear hb1
    go_wp2_with fail
    refine (HI.out _).mono ?_
    rintro e w2 ⟨rfl, hb2⟩
    have HB2 := Lib.hid (balloc (btrans HB1.out hb2) (.cells #[.string A, .int .i64 N] 24))
    have BX2 := Lib.hid ((BX1.out.call hb2).alloc (.cells #[.string A, .int .i64 N] 24))
    clear hb2
    have c0 := BX2.out.cell 0 _ rfl
    have c1 := BX2.out.cell 1 _ rfl
    go_wp2_with fail
    refine (eqq_same _ _ _).mono ?_
    rintro e w3 ⟨rfl, hb3⟩
    go_wp2
    go_ret
    exact ⟨rfl, btrans HB2.out hb3⟩

set_option maxHeartbeats 2000000 in
theorem walk_FnExactSequenceFits (a : ByteArray) (ha : a.size ≤ maxLen) (n : Int) (hn : (Lit.int .i64 n).wf = true) (b : ByteArray) (hb : b.size ≤ maxLen) (m : Int) (hm : (Lit.int .i64 m).wf = true) (w : World) :
    Calls Try.prog 10 #[.agg #[.string a, .int .i64 n], .agg #[.string b, .int .i64 m]] w fun e w' => e = .returned (.bool true) ∧ Below w.heap.size w w' := by
  have HA := Lib.hid ha
  have HBm := Lib.hid hb
  have BX0 := Lib.hid ((Holds.new w 36 #[.string a, .int .i64 n]).alloc (.cells #[.string b, .int .i64 m] 36))
  have BY0 := Lib.hid (Holds.new (w.alloc (.cells #[.string a, .int .i64 n] 36)) 36 #[.string b, .int .i64 m])
  have HB0 := Lib.hid (balloc (bnew w (.cells #[.string a, .int .i64 n] 36)) (.cells #[.string b, .int .i64 m] 36))
  rw [World.size_alloc] at BY0
  clear ha hb hn hm
  go_enter Try.func10, Try.ntmps10
  go_wp2_with fail
  by_cases hsz : a.size ≤ 1048576
  · have hp : ¬ (1048576 : Int) - (a.size : Int) < 0 := by omega
    refine (szq_yes _ _ _ _ HA.out (by omega) (by omega)).mono ?_
    rintro e w1 ⟨rfl, hb1⟩
    have HB1 := Lib.hid (btrans HB0.out hb1)
    have BX1 := Lib.hid (BX0.out.call hb1)
    have BY1 := Lib.hid (BY0.out.call hb1)
    clear hb1
    have c0 := BX1.out.cell 0 _ rfl
    have c1 := BX1.out.cell 1 _ rfl
    have d0 := BY1.out.cell 0 _ rfl
    have d1 := BY1.out.cell 1 _ rfl
    go_wp2_with fail
    by_cases hsz2 : (b.size : Int) ≤ 1048576 - a.size
    · have hp2 : ¬ (1048576 : Int) - (a.size : Int) - (b.size : Int) < 0 := by omega
      refine (szq_yes _ _ _ _ HBm.out (by omega) (by omega)).mono ?_
      rintro e w2 ⟨rfl, hb2⟩
      have HB2 := Lib.hid (btrans HB1.out hb2)
      have BX2 := Lib.hid (BX1.out.call hb2)
      have BY2 := Lib.hid (BY1.out.call hb2)
      clear hb2 c0 c1 d0 d1
      have c0 := BX2.out.cell 0 _ rfl
      have c1 := BX2.out.cell 1 _ rfl
      have d0 := BY2.out.cell 0 _ rfl
      have d1 := BY2.out.cell 1 _ rfl
      go_wp2
      go_region_held3 (fun w' => (w'.cell? ⟨w.heap.size, 0, none⟩ = some (.string a) ∧ w'.cell? ⟨w.heap.size, 1, none⟩ = some (.int .i64 n)) ∧ w'.cell? ⟨w.heap.size + 1, 0, none⟩ = some (.string b) ∧ w'.cell? ⟨w.heap.size + 1, 1, none⟩ = some (.int .i64 m))
        (first | exact ⟨⟨BX5.out.cell 0 (.string a) rfl, BX5.out.cell 1 (.int .i64 n) rfl⟩, BY5.out.cell 0 (.string b) rfl, BY5.out.cell 1 (.int .i64 m) rfl⟩ | exact ⟨⟨BX4.out.cell 0 (.string a) rfl, BX4.out.cell 1 (.int .i64 n) rfl⟩, BY4.out.cell 0 (.string b) rfl, BY4.out.cell 1 (.int .i64 m) rfl⟩ | exact ⟨⟨BX3.out.cell 0 (.string a) rfl, BX3.out.cell 1 (.int .i64 n) rfl⟩, BY3.out.cell 0 (.string b) rfl, BY3.out.cell 1 (.int .i64 m) rfl⟩ | go_keep)
        (first | (go_at_call 25; (with_reducible refine (toq_any b m _).mono ?_); rintro e w4 ⟨rfl, hb4⟩; have HB4 := Lib.hid (btrans (HB3.out) hb4); have BX4 := Lib.hid (BX3.out.call hb4); have BY4 := Lib.hid (BY3.out.call hb4); clear hb4) | (go_at_call 25; (with_reducible refine (toq_any a n _).mono ?_); rintro e w3 ⟨rfl, hb3⟩; have HB3 := Lib.hid (btrans (bdrew HB2.out) hb3); have BX3 := Lib.hid (BX2.out.drew.call hb3); have BY3 := Lib.hid (BY2.out.drew.call hb3); clear hb3) | (go_at_call 23; (with_reducible refine (sfq_any _ _ _ _ _ HA.out HBm.out).mono ?_); rintro e w5 ⟨rfl, hb5⟩; have HB5 := Lib.hid (btrans (HB4.out) hb5); have BX5 := Lib.hid (BX4.out.call hb5); have BY5 := Lib.hid (BY4.out.call hb5); clear hb5))
      clear c0 c1 d0 d1
      have c0 := BX5.out.cell 0 _ rfl
      have c1 := BX5.out.cell 1 _ rfl
      have d0 := BY5.out.cell 0 _ rfl
      have d1 := BY5.out.cell 1 _ rfl
      go_wp2
      go_region_held3 (fun w' => (w'.cell? ⟨w.heap.size, 0, none⟩ = some (.string a) ∧ w'.cell? ⟨w.heap.size, 1, none⟩ = some (.int .i64 n)) ∧ w'.cell? ⟨w.heap.size + 1, 0, none⟩ = some (.string b) ∧ w'.cell? ⟨w.heap.size + 1, 1, none⟩ = some (.int .i64 m))
        (first | exact ⟨⟨BX8.out.cell 0 (.string a) rfl, BX8.out.cell 1 (.int .i64 n) rfl⟩, BY8.out.cell 0 (.string b) rfl, BY8.out.cell 1 (.int .i64 m) rfl⟩ | exact ⟨⟨BX7.out.cell 0 (.string a) rfl, BX7.out.cell 1 (.int .i64 n) rfl⟩, BY7.out.cell 0 (.string b) rfl, BY7.out.cell 1 (.int .i64 m) rfl⟩ | exact ⟨⟨BX6.out.cell 0 (.string a) rfl, BX6.out.cell 1 (.int .i64 n) rfl⟩, BY6.out.cell 0 (.string b) rfl, BY6.out.cell 1 (.int .i64 m) rfl⟩ | go_keep)
        (first | (go_at_call 25; (with_reducible refine (toq_any b m _).mono ?_); rintro e w7 ⟨rfl, hb7⟩; have HB7 := Lib.hid (btrans (HB6.out) hb7); have BX7 := Lib.hid (BX6.out.call hb7); have BY7 := Lib.hid (BY6.out.call hb7); clear hb7) | (go_at_call 25; (with_reducible refine (toq_any a n _).mono ?_); rintro e w6 ⟨rfl, hb6⟩; have HB6 := Lib.hid (btrans (bdrew HB5.out) hb6); have BX6 := Lib.hid (BX5.out.drew.call hb6); have BY6 := Lib.hid (BY5.out.drew.call hb6); clear hb6) | (go_at_call 22; (with_reducible refine (ifq_any _ _ _ _ _ HA.out HBm.out).mono ?_); rintro e w8 ⟨rfl, hb8⟩; have HB8 := Lib.hid (btrans (HB7.out) hb8); have BX8 := Lib.hid (BX7.out.call hb8); have BY8 := Lib.hid (BY7.out.call hb8); clear hb8))
      go_wp2
      go_ret
      exact ⟨rfl, HB8.out⟩
    · refine (szq_no _ _ _ _ HBm.out (by omega) (by omega) (by omega)).mono ?_
      rintro e w2 ⟨rfl, hb2⟩
      have HB2 := Lib.hid (btrans HB1.out hb2)
      clear hb2
      go_wp2
      go_ret
      exact ⟨rfl, HB2.out⟩
  · refine (szq_no _ _ _ _ HA.out (by omega) (by omega) (by omega)).mono ?_
    rintro e w1 ⟨rfl, hb1⟩
    have HB1 := Lib.hid (btrans HB0.out hb1)
    clear hb1
    go_wp2
    go_ret
    exact ⟨rfl, HB1.out⟩
end Go.Proofs.Ytabkefacphhkmaa
