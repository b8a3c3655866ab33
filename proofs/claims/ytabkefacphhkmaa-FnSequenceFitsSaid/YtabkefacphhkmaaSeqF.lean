/- The contracts of the functions of chapter 5: what fits. -/
import Derived.Test.YtabkefacphhkmaaSeq
namespace Go.Proofs.Ytabkefacphhkmaa
open Go.RowKit
set_option linter.unusedVariables false
set_option maxRecDepth 20000

def partB (b : ByteArray) : Bool := (b.toList == [97, 99, 107]) || (b.toList == [99, 97, 110, 99, 101, 108])
def againB (a b : ByteArray) : Bool := (b.toList == a.toList) || ((a.toList == [105, 110, 118, 105, 116, 101]) && partB b)
/-- What a sequence is to another one. -/
def fitsI (a : ByteArray) (n : Int) (b : ByteArray) (m : Int) : Int :=
  if (seqB a n && seqB b m) = true then (if (decide (n < m) && !partB b) = true then 1 else if (decide (m = n) && againB a b) = true then 0 else -1) else -1
theorem ibt_any (b : ByteArray) (w : World) :
    Calls Try.prog 40 #[.string b] w fun e w' => e = .returned (.bool (partB b)) ∧ w = w' := by
  by_cases h : (b.toList == [97, 99, 107]) = true
  · go_enter Try.func40, Try.ntmps40
    go_wp2
    go_ret
    exact ⟨ret_bool (by unfold partB; rw [h]; rfl), rfl⟩
  · have h : (b.toList == [97, 99, 107]) = false := by simpa using h
    go_enter Try.func40, Try.ntmps40
    go_wp2
    go_ret
    exact ⟨ret_bool (by unfold partB; rw [h]; rfl), rfl⟩
theorem iaa_any (a b : ByteArray) (w : World) :
    Calls Try.prog 41 #[.string a, .string b] w fun e w' => e = .returned (.bool (againB a b)) ∧ w = w' := by
  by_cases h : (b.toList == a.toList) = true
  · go_enter Try.func41, Try.ntmps41
    go_wp2
    go_ret
    exact ⟨ret_bool (by unfold againB; rw [h]; rfl), rfl⟩
  · have h : (b.toList == a.toList) = false := by simpa using h
    by_cases h2 : (a.toList == [105, 110, 118, 105, 116, 101]) = true
    · go_enter Try.func41, Try.ntmps41
      go_wp2_with fail
      refine (ibt_any _ _).mono ?_
      rintro e w' ⟨rfl, rfl⟩
      go_wp2
      go_ret
      exact ⟨ret_bool (by unfold againB; rw [h, h2]; rfl), rfl⟩
    · have h2 : (a.toList == [105, 110, 118, 105, 116, 101]) = false := by simpa using h2
      go_enter Try.func41, Try.ntmps41
      go_wp2
      go_ret
      exact ⟨ret_bool (by unfold againB; rw [h, h2]; rfl), rfl⟩
theorem ibt_is (v : Bool) (b : ByteArray) (w : World) (h : partB b = v) :
    Calls Try.prog 40 #[.string b] w fun e w' => e = .returned (.bool v) ∧ w = w' := by
  have := ibt_any b w; rw [h] at this; exact this
theorem iaa_is (v : Bool) (a b : ByteArray) (w : World) (h : againB a b = v) :
    Calls Try.prog 41 #[.string a, .string b] w fun e w' => e = .returned (.bool v) ∧ w = w' := by
  have := iaa_any a b w; rw [h] at this; exact this

set_option maxHeartbeats 4000000 in
theorem ifq_any (a : ByteArray) (n : Int) (b : ByteArray) (m : Int) (w : World) (ha : a.size ≤ maxLen) (hb : b.size ≤ maxLen) :
    Calls Try.prog 22 #[.agg #[.string a, .int .i64 n], .agg #[.string b, .int .i64 m]] w fun e w' => e = .returned (.int .i64 (fitsI a n b m)) ∧ Below w.heap.size w w' := by
  have HA := Lib.hid ha
  have HBm := Lib.hid hb
  have BX0 := Lib.hid ((Holds.new w 24 #[.string a, .int .i64 n]).alloc (.cells #[.string b, .int .i64 m] 24))
  have BY0 := Lib.hid (Holds.new (w.alloc (.cells #[.string a, .int .i64 n] 24)) 24 #[.string b, .int .i64 m])
  have HB0 := Lib.hid (balloc (bnew w (.cells #[.string a, .int .i64 n] 24)) (.cells #[.string b, .int .i64 m] 24))
  clear ha hb
  obtain ⟨v1, hv1⟩ : ∃ v, seqB a n = v := ⟨_, rfl⟩
  obtain ⟨v2, hv2⟩ : ∃ v, seqB b m = v := ⟨_, rfl⟩
  obtain ⟨v3, hv3⟩ : ∃ v, partB b = v := ⟨_, rfl⟩
  obtain ⟨v4, hv4⟩ : ∃ v, againB a b = v := ⟨_, rfl⟩
  obtain ⟨N, hN⟩ : ∃ N, fitsI a n b m = N := ⟨_, rfl⟩
  have HFI : Hid (N = if (v1 && v2) = true then (if (decide (n < m) && !v3) = true then 1 else if (decide (m = n) && v4) = true then 0 else -1) else -1) := Lib.hid (by rw [← hN, ← hv1, ← hv2, ← hv3, ← hv4]; rfl)
  rw [hN]
  have H1 := Lib.hid hv1
  have H2 := Lib.hid hv2
  have H3 := Lib.hid hv3
  have H4 := Lib.hid hv4
  clear hv1 hv2 hv3 hv4 hN
  rw [World.size_alloc] at BY0
  go_enter Try.func22, Try.ntmps22
  go_wp2_with fail
  refine (isq_is v1 _ _ _ HA.out H1.out).mono ?_
  rintro e w1 ⟨rfl, hb1⟩
  have HB1 := Lib.hid (btrans HB0.out hb1)
  have BX1 := Lib.hid (BX0.out.call hb1)
  have BY1 := Lib.hid (BY0.out.call hb1)
  clear hb1
  have c0 := BX1.out.cell 0 _ rfl
  have c1 := BX1.out.cell 1 _ rfl
  have d0 := BY1.out.cell 0 _ rfl
  have d1 := BY1.out.cell 1 _ rfl
  cases v1
  · go_wp2
    go_ret
    exact ⟨ret_int (by rw [HFI.out]; rfl), HB1.out⟩
  go_wp2_with fail
  refine (isq_is v2 _ _ _ HBm.out H2.out).mono ?_
  rintro e w2 ⟨rfl, hb2⟩
  have HB2 := Lib.hid (btrans HB1.out hb2)
  have BX2 := Lib.hid (BX1.out.call hb2)
  have BY2 := Lib.hid (BY1.out.call hb2)
  clear hb2 c0 c1 d0 d1
  have c0 := BX2.out.cell 0 _ rfl
  have c1 := BX2.out.cell 1 _ rfl
  have d0 := BY2.out.cell 0 _ rfl
  have d1 := BY2.out.cell 1 _ rfl
  cases v2
  · go_wp2
    go_ret
    exact ⟨ret_int (by rw [HFI.out]; rfl), HB2.out⟩
  by_cases e1 : n < m
  · have e2 : ¬ m = n := by omega
    have e3 : (m == n) = false := by rw [beq_eq_false_iff_ne]; exact e2
    have HD : Hid (decide (n < m) = true ∧ decide (m = n) = false) := Lib.hid ⟨decide_eq_true e1, decide_eq_false e2⟩
    go_wp2_with fail
    refine (ibt_is v3 _ _ H3.out).mono ?_
    rintro e w' ⟨rfl, rfl⟩
    cases v3
    all_goals
      go_wp2
      go_ret
      exact ⟨ret_int (by rw [HFI.out, HD.out.1, HD.out.2]; rfl), HB2.out⟩
  · by_cases e2 : m = n
    · subst e2
      have e3 : (m == m) = true := beq_self_eq_true m
      have HD : Hid (decide (m < m) = false ∧ decide (m = m) = true) := Lib.hid ⟨decide_eq_false (by omega), decide_eq_true rfl⟩
      have e4 : decide (m < m) = false := decide_eq_false (by omega)
      clear e1
      go_wp2_with fail
      refine (iaa_is v4 _ _ _ H4.out).mono ?_
      rintro e w' ⟨rfl, rfl⟩
      cases v4
      all_goals
        go_wp2
        go_ret
        exact ⟨ret_int (by rw [HFI.out, HD.out.1, HD.out.2]; rfl), HB2.out⟩
    · have e3 : (m == n) = false := by rw [beq_eq_false_iff_ne]; exact e2
      have e4 : decide (n < m) = false := decide_eq_false e1
      have HD : Hid (decide (n < m) = false ∧ decide (m = n) = false) := Lib.hid ⟨decide_eq_false e1, decide_eq_false e2⟩
      go_wp2
      go_ret
      exact ⟨ret_int (by rw [HFI.out, HD.out.1, HD.out.2]; rfl), HB2.out⟩

set_option maxHeartbeats 4000000 in
theorem sfq_any (a : ByteArray) (n : Int) (b : ByteArray) (m : Int) (w : World) (ha : a.size ≤ maxLen) (hb : b.size ≤ maxLen) :
    Calls Try.prog 23 #[.agg #[.string a, .int .i64 n], .agg #[.string b, .int .i64 m]] w fun e w' => e = .returned (.int .i64 (fitsI a n b m)) ∧ Below w.heap.size w w' := by
  have HA := Lib.hid ha
  have HBm := Lib.hid hb
  have BX0 := Lib.hid ((Holds.new w 24 #[.string a, .int .i64 n]).alloc (.cells #[.string b, .int .i64 m] 24))
  have BY0 := Lib.hid (Holds.new (w.alloc (.cells #[.string a, .int .i64 n] 24)) 24 #[.string b, .int .i64 m])
  have HB0 := Lib.hid (balloc (bnew w (.cells #[.string a, .int .i64 n] 24)) (.cells #[.string b, .int .i64 m] 24))
  clear ha hb
  obtain ⟨v1, hv1⟩ : ∃ v, seqB a n = v := ⟨_, rfl⟩
  obtain ⟨v2, hv2⟩ : ∃ v, seqB b m = v := ⟨_, rfl⟩
  obtain ⟨x1, hx1⟩ : ∃ v, (b.toList == [97, 99, 107]) = v := ⟨_, rfl⟩
  obtain ⟨x2, hx2⟩ : ∃ v, (b.toList == [99, 97, 110, 99, 101, 108]) = v := ⟨_, rfl⟩
  obtain ⟨x3, hx3⟩ : ∃ v, (b.toList == a.toList) = v := ⟨_, rfl⟩
  obtain ⟨x4, hx4⟩ : ∃ v, (a.toList == [105, 110, 118, 105, 116, 101]) = v := ⟨_, rfl⟩
  obtain ⟨N, hN⟩ : ∃ N, fitsI a n b m = N := ⟨_, rfl⟩
  have HFI : Hid (N = if (v1 && v2) = true then (if (decide (n < m) && !(x1 || x2)) = true then 1 else if (decide (m = n) && (x3 || (x4 && (x1 || x2)))) = true then 0 else -1) else -1) := Lib.hid (by rw [← hN, ← hv1, ← hv2, ← hx1, ← hx2, ← hx3, ← hx4]; rfl)
  rw [hN]
  have H1 := Lib.hid hv1
  have H2 := Lib.hid hv2
  have X1 := Lib.hid hx1
  have X2 := Lib.hid hx2
  have X3 := Lib.hid hx3
  have X4 := Lib.hid hx4
  clear hv1 hv2 hx1 hx2 hx3 hx4 hN
  rw [World.size_alloc] at BY0
  go_enter Try.func23, Try.ntmps23
  go_wp2_with fail
  refine (ssq_is v1 _ _ _ HA.out H1.out).mono ?_
  rintro e w1 ⟨rfl, hb1⟩
  have HB1 := Lib.hid (btrans HB0.out hb1)
  have BX1 := Lib.hid (BX0.out.call hb1)
  have BY1 := Lib.hid (BY0.out.call hb1)
  clear hb1
  have c0 := BX1.out.cell 0 _ rfl
  have c1 := BX1.out.cell 1 _ rfl
  have d0 := BY1.out.cell 0 _ rfl
  have d1 := BY1.out.cell 1 _ rfl
  cases v1
  · go_wp2
    go_ret
    exact ⟨ret_int (by rw [HFI.out]; rfl), HB1.out⟩
  go_wp2_with fail
  refine (ssq_is v2 _ _ _ HBm.out H2.out).mono ?_
  rintro e w2 ⟨rfl, hb2⟩
  have HB2 := Lib.hid (btrans HB1.out hb2)
  have BX2 := Lib.hid (BX1.out.call hb2)
  have BY2 := Lib.hid (BY1.out.call hb2)
  clear hb2 c0 c1 d0 d1
  have c0 := BX2.out.cell 0 _ rfl
  have c1 := BX2.out.cell 1 _ rfl
  have d0 := BY2.out.cell 0 _ rfl
  have d1 := BY2.out.cell 1 _ rfl
  cases v2
  · go_wp2
    go_ret
    exact ⟨ret_int (by rw [HFI.out]; rfl), HB2.out⟩
  have g1 := X1.out
  have g2 := X2.out
  by_cases e1 : n < m
  · have e2 : ¬ m = n := by omega
    have e3 : (m == n) = false := by rw [beq_eq_false_iff_ne]; exact e2
    have HD : Hid (decide (n < m) = true ∧ decide (m = n) = false) := Lib.hid ⟨decide_eq_true e1, decide_eq_false e2⟩
    cases x1
    · cases x2
      all_goals
        go_wp2
        go_ret
        exact ⟨ret_int (by rw [HFI.out, HD.out.1, HD.out.2]; rfl), HB2.out⟩
    · go_wp2
      go_ret
      exact ⟨ret_int (by rw [HFI.out, HD.out.1, HD.out.2]; rfl), HB2.out⟩
  · have e4 : decide (n < m) = false := decide_eq_false e1
    by_cases e2 : m = n
    · subst e2
      have e3 : (m == m) = true := beq_self_eq_true m
      have HD : Hid (decide (m < m) = false ∧ decide (m = m) = true) := Lib.hid ⟨decide_eq_false (by omega), decide_eq_true rfl⟩
      have g3 := X3.out
      have g4 := X4.out
      clear e1
      cases x3
      · cases x1 <;> cases x2 <;> cases x4
        all_goals
          go_wp2
          go_ret
          exact ⟨ret_int (by rw [HFI.out, HD.out.1, HD.out.2]; rfl), HB2.out⟩
      · cases x1 <;> cases x2
        all_goals
          go_wp2
          go_ret
          exact ⟨ret_int (by rw [HFI.out, HD.out.1, HD.out.2]; rfl), HB2.out⟩
    · have e3 : (m == n) = false := by rw [beq_eq_false_iff_ne]; exact e2
      have HD : Hid (decide (n < m) = false ∧ decide (m = n) = false) := Lib.hid ⟨decide_eq_false e1, decide_eq_false e2⟩
      cases x1 <;> cases x2
      all_goals
        go_wp2
        go_ret
        exact ⟨ret_int (by rw [HFI.out, HD.out.1, HD.out.2]; rfl), HB2.out⟩
end Go.Proofs.Ytabkefacphhkmaa
