/- The walks of the laws of chapter 5 over drawn inputs. -/
import Derived.Test.YtabkefacphhkmaaLaws5
import Derived.Test.YtabkefacphhkmaaDrawQ
namespace Go.Proofs.Ytabkefacphhkmaa
open Go.RowKit
set_option linter.unusedVariables false
set_option maxRecDepth 20000

/-! What is read of the text of a valid sequence. -/
theorem numT_no32 (n : Nat) : ∀ c ∈ numT n, c ≠ 32 := by
  intro c hc e
  have := List.all_eq_true.mp (numT_all n) c hc
  subst e
  revert this
  decide
theorem seqT_list (a : ByteArray) (n : Int) (h1 : 1 ≤ n) (h2 : n ≤ 1000000) : (seqT a n).data.toList = numT n.toNat ++ 32 :: a.data.toList := by
  unfold seqT
  rw [cat_list, cat_list, textS_yes (by omega) h2]
  simp
theorem rseq_text {a : ByteArray} {n : Int} (h : seqB a n = true) : rseqB (seqT a n) = true ∧ seqA (seqT a n) = a ∧ seqN (seqT a n) = n := by
  obtain ⟨h1, h2, h3⟩ := seq_word h
  have e := seqT_list a n h2 h3
  have hsp : spL (seqT a n).data.toList = (numT n.toNat).length := by rw [e]; exact sp_app (numT_no32 _)
  have hA : seqA (seqT a n) = a := by
    unfold seqA
    rw [hsp, e]
    refine (str_of ?_).symm
    rw [show numT n.toNat ++ 32 :: a.data.toList = (numT n.toNat ++ [32]) ++ a.data.toList by simp, List.drop_left' (by simp)]
  have hN : seqN (seqT a n) = n := by
    unfold seqN
    rw [hsp, e, List.take_left' rfl, readN_numT _ (by omega)]
    omega
  refine ⟨?_, hA, hN⟩
  unfold rseqB
  rw [hA, hN, h, decide_eq_true]
  · rfl
  · rw [hsp]
    have : (seqT a n).data.toList.length = (seqT a n).size := by simp
    rw [← this, e, List.length_append, List.length_cons]
    omega
/-- The text of what was read. -/
theorem text_rseq {s : ByteArray} (h : rseqB s = true) : textQ (seqA s) (seqN s) = s := by
  unfold rseqB at h
  rw [Bool.and_eq_true, decide_eq_true_eq] at h
  obtain ⟨h1, h2⟩ := h
  obtain ⟨h3, h4, h5⟩ := seq_word h2
  unfold textQ
  rw [if_pos h2]
  refine (str_of (t := seqT _ _) (seqT_list _ _ h4 h5)).trans ?_
  refine (str_of ?_).symm
  have e1 : numT (seqN s).toNat = s.data.toList.take (spL s.data.toList) := by
    have h6 : readN (s.data.toList.take (spL s.data.toList)) = seqN s := rfl
    have h7 := textN_readN (s.data.toList.take (spL s.data.toList)) (by rw [h6]; omega)
    rw [h6] at h7
    unfold textN at h7
    rwa [if_pos (by omega)] at h7
  rw [e1, seqA_list]
  exact (sp_split _ (by simpa using h1)).1
theorem rseq_more {s : ByteArray} (h : rseqB s = true) : rseqB (s ++ ⟨#[32]⟩) = false := by
  unfold rseqB at h ⊢
  rw [Bool.and_eq_true, decide_eq_true_eq] at h
  obtain ⟨h1, h2⟩ := h
  rw [Bool.and_eq_false_iff]
  refine .inr ?_
  rw [Bool.eq_false_iff]
  intro h3
  have h4 := word_no32 (seq_word h3).1
  rw [seqA_list] at h4
  have e : (s ++ ⟨#[32]⟩ : ByteArray).data.toList = s.data.toList ++ [32] := by rw [cat_list]
  have h1' : spL s.data.toList < s.data.toList.length := by simpa using h1
  obtain ⟨h5, h6⟩ := sp_split _ h1'
  have hsp : spL (s ++ ⟨#[32]⟩ : ByteArray).data.toList = spL s.data.toList := by
    rw [e]
    conv => lhs; rw [h5]
    rw [List.append_assoc, List.cons_append, sp_app h6, List.length_take]
    omega
  rw [hsp, e, List.drop_append_of_le_length (by omega)] at h4
  exact h4 32 (by simp) rfl
/-! What fits. -/
theorem fits_self (a : ByteArray) (n : Int) : fitsI a n a n = if seqB a n = true then 0 else -1 := by
  unfold fitsI
  have h1 : decide (n < n) = false := decide_eq_false (by omega)
  have h2 : againB a a = true := by unfold againB; rw [beq_self_eq_true]; rfl
  rw [h1, h2, Bool.and_self, decide_eq_true (rfl : n = n)]
  rfl
theorem fits_back {a : ByteArray} {n : Int} {b : ByteArray} {m : Int} (h : fitsI a n b m = 1) : fitsI b m a n = -1 := by
  unfold fitsI at h ⊢
  have hlt : n < m := by
    split at h
    · split at h
      · rename_i h1
        simp only [Bool.and_eq_true, decide_eq_true_eq] at h1
        exact h1.1
      · split at h <;> cases h
    · cases h
  rw [decide_eq_false (show ¬ m < n by omega), decide_eq_false (show ¬ n = m by omega)]
  simp

set_option maxHeartbeats 2000000 in
theorem walk_FnSequenceValid (a0 : Option Addr) (len0 cap0 : Nat) (z0 : List Int) (w : World) (w0 : IsBytes w a0 len0 cap0 z0) :
    Calls Try.prog 3 #[.slice a0 len0 cap0] w fun e w' => e = .returned (.bool true) ∧ Below w.heap.size w w' := by
  obtain ⟨hlc, hcm, hb⟩ := bytes_of w0
  have HB := Lib.hid hb
  have hcm' := hcm
  unfold maxLen at hcm'
  clear w0 hb
  by_cases hbig : (1048576 : Int) < len0
  · go_enter Try.func3, Try.ntmps3
    go_wp2
    go_ret
    exact ⟨rfl, Below.refl _ _⟩
  go_enter Try.func3, Try.ntmps3
  go_wp2_with fail
  refine (drawQv_any _ _ _ _ hlc hcm HB.out).mono ?_
  rintro e w1 ⟨a, n, ha, hn1, hn2, rfl, hb1⟩
  have HB1 := Lib.hid (balloc hb1 (.cells #[.string a, .int .i64 n] 24))
  have BX1 := Lib.hid (Holds.new w1 24 #[.string a, .int .i64 n])
  have HA : Hid (a.size ≤ maxLen) := Lib.hid (by unfold maxLen; omega)
  clear hb1 ha
  have c0 := BX1.out.cell 0 (.string a) rfl
  have c1 := BX1.out.cell 1 (.int .i64 n) rfl
  obtain ⟨v, hv⟩ : ∃ v, seqB a n = v := ⟨_, rfl⟩
  have HV := Lib.hid hv
  have H0 : Hid (seqB a 0 = false) := Lib.hid (by unfold seqB; simp)
  have HZ : Hid (v = true → seqB a 1 = true) := Lib.hid (fun e => by
    rw [e] at hv
    unfold seqB
    rw [(seq_word hv).1]
    rfl)
  clear hv
  go_wp2_with fail
  (with_reducible refine (isq_is v a n _ HA.out HV.out).mono ?_)
  rintro e w2 ⟨rfl, hb2⟩
  have HB2 := Lib.hid (btrans HB1.out hb2)
  have BX2 := Lib.hid (BX1.out.call hb2)
  clear hb2 c0 c1
  have c0 := BX2.out.cell 0 (.string a) rfl
  have c1 := BX2.out.cell 1 (.int .i64 n) rfl
  go_wp2_with fail
  (with_reducible refine (ssq_is v a n _ HA.out HV.out).mono ?_)
  rintro e w3 ⟨rfl, hb3⟩
  have HB3 := Lib.hid (btrans HB2.out hb3)
  have BX3 := Lib.hid (BX2.out.call hb3)
  clear hb3 c0 c1
  have c0 := BX3.out.cell 0 (.string a) rfl
  have c1 := BX3.out.cell 1 (.int .i64 n) rfl
  cases v
  · go_wp2_with fail
    (with_reducible refine (isq_is false a 0 _ HA.out H0.out).mono ?_)
    rintro e w4 ⟨rfl, hb4⟩
    have HB4 := Lib.hid (btrans HB3.out hb4)
    have BX4 := Lib.hid (BX3.out.call hb4)
    clear hb4 c0 c1
    have c0 := BX4.out.cell 0 (.string a) rfl
    have c1 := BX4.out.cell 1 (.int .i64 n) rfl
    go_wp2_with fail
    refine (alive_any _).mono ?_
    rintro e w9 ⟨rfl, rfl⟩
    go_wp2
    go_ret
    exact ⟨rfl, HB4.out⟩
  · have H1 := Lib.hid (HZ.out rfl)
    go_wp2_with fail
    (with_reducible refine (isq_is false a 0 _ HA.out H0.out).mono ?_)
    rintro e w4 ⟨rfl, hb4⟩
    have HB4 := Lib.hid (btrans HB3.out hb4)
    have BX4 := Lib.hid (BX3.out.call hb4)
    clear hb4 c0 c1
    have c0 := BX4.out.cell 0 (.string a) rfl
    have c1 := BX4.out.cell 1 (.int .i64 n) rfl
    go_wp2_with fail
    (with_reducible refine (isq_is true a 1 _ HA.out H1.out).mono ?_)
    rintro e w5 ⟨rfl, hb5⟩
    have HB5 := Lib.hid (btrans HB4.out hb5)
    have BX5 := Lib.hid (BX4.out.call hb5)
    clear hb5 c0 c1
    have c0 := BX5.out.cell 0 (.string a) rfl
    have c1 := BX5.out.cell 1 (.int .i64 n) rfl
    go_wp2_with fail
    refine (alive_any _).mono ?_
    rintro e w9 ⟨rfl, rfl⟩
    go_wp2
    go_ret
    exact ⟨rfl, HB5.out⟩

set_option maxHeartbeats 2000000 in
theorem walk_FnSequenceText (a0 : Option Addr) (len0 cap0 : Nat) (z0 : List Int) (w : World) (w0 : IsBytes w a0 len0 cap0 z0) :
    Calls Try.prog 4 #[.slice a0 len0 cap0] w fun e w' => e = .returned (.bool true) ∧ Below w.heap.size w w' := by
  obtain ⟨hlc, hcm, hb⟩ := bytes_of w0
  have HB := Lib.hid hb
  have hcm' := hcm
  unfold maxLen at hcm'
  clear w0 hb
  by_cases hbig : (1048576 : Int) < len0
  · go_enter Try.func4, Try.ntmps4
    go_wp2
    go_ret
    exact ⟨rfl, Below.refl _ _⟩
  go_enter Try.func4, Try.ntmps4
  go_wp2_with fail
  refine (drawQt_any _ _ _ _ hlc hcm HB.out).mono ?_
  rintro e w1 ⟨a, n, ha, hn1, hn2, rfl, hb1⟩
  have HB1 := Lib.hid (balloc hb1 (.cells #[.string a, .int .i64 n] 24))
  have BX1 := Lib.hid (Holds.new w1 24 #[.string a, .int .i64 n])
  have HA : Hid (a.size ≤ maxLen) := Lib.hid (by unfold maxLen; omega)
  clear hb1 ha
  have c0 := BX1.out.cell 0 (.string a) rfl
  have c1 := BX1.out.cell 1 (.int .i64 n) rfl
  have HT : Hid (∀ W : World, Calls Try.prog 18 #[.string (textQ a n)] W fun e w' => e = .returned (rseqV (rseqB (textQ a n)) (textQ a n)) ∧ Below W.heap.size W w') := Lib.hid (fun W => irq_any _ W (by have := textQ_size a n; unfold maxLen; omega))
  by_cases hv : seqB a n = true
  · have HV := Lib.hid hv
    have hr := rseq_text hv
    have HQ : Hid (∀ W : World, Calls Try.prog 18 #[.string (textQ a n)] W fun e w' => e = .returned (.tuple #[.agg #[.string a, .int .i64 n], .bool true]) ∧ Below W.heap.size W w') := Lib.hid (fun W => by
      have := HT.out W
      rw [show textQ a n = seqT a n by unfold textQ; rw [if_pos hv], hr.1, rseqV_is, show rA true (seqT a n) = seqA (seqT a n) from rfl, show rN true (seqT a n) = seqN (seqT a n) from rfl, hr.2.1, hr.2.2] at this
      rw [show textQ a n = seqT a n by unfold textQ; rw [if_pos hv]]
      exact this)
    have hself : (a.toList == a.toList) = true := beq_self_eq_true _
    clear hv hr HT
    go_wp2_with fail
    (with_reducible refine (itq_any a n _ HA.out).mono ?_)
    rintro e w2 ⟨rfl, hb2⟩
    have HB2 := Lib.hid (btrans HB1.out hb2)
    have BX2 := Lib.hid (BX1.out.call hb2)
    clear hb2 c0 c1
    have c0 := BX2.out.cell 0 (.string a) rfl
    have c1 := BX2.out.cell 1 (.int .i64 n) rfl
    go_wp2_with fail
    (with_reducible refine (stq_any a n _ HA.out).mono ?_)
    rintro e w3 ⟨rfl, hb3⟩
    have HB3 := Lib.hid (btrans HB2.out hb3)
    have BX3 := Lib.hid (BX2.out.call hb3)
    clear hb3 c0 c1
    have c0 := BX3.out.cell 0 (.string a) rfl
    have c1 := BX3.out.cell 1 (.int .i64 n) rfl
    go_wp2_with fail
    (with_reducible refine (ssq_is true a n _ HA.out HV.out).mono ?_)
    rintro e w4 ⟨rfl, hb4⟩
    have HB4 := Lib.hid (btrans HB3.out hb4)
    have BX4 := Lib.hid (BX3.out.call hb4)
    clear hb4 c0 c1
    have c0 := BX4.out.cell 0 (.string a) rfl
    have c1 := BX4.out.cell 1 (.int .i64 n) rfl
    go_wp2_with fail
    (with_reducible refine (HQ.out _).mono ?_)
    rintro e w5 ⟨rfl, hb5⟩
    have HB5 := Lib.hid (balloc (btrans HB4.out hb5) (.cells #[.string a, .int .i64 n] 24))
    have BX5 := Lib.hid ((BX4.out.call hb5).alloc (.cells #[.string a, .int .i64 n] 24))
    clear hb5 c0 c1
    have c0 := BX5.out.cell 0 (.string a) rfl
    have c1 := BX5.out.cell 1 (.int .i64 n) rfl
    go_wp2
    go_ret
    exact ⟨rfl, HB5.out⟩
  · have hv : seqB a n = false := by simpa using hv
    have HV := Lib.hid hv
    have hE : textQ a n = ByteArray.empty := by unfold textQ; rw [hv]; rfl
    have HIE : Hid (∀ W : World, Calls Try.prog 16 #[.agg #[.string a, .int .i64 n]] W fun e w' => e = .returned (.string ByteArray.empty) ∧ Below W.heap.size W w') := Lib.hid (fun W => by
      have := itq_any a n W HA.out; rw [hE] at this; exact this)
    have HSE : Hid (∀ W : World, Calls Try.prog 17 #[.agg #[.string a, .int .i64 n]] W fun e w' => e = .returned (.string ByteArray.empty) ∧ Below W.heap.size W w') := Lib.hid (fun W => by
      have := stq_any a n W HA.out; rw [hE] at this; exact this)
    clear hv hE
    go_wp2_with fail
    (with_reducible refine (HIE.out _).mono ?_)
    rintro e w2 ⟨rfl, hb2⟩
    have HB2 := Lib.hid (btrans HB1.out hb2)
    have BX2 := Lib.hid (BX1.out.call hb2)
    clear hb2 c0 c1
    have c0 := BX2.out.cell 0 (.string a) rfl
    have c1 := BX2.out.cell 1 (.int .i64 n) rfl
    go_wp2_with fail
    (with_reducible refine (HSE.out _).mono ?_)
    rintro e w3 ⟨rfl, hb3⟩
    have HB3 := Lib.hid (btrans HB2.out hb3)
    have BX3 := Lib.hid (BX2.out.call hb3)
    clear hb3 c0 c1
    have c0 := BX3.out.cell 0 (.string a) rfl
    have c1 := BX3.out.cell 1 (.int .i64 n) rfl
    go_wp2_with fail
    (with_reducible refine (ssq_is false a n _ HA.out HV.out).mono ?_)
    rintro e w4 ⟨rfl, hb4⟩
    have HB4 := Lib.hid (btrans HB3.out hb4)
    have BX4 := Lib.hid (BX3.out.call hb4)
    clear hb4 c0 c1
    have c0 := BX4.out.cell 0 (.string a) rfl
    have c1 := BX4.out.cell 1 (.int .i64 n) rfl
    go_wp2_with fail
    refine (alive_any _).mono ?_
    rintro e w9 ⟨rfl, rfl⟩
    go_wp2
    go_ret
    exact ⟨rfl, HB4.out⟩

set_option maxHeartbeats 2000000 in
theorem walk_FnReadSequence (a0 : Option Addr) (len0 cap0 : Nat) (z0 : List Int) (w : World) (w0 : IsBytes w a0 len0 cap0 z0) :
    Calls Try.prog 5 #[.slice a0 len0 cap0] w fun e w' => e = .returned (.bool true) ∧ Below w.heap.size w w' := by
  obtain ⟨hlc, hcm, hb⟩ := bytes_of w0
  have HB := Lib.hid hb
  have hcm' := hcm
  unfold maxLen at hcm'
  clear w0 hb
  by_cases hbig : (1048576 : Int) < len0
  · go_enter Try.func5, Try.ntmps5
    go_wp2
    go_ret
    exact ⟨rfl, Below.refl _ _⟩
  go_enter Try.func5, Try.ntmps5
  go_wp2_with fail
  refine (drawQr_any _ _ _ _ hlc hcm HB.out).mono ?_
  rintro e w1 ⟨s, hs, rfl, hb1⟩
  have HB1 := Lib.hid hb1
  have HS : Hid (s.size ≤ maxLen) := Lib.hid (by unfold maxLen; omega)
  have HSm : Hid ((s ++ ⟨#[32]⟩).size ≤ maxLen) := Lib.hid (by rw [size_cat]; unfold maxLen; show _ + 1 ≤ _; omega)
  clear hb1
  have HI : Hid (∀ v, rseqB s = v → ∀ W : World, Calls Try.prog 18 #[.string s] W fun e w' => e = .returned (.tuple #[.agg #[.string (rA v s), .int .i64 (rN v s)], .bool v]) ∧ Below W.heap.size W w') := Lib.hid (fun v hv W => by
    have := irq_any s W HS.out; rw [rseqV_is, hv] at this; exact this)
  have HP : Hid (∀ v, rseqB s = v → ∀ W : World, Calls Try.prog 20 #[.string s] W fun e w' => e = .returned (.tuple #[.agg #[.string (rA v s), .int .i64 (rN v s)], .bool v]) ∧ Below W.heap.size W w') := Lib.hid (fun v hv W => by
    have := srq_any s W (by omega); rw [rseqV_is, hv] at this; exact this)
  by_cases hv : rseqB s = true
  · have HI1 := Lib.hid (HI.out true hv)
    have HP1 := Lib.hid (HP.out true hv)
    have HT : Hid (∀ W : World, Calls Try.prog 16 #[.agg #[.string (rA true s), .int .i64 (rN true s)]] W fun e w' => e = .returned (.string s) ∧ Below W.heap.size W w') := Lib.hid (fun W => by
      have := itq_any (seqA s) (seqN s) W (seqA_max s HS.out)
      rw [text_rseq hv] at this
      exact this)
    have HM : Hid (∀ W : World, Calls Try.prog 18 #[.string (s ++ ⟨#[32]⟩)] W fun e w' => e = .returned (.tuple #[.agg #[.string ⟨#[]⟩, .int .i64 0], .bool false]) ∧ Below W.heap.size W w') := Lib.hid (fun W => by
      have := irq_any _ W HSm.out
      rw [rseq_more hv] at this
      exact this)
    clear hv HI HP
    obtain ⟨a, ha⟩ : ∃ a, rA true s = a := ⟨_, rfl⟩
    obtain ⟨n, hn⟩ : ∃ n, rN true s = n := ⟨_, rfl⟩
    rw [ha, hn] at HI1 HP1 HT
    clear ha hn
    have hself : (a.toList == a.toList) = true := beq_self_eq_true _
    go_wp2_with fail
    (with_reducible refine (HI1.out _).mono ?_)
    rintro e w2 ⟨rfl, hb2⟩
    have HB2 := Lib.hid (balloc (btrans HB1.out hb2) (.cells #[.string a, .int .i64 n] 24))
    have BX2 := Lib.hid (Holds.new w2 24 #[.string a, .int .i64 n])
    clear hb2
    go_wp2_with fail
    (with_reducible refine (HP1.out _).mono ?_)
    rintro e w3 ⟨rfl, hb3⟩
    have HB3 := Lib.hid (balloc (btrans HB2.out hb3) (.cells #[.string a, .int .i64 n] 24))
    have BX3 := Lib.hid ((BX2.out.call hb3).alloc (.cells #[.string a, .int .i64 n] 24))
    clear hb3
    have c0 := BX3.out.cell 0 (.string a) rfl
    have c1 := BX3.out.cell 1 (.int .i64 n) rfl
    go_wp2_with fail
    (with_reducible refine (HM.out _).mono ?_)
    rintro e w4 ⟨rfl, hb4⟩
    have HB4 := Lib.hid (balloc (btrans HB3.out hb4) (.cells #[.string ⟨#[]⟩, .int .i64 0] 24))
    have BX4 := Lib.hid ((BX3.out.call hb4).alloc (.cells #[.string ⟨#[]⟩, .int .i64 0] 24))
    clear hb4 c0 c1
    have c0 := BX4.out.cell 0 (.string a) rfl
    have c1 := BX4.out.cell 1 (.int .i64 n) rfl
    go_wp2_with fail
    (with_reducible refine (HT.out _).mono ?_)
    rintro e w5 ⟨rfl, hb5⟩
    have HB5 := Lib.hid (btrans HB4.out hb5)
    clear hb5
    go_wp2
    go_ret
    exact ⟨rfl, HB5.out⟩
  · have hv : rseqB s = false := by simpa using hv
    have hi : ∀ W : World, Calls Try.prog 18 #[.string s] W fun e w' => e = .returned (.tuple #[.agg #[.string ⟨#[]⟩, .int .i64 0], .bool false]) ∧ Below W.heap.size W w' := HI.out false hv
    have hp : ∀ W : World, Calls Try.prog 20 #[.string s] W fun e w' => e = .returned (.tuple #[.agg #[.string ⟨#[]⟩, .int .i64 0], .bool false]) ∧ Below W.heap.size W w' := HP.out false hv
    have HI1 := Lib.hid hi
    have HP1 := Lib.hid hp
    clear hv HI HP hi hp
    go_wp2_with fail
    (with_reducible refine (HI1.out _).mono ?_)
    rintro e w2 ⟨rfl, hb2⟩
    have HB2 := Lib.hid (balloc (btrans HB1.out hb2) (.cells #[.string ⟨#[]⟩, .int .i64 0] 24))
    have BX2 := Lib.hid (Holds.new w2 24 #[.string ⟨#[]⟩, .int .i64 0])
    clear hb2
    go_wp2_with fail
    (with_reducible refine (HP1.out _).mono ?_)
    rintro e w3 ⟨rfl, hb3⟩
    have HB3 := Lib.hid (balloc (btrans HB2.out hb3) (.cells #[.string ⟨#[]⟩, .int .i64 0] 24))
    have BX3 := Lib.hid ((BX2.out.call hb3).alloc (.cells #[.string ⟨#[]⟩, .int .i64 0] 24))
    clear hb3
    have c0 := BX3.out.cell 0 (.string ⟨#[]⟩) rfl
    have c1 := BX3.out.cell 1 (.int .i64 0) rfl
    go_wp2_with fail
    refine (alive_any _).mono ?_
    rintro e w9 ⟨rfl, rfl⟩
    go_wp2
    go_ret
    exact ⟨rfl, HB3.out⟩

set_option maxHeartbeats 2000000 in
theorem walk_FnSequenceFits (a0 : Option Addr) (len0 cap0 : Nat) (z0 : List Int) (w : World) (w0 : IsBytes w a0 len0 cap0 z0) :
    Calls Try.prog 6 #[.slice a0 len0 cap0] w fun e w' => e = .returned (.bool true) ∧ Below w.heap.size w w' := by
  obtain ⟨hlc, hcm, hb⟩ := bytes_of w0
  have HB := Lib.hid hb
  have hcm' := hcm
  unfold maxLen at hcm'
  clear w0 hb
  by_cases hbig : (1048576 : Int) < len0
  · go_enter Try.func6, Try.ntmps6
    go_wp2
    go_ret
    exact ⟨rfl, Below.refl _ _⟩
  go_enter Try.func6, Try.ntmps6
  go_wp2_with fail
  refine (drawQf_any _ _ _ _ hlc hcm HB.out).mono ?_
  rintro e w1 ⟨a, n, b, m, ha, hb, rfl, hb1⟩
  have HB1 := Lib.hid (balloc (balloc hb1 (.cells #[.string a, .int .i64 n] 24)) (.cells #[.string b, .int .i64 m] 24))
  have BX1 := Lib.hid ((Holds.new w1 24 #[.string a, .int .i64 n]).alloc (.cells #[.string b, .int .i64 m] 24))
  have BY1 := Lib.hid (Holds.new (w1.alloc (.cells #[.string a, .int .i64 n] 24)) 24 #[.string b, .int .i64 m])
  rw [World.size_alloc] at BY1
  have HA : Hid (a.size ≤ maxLen) := Lib.hid (by unfold maxLen; omega)
  have HBm : Hid (b.size ≤ maxLen) := Lib.hid (by unfold maxLen; omega)
  clear hb1 ha hb
  have c0 := BX1.out.cell 0 (.string a) rfl
  have c1 := BX1.out.cell 1 (.int .i64 n) rfl
  have d0 := BY1.out.cell 0 (.string b) rfl
  have d1 := BY1.out.cell 1 (.int .i64 m) rfl
  obtain ⟨N, hN⟩ : ∃ N, fitsI a n b m = N := ⟨_, rfl⟩
  have HIF : Hid (∀ W : World, Calls Try.prog 22 #[.agg #[.string a, .int .i64 n], .agg #[.string b, .int .i64 m]] W fun e w' => e = .returned (.int .i64 N) ∧ Below W.heap.size W w') := Lib.hid (fun W => by
    have := ifq_any a n b m W HA.out HBm.out; rw [hN] at this; exact this)
  have HSF : Hid (∀ W : World, Calls Try.prog 23 #[.agg #[.string a, .int .i64 n], .agg #[.string b, .int .i64 m]] W fun e w' => e = .returned (.int .i64 N) ∧ Below W.heap.size W w') := Lib.hid (fun W => by
    have := sfq_any a n b m W HA.out HBm.out; rw [hN] at this; exact this)
  obtain ⟨v, hv⟩ : ∃ v, seqB b m = v := ⟨_, rfl⟩
  have HV := Lib.hid hv
  have HSELF : Hid (∀ W : World, Calls Try.prog 22 #[.agg #[.string b, .int .i64 m], .agg #[.string b, .int .i64 m]] W fun e w' => e = .returned (.int .i64 (if v = true then 0 else -1)) ∧ Below W.heap.size W w') := Lib.hid (fun W => by
    have := ifq_any b m b m W HBm.out HBm.out; rw [fits_self, hv] at this; exact this)
  have HBK : Hid (N = 1 → ∀ W : World, Calls Try.prog 22 #[.agg #[.string b, .int .i64 m], .agg #[.string a, .int .i64 n]] W fun e w' => e = .returned (.int .i64 (-1)) ∧ Below W.heap.size W w') := Lib.hid (fun h1 W => by
    have := ifq_any b m a n W HBm.out HA.out; rw [fits_back (hN.trans h1)] at this; exact this)
  clear hN hv
  go_wp2_with fail
  (with_reducible refine (HIF.out _).mono ?_)
  rintro e w2 ⟨rfl, hb2⟩
  have HB2 := Lib.hid (btrans HB1.out hb2)
  have BX2 := Lib.hid (BX1.out.call hb2)
  have BY2 := Lib.hid (BY1.out.call hb2)
  clear hb2 c0 c1 d0 d1
  have c0 := BX2.out.cell 0 (.string a) rfl
  have c1 := BX2.out.cell 1 (.int .i64 n) rfl
  have d0 := BY2.out.cell 0 (.string b) rfl
  have d1 := BY2.out.cell 1 (.int .i64 m) rfl
  go_wp2_with fail
  (with_reducible refine (HSF.out _).mono ?_)
  rintro e w3 ⟨rfl, hb3⟩
  have HB3 := Lib.hid (btrans HB2.out hb3)
  have BX3 := Lib.hid (BX2.out.call hb3)
  have BY3 := Lib.hid (BY2.out.call hb3)
  clear hb3 c0 c1 d0 d1
  have c0 := BX3.out.cell 0 (.string a) rfl
  have c1 := BX3.out.cell 1 (.int .i64 n) rfl
  have d0 := BY3.out.cell 0 (.string b) rfl
  have d1 := BY3.out.cell 1 (.int .i64 m) rfl
  go_wp2_with fail
  (with_reducible refine (isq_is v b m _ HBm.out HV.out).mono ?_)
  rintro e w4 ⟨rfl, hb4⟩
  have HB4 := Lib.hid (btrans HB3.out hb4)
  have BX4 := Lib.hid (BX3.out.call hb4)
  have BY4 := Lib.hid (BY3.out.call hb4)
  clear hb4 c0 c1 d0 d1
  have c0 := BX4.out.cell 0 (.string a) rfl
  have c1 := BX4.out.cell 1 (.int .i64 n) rfl
  have d0 := BY4.out.cell 0 (.string b) rfl
  have d1 := BY4.out.cell 1 (.int .i64 m) rfl
  cases v
  · have HSE : Hid (∀ W : World, Calls Try.prog 22 #[.agg #[.string b, .int .i64 m], .agg #[.string b, .int .i64 m]] W fun e w' => e = .returned (.int .i64 (-1)) ∧ Below W.heap.size W w') := Lib.hid HSELF.out
    clear HSELF
    go_wp2_with fail
    (with_reducible refine (HSE.out _).mono ?_)
    rintro e w5 ⟨rfl, hb5⟩
    have HB5 := Lib.hid (btrans HB4.out hb5)
    have BX5 := Lib.hid (BX4.out.call hb5)
    have BY5 := Lib.hid (BY4.out.call hb5)
    clear hb5 c0 c1 d0 d1
    have c0 := BX5.out.cell 0 (.string a) rfl
    have c1 := BX5.out.cell 1 (.int .i64 n) rfl
    have d0 := BY5.out.cell 0 (.string b) rfl
    have d1 := BY5.out.cell 1 (.int .i64 m) rfl
    by_cases h1 : N = 1
    · have HBK1 := Lib.hid (HBK.out h1)
      subst h1
      clear HBK
      go_wp2_with fail
      (with_reducible refine (HBK1.out _).mono ?_)
      rintro e w6 ⟨rfl, hb6⟩
      have HB6 := Lib.hid (btrans HB5.out hb6)
      have BX6 := Lib.hid (BX5.out.call hb6)
      have BY6 := Lib.hid (BY5.out.call hb6)
      clear hb6 c0 c1 d0 d1
      have c0 := BX6.out.cell 0 (.string a) rfl
      have c1 := BX6.out.cell 1 (.int .i64 n) rfl
      have d0 := BY6.out.cell 0 (.string b) rfl
      have d1 := BY6.out.cell 1 (.int .i64 m) rfl
      go_wp2_with fail
      refine (alive_any _).mono ?_
      rintro e w9 ⟨rfl, rfl⟩
      go_wp2
      go_ret
      exact ⟨rfl, HB6.out⟩
    · have h1b : (N == 1) = false := by rw [beq_eq_false_iff_ne]; exact h1
      have h1c : (N != 1) = true := by rw [bne_iff_ne]; exact h1
      clear HBK
      go_wp2_with fail
      refine (alive_any _).mono ?_
      rintro e w9 ⟨rfl, rfl⟩
      go_wp2
      go_ret
      exact ⟨rfl, HB5.out⟩
  · have HSE : Hid (∀ W : World, Calls Try.prog 22 #[.agg #[.string b, .int .i64 m], .agg #[.string b, .int .i64 m]] W fun e w' => e = .returned (.int .i64 0) ∧ Below W.heap.size W w') := Lib.hid HSELF.out
    clear HSELF
    go_wp2_with fail
    (with_reducible refine (HSE.out _).mono ?_)
    rintro e w5 ⟨rfl, hb5⟩
    have HB5 := Lib.hid (btrans HB4.out hb5)
    have BX5 := Lib.hid (BX4.out.call hb5)
    have BY5 := Lib.hid (BY4.out.call hb5)
    clear hb5 c0 c1 d0 d1
    have c0 := BX5.out.cell 0 (.string a) rfl
    have c1 := BX5.out.cell 1 (.int .i64 n) rfl
    have d0 := BY5.out.cell 0 (.string b) rfl
    have d1 := BY5.out.cell 1 (.int .i64 m) rfl
    by_cases h1 : N = 1
    · have HBK1 := Lib.hid (HBK.out h1)
      subst h1
      clear HBK
      go_wp2_with fail
      (with_reducible refine (HBK1.out _).mono ?_)
      rintro e w6 ⟨rfl, hb6⟩
      have HB6 := Lib.hid (btrans HB5.out hb6)
      have BX6 := Lib.hid (BX5.out.call hb6)
      have BY6 := Lib.hid (BY5.out.call hb6)
      clear hb6 c0 c1 d0 d1
      have c0 := BX6.out.cell 0 (.string a) rfl
      have c1 := BX6.out.cell 1 (.int .i64 n) rfl
      have d0 := BY6.out.cell 0 (.string b) rfl
      have d1 := BY6.out.cell 1 (.int .i64 m) rfl
      go_wp2_with fail
      refine (alive_any _).mono ?_
      rintro e w9 ⟨rfl, rfl⟩
      go_wp2
      go_ret
      exact ⟨rfl, HB6.out⟩
    · have h1b : (N == 1) = false := by rw [beq_eq_false_iff_ne]; exact h1
      have h1c : (N != 1) = true := by rw [bne_iff_ne]; exact h1
      clear HBK
      go_wp2_with fail
      refine (alive_any _).mono ?_
      rintro e w9 ⟨rfl, rfl⟩
      go_wp2
      go_ret
      exact ⟨rfl, HB5.out⟩
end Go.Proofs.Ytabkefacphhkmaa
