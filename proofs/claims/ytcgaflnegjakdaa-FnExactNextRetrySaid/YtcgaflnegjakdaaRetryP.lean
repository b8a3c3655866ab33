/- Chapter 7: waits, times, the next one: proofs. -/
import Derived.Test.YtcgaflnegjakdaaRetry
namespace Go.Proofs.Ytcgaflnegjakdaa.Mini
open Go Go.RowKit
set_option linter.unusedVariables false
set_option linter.unusedSimpArgs false
set_option maxRecDepth 20000
theorem waitN_step {k : Nat} (h : k < 3) : waitN k * 2 = waitN (k + 1) ∧ waitN k ≤ 2000 ∧ min 4000 (2 * waitN k) = waitN (k + 1) := by
  have : k = 0 ∨ k = 1 ∨ k = 2 := by omega
  rcases this with rfl | rfl | rfl <;> decide
theorem waitN_end {k : Nat} (h : 3 ≤ k) : waitN k = 4000 := by unfold waitN; repeat' split; all_goals omega
theorem waitN_in (k : Nat) : 500 ≤ waitN k ∧ waitN k ≤ 4000 := by unfold waitN; repeat' split; all_goals omega
theorem waitN_inc (k : Nat) : waitN k ≤ waitN (k + 1) ∧ waitN (k + 1) ≤ 2 * waitN k := by unfold waitN; repeat' split; all_goals omega
theorem atN_step (k : Nat) : atN (k + 1) = atN k + waitN k := by unfold atN waitN; repeat' split; all_goals omega
theorem atN_lt {u : Int} (h : 0 ≤ u) (h2 : u ≤ 32000) (k : Nat) : atN k < u ↔ k < cntT u := by
  unfold atN cntT; repeat' split
  all_goals omega
theorem tms_succ (k : Nat) : tms (k + 1) = tms k ++ [atN k] := by simp [tms, List.range_succ]
theorem tms_len (k : Nat) : (tms k).length = k := by simp [tms]
theorem tms_at {k i : Nat} (h : i < k) : (tms k)[i]? = some (atN i) := by simp [tms, h]
theorem cntT_le (u : Int) : cntT u ≤ 11 := by
  unfold cntT
  by_cases h : u ≤ 0 ∨ 32000 < u
  · rw [if_pos h]; omega
  · rw [if_neg h]; repeat' split
    all_goals omega
theorem cntT_out {u : Int} (h : ¬ (0 ≤ u ∧ u ≤ 32000)) : cntT u = 0 := by unfold cntT; rw [if_pos (by omega)]
theorem atN_in {k : Nat} (h : k ≤ 20) : 0 ≤ atN k ∧ atN k ≤ 100000 := by unfold atN; repeat' split; all_goals omega
theorem waitI_nat (k : Nat) : waitI (k : Int) = waitN k := by unfold waitI; rw [if_neg (by omega)]; rfl
theorem tms_take (k : Nat) : List.take k (ints (tms k)) = ints (tms k) := List.take_of_length_le (by rw [ints_len, tms_len]; omega)
theorem tms_push (k : Nat) : ints (tms k) ++ [D.int .i64 (atN k)] = ints (tms (k + 1)) := by rw [tms_succ]; simp [ints]
theorem tms_l (k : Nat) : (ints (tms k)).length = k := by rw [ints_len, tms_len]
theorem ok_iwait : FnOk Try.prog 10 s_iwait := by
  refine fnOk (fn := Try.f10) (F := F_iwait) (hs := hs_iwait) tab_nil mixed rfl rfl rfl [.int .i64] (by kernel_rfl) nofun ?_
  intro a0 _
  refine ⟨fun h ys => h = 0 ∧ ∃ k : Nat, ys = [.int .i64 a0, .int .i64 (waitN k), .int .i64 k] ∧ (k : Int) ≤ a0 ∧ k ≤ 3 ∧ 0 ≤ a0, fun h ys => 4 - (selI ys 2).toNat, ?_, ?_⟩
  · rw [t_iwait]
    simp only [Tree.holds, ltI_t, ltI_f, leI_t, leI_f, all_cons, all_nil, and_true, true_and, forall_eq, decide_eq_true_eq, decide_eq_false_iff_not, beq_iff_eq, beq_eq_false_iff_ne, bne_iff_ne, bne_eq_false_iff_eq, ne_eq, Decidable.not_not, selI_z, selB_z, selS_z, selN_z, selL_z, selI_s, selB_s, selS_s, selN_s, selL_s, Int.toNat_natCast, Nat.mul_one, Nat.zero_add, Nat.div_one, List.drop_zero, Nat.le_refl, Bool.not_eq_true', Bool.not_eq_false', Bool.false_eq_true, Bool.true_eq_false, not_true_eq_false, not_false_eq_true, false_imp_iff, true_imp_iff, if_true, if_false, sig, sigF, sigW]
    refine ⟨fun h => ret_int ?_, fun h => ⟨0, rfl, by omega, by omega, by omega⟩⟩
    unfold waitI; rw [if_pos h]
  · rintro h ys ⟨rfl, k, rfl, h1, h2, h3⟩
    rw [t_iwait0]
    simp only [Tree.holds, ltI_t, ltI_f, leI_t, leI_f, all_cons, all_nil, and_true, true_and, forall_eq, decide_eq_true_eq, decide_eq_false_iff_not, beq_iff_eq, beq_eq_false_iff_ne, bne_iff_ne, bne_eq_false_iff_eq, ne_eq, Decidable.not_not, selI_z, selB_z, selS_z, selN_z, selL_z, selI_s, selB_s, selS_s, selN_s, selL_s, Int.toNat_natCast, Nat.mul_one, Nat.zero_add, Nat.div_one, List.drop_zero, Nat.le_refl, Bool.not_eq_true', Bool.not_eq_false', Bool.false_eq_true, Bool.true_eq_false, not_true_eq_false, not_false_eq_true, false_imp_iff, true_imp_iff, if_true, if_false, sig, sigF, sigW]
    have hw := waitN_in k
    refine ⟨fun hk => ⟨fun hg => ret_int ?_, fun hg => ?_⟩, fun hk => ret_int ?_⟩
    · have : ¬ k < 3 := fun hlt => by have := (waitN_step hlt).2.1; omega
      unfold waitI; rw [if_neg (by omega), waitN_end (by omega)]
    · have hlt : k < 3 := Nat.lt_of_not_le fun hle => by have := waitN_end hle; omega
      obtain ⟨e1, e2, e3⟩ := waitN_step hlt
      refine ⟨by unfold inK; omega, by unfold inK; omega, ⟨k + 1, by rw [e1]; rfl, by omega, by omega, h3⟩, by omega⟩
    · unfold waitI; rw [if_neg (by omega), show a0.toNat = k by omega]
theorem ok_swait : FnOk Try.prog 11 s_swait := by
  refine fnOk (fn := Try.f11) (F := F_swait) (hs := hs_swait) tab_nil mixed rfl rfl rfl [.int .i64] (by kernel_rfl) nofun ?_
  intro a0 _
  refine ⟨fun h ys => h = 0 ∧ ∃ k : Nat, ys = [.int .i64 a0, .int .i64 (waitN k), .int .i64 k] ∧ (k : Int) ≤ a0 ∧ k ≤ 3 ∧ 0 ≤ a0, fun h ys => 4 - (selI ys 2).toNat, ?_, ?_⟩
  · rw [t_swait]
    simp only [Tree.holds, ltI_t, ltI_f, leI_t, leI_f, all_cons, all_nil, and_true, true_and, forall_eq, decide_eq_true_eq, decide_eq_false_iff_not, beq_iff_eq, beq_eq_false_iff_ne, bne_iff_ne, bne_eq_false_iff_eq, ne_eq, Decidable.not_not, selI_z, selB_z, selS_z, selN_z, selL_z, selI_s, selB_s, selS_s, selN_s, selL_s, Int.toNat_natCast, Nat.mul_one, Nat.zero_add, Nat.div_one, List.drop_zero, Nat.le_refl, Bool.not_eq_true', Bool.not_eq_false', Bool.false_eq_true, Bool.true_eq_false, not_true_eq_false, not_false_eq_true, false_imp_iff, true_imp_iff, if_true, if_false, sig, sigF, sigW]
    refine ⟨fun h => ret_int ?_, fun h => ⟨0, rfl, by omega, by omega, by omega⟩⟩
    unfold waitI; rw [if_pos h]
  · rintro h ys ⟨rfl, k, rfl, h1, h2, h3⟩
    rw [t_swait0]
    simp only [Tree.holds, ltI_t, ltI_f, leI_t, leI_f, all_cons, all_nil, and_true, true_and, forall_eq, decide_eq_true_eq, decide_eq_false_iff_not, beq_iff_eq, beq_eq_false_iff_ne, bne_iff_ne, bne_eq_false_iff_eq, ne_eq, Decidable.not_not, selI_z, selB_z, selS_z, selN_z, selL_z, selI_s, selB_s, selS_s, selN_s, selL_s, Int.toNat_natCast, Nat.mul_one, Nat.zero_add, Nat.div_one, List.drop_zero, Nat.le_refl, Bool.not_eq_true', Bool.not_eq_false', Bool.false_eq_true, Bool.true_eq_false, not_true_eq_false, not_false_eq_true, false_imp_iff, true_imp_iff, if_true, if_false, sig, sigF, sigW, Bool.false_eq_true, if_false]
    have hw := waitN_in k
    refine ⟨fun hk => ⟨fun hg => ?_, fun hg => ret_int ?_⟩, fun hk => ret_int ?_⟩
    · have hlt : k < 3 := Nat.lt_of_not_le fun hle => by have := waitN_end hle; omega
      obtain ⟨e1, e2, e3⟩ := waitN_step hlt
      refine ⟨by unfold inK; omega, by unfold inK; omega, ⟨k + 1, by rw [e3]; rfl, by omega, by omega, h3⟩, by omega⟩
    · have : ¬ k < 3 := fun hlt => by have := (waitN_step hlt).2.1; omega
      unfold waitI; rw [if_neg (by omega), waitN_end (by omega), waitN_end (by omega)]
    · unfold waitI; rw [if_neg (by omega), show a0.toNat = k by omega]
theorem ok_ivalid : FnOk Try.prog 26 s_ivalid := by
  refine fnOk (fn := Try.f26) (F := F_ivalid) (hs := hs_ivalid) tab_nil mixed rfl rfl rfl [.int .i64] (by kernel_rfl) nofun ?_
  intro a0 _
  refine ⟨fun _ _ => False, fun _ _ => 0, ?_, fun _ _ h => h.elim⟩
  rw [t_ivalid]
  simp only [Tree.holds, ltI_t, ltI_f, leI_t, leI_f, all_cons, all_nil, and_true, true_and, forall_eq, decide_eq_true_eq, decide_eq_false_iff_not, beq_iff_eq, beq_eq_false_iff_ne, bne_iff_ne, bne_eq_false_iff_eq, ne_eq, Decidable.not_not, selI_z, selB_z, selS_z, selN_z, selL_z, selI_s, selB_s, selS_s, selN_s, selL_s, Int.toNat_natCast, Nat.mul_one, Nat.zero_add, Nat.div_one, List.drop_zero, Nat.le_refl, Bool.not_eq_true', Bool.not_eq_false', Bool.false_eq_true, Bool.true_eq_false, not_true_eq_false, not_false_eq_true, false_imp_iff, true_imp_iff, if_true, if_false, sig, sigF, sigW]
  exact ⟨fun h => ret_bool' (by simp [inU, leI, h]), fun h => ret_bool' (by simp [inU, h])⟩
theorem ok_sin : FnOk Try.prog 27 s_sin := by
  refine fnOk (fn := Try.f27) (F := F_sin) (hs := hs_sin) tab_nil mixed rfl rfl rfl [.int .i64, .int .i64, .int .i64] (by kernel_rfl) nofun ?_
  intro a0 a1 a2 _
  refine ⟨fun _ _ => False, fun _ _ => 0, ?_, fun _ _ h => h.elim⟩
  rw [t_sin]
  simp only [Tree.holds, ltI_t, ltI_f, leI_t, leI_f, all_cons, all_nil, and_true, true_and, forall_eq, decide_eq_true_eq, decide_eq_false_iff_not, beq_iff_eq, beq_eq_false_iff_ne, bne_iff_ne, bne_eq_false_iff_eq, ne_eq, Decidable.not_not, selI_z, selB_z, selS_z, selN_z, selL_z, selI_s, selB_s, selS_s, selN_s, selL_s, Int.toNat_natCast, Nat.mul_one, Nat.zero_add, Nat.div_one, List.drop_zero, Nat.le_refl, Bool.not_eq_true', Bool.not_eq_false', Bool.false_eq_true, Bool.true_eq_false, not_true_eq_false, not_false_eq_true, false_imp_iff, true_imp_iff, if_true, if_false, sig, sigF, sigW]
  exact ⟨fun h => ret_bool' (by unfold inB; rw [decide_eq_true h]; rfl), fun h => ret_bool' (by unfold inB; rw [decide_eq_false h]; rfl)⟩
theorem ok_itimes : FnOk Try.prog 14 s_itimes := by
  refine fnOk (fn := Try.f14) (F := F_itimes) (hs := hs_itimes) (tab_cons ok_ivalid (tab_cons ok_iwait tab_nil)) mixed rfl rfl rfl [.int .i64] (by kernel_rfl) nofun ?_
  intro a0 _
  refine ⟨fun h ys => h = 0 ∧ ∃ k : Nat, ys = [.int .i64 a0, .int .i64 (0 : Nat), .int .i64 (k : Nat), .int .i64 (atN k), .int .i64 k, .list 3 0 (ints (tms k))] ∧ k ≤ cntT a0 ∧ inU a0 = true, fun h ys => 12 - (selI ys 4).toNat, ?_, ?_⟩
  · rw [t_itimes]
    simp only [F_itimes_ivalid, F_itimes_iwait, s_ivalid, s_iwait, Tree.holds, ltI_t, ltI_f, leI_t, leI_f, all_cons, all_nil, and_true, true_and, forall_eq, decide_eq_true_eq, decide_eq_false_iff_not, beq_iff_eq, beq_eq_false_iff_ne, bne_iff_ne, bne_eq_false_iff_eq, ne_eq, Decidable.not_not, selI_z, selB_z, selS_z, selN_z, selL_z, selI_s, selB_s, selS_s, selN_s, selL_s, Int.toNat_natCast, Nat.mul_one, Nat.zero_add, Nat.div_one, List.drop_zero, Nat.le_refl, Bool.not_eq_true', Bool.not_eq_false', Bool.false_eq_true, Bool.true_eq_false, not_true_eq_false, not_false_eq_true, false_imp_iff, true_imp_iff, if_true, if_false, sig, sigF, sigW]
    refine ⟨fun h => ?_, fun h => ⟨0, rfl, by omega, h⟩⟩
    rw [cntT_out (by simpa [inU] using h)]; rfl
  · rintro h ys ⟨rfl, k, rfl, h1, h2⟩
    rw [t_itimes0]
    simp only [F_itimes_ivalid, F_itimes_iwait, s_ivalid, s_iwait, Tree.holds, ltI_t, ltI_f, leI_t, leI_f, all_cons, all_nil, and_true, true_and, forall_eq, decide_eq_true_eq, decide_eq_false_iff_not, beq_iff_eq, beq_eq_false_iff_ne, bne_iff_ne, bne_eq_false_iff_eq, ne_eq, Decidable.not_not, selI_z, selB_z, selS_z, selN_z, selL_z, selI_s, selB_s, selS_s, selN_s, selL_s, Int.toNat_natCast, Nat.mul_one, Nat.zero_add, Nat.div_one, List.drop_zero, Nat.le_refl, Bool.not_eq_true', Bool.not_eq_false', Bool.false_eq_true, Bool.true_eq_false, not_true_eq_false, not_false_eq_true, false_imp_iff, true_imp_iff, if_true, if_false, sig, sigF, sigW, tms_take, tms_l, tms_push, waitI_nat, ← atN_step]
    have hc := cntT_le a0
    have hu : 0 ≤ a0 ∧ a0 ≤ 32000 := by simpa [inU] using h2
    have ha := atN_in (k := k + 1) (by omega)
    have hl := atN_lt hu.1 hu.2 k
    refine ⟨fun hk => ⟨by omega, by unfold inK; omega, by unfold inK; omega, ⟨k + 1, rfl, by omega, h2⟩, by omega⟩, fun hk => ⟨ints_scal _, ?_⟩⟩
    rw [show k = cntT a0 by omega]
theorem ok_stimes : FnOk Try.prog 16 s_stimes := by
  refine fnOk (fn := Try.f16) (F := F_stimes) (hs := hs_stimes) (tab_cons ok_sin (tab_cons ok_swait tab_nil)) mixed rfl rfl rfl [.int .i64] (by kernel_rfl) nofun ?_
  intro a0 _
  refine ⟨fun h ys => h = 0 ∧ ∃ k : Nat, ys = [.int .i64 a0, .int .i64 (0 : Nat), .int .i64 (k : Nat), .int .i64 (atN k), .list 3 0 (ints (tms k))] ∧ k ≤ cntT a0, fun h ys => 12 - (selI ys 2).toNat, ?_, ?_⟩
  · rw [t_stimes]
    simp only [F_stimes_sin, F_stimes_swait, s_sin, s_swait, Tree.holds, ltI_t, ltI_f, leI_t, leI_f, all_cons, all_nil, and_true, true_and, forall_eq, decide_eq_true_eq, decide_eq_false_iff_not, beq_iff_eq, beq_eq_false_iff_ne, bne_iff_ne, bne_eq_false_iff_eq, ne_eq, Decidable.not_not, selI_z, selB_z, selS_z, selN_z, selL_z, selI_s, selB_s, selS_s, selN_s, selL_s, Int.toNat_natCast, Nat.mul_one, Nat.zero_add, Nat.div_one, List.drop_zero, Nat.le_refl, Bool.not_eq_true', Bool.not_eq_false', Bool.false_eq_true, Bool.true_eq_false, not_true_eq_false, not_false_eq_true, false_imp_iff, true_imp_iff, if_true, if_false, sig, sigF, sigW]
    exact ⟨0, rfl, by omega⟩
  · rintro h ys ⟨rfl, k, rfl, h1⟩
    rw [t_stimes0]
    have e1 : ((k + 1 : Nat) : Int) - 1 = k := by omega
    simp only [F_stimes_sin, F_stimes_swait, s_sin, s_swait, Tree.holds, ltI_t, ltI_f, leI_t, leI_f, all_cons, all_nil, and_true, true_and, forall_eq, decide_eq_true_eq, decide_eq_false_iff_not, beq_iff_eq, beq_eq_false_iff_ne, bne_iff_ne, bne_eq_false_iff_eq, ne_eq, Decidable.not_not, selI_z, selB_z, selS_z, selN_z, selL_z, selI_s, selB_s, selS_s, selN_s, selL_s, Int.toNat_natCast, Nat.mul_one, Nat.zero_add, Nat.div_one, List.drop_zero, Nat.le_refl, Bool.not_eq_true', Bool.not_eq_false', Bool.false_eq_true, Bool.true_eq_false, not_true_eq_false, not_false_eq_true, false_imp_iff, true_imp_iff, if_true, if_false, sig, sigF, sigW, tms_take, tms_l, tms_push, e1, waitI_nat, ← atN_step]
    have hc := cntT_le a0
    have ha := atN_in (k := k + 1) (by omega)
    refine ⟨fun hk => ⟨fun hv => ?_, fun hv => ?_⟩, fun hk => ⟨ints_scal _, ?_⟩⟩
    · rw [inB_iff] at hv
      have hl := atN_lt hv.1 hv.2 k
      exact ⟨by omega, by unfold inK; omega, by unfold inK; omega, ⟨k + 1, rfl, by omega⟩, by omega⟩
    · have hv' := inB_no.mp hv
      rw [cntT_out hv'] at h1 ⊢
      obtain rfl : k = 0 := by omega
      exact ⟨ints_scal _, rfl⟩
    · by_cases hv : 0 ≤ a0 ∧ a0 ≤ 32000
      · have hl := atN_lt hv.1 hv.2 k
        rw [show k = cntT a0 by omega]
      · rw [cntT_out hv] at h1 ⊢
        obtain rfl : k = 0 := by omega
        rfl
theorem cnt_end : cntT 32000 = 11 := by decide
theorem tms_get {i : Nat} (h : i < 11) : (ints (tms 11))[i]? = some (.int .i64 (atN i)) := ints_at (tms_at h)
theorem next_hit {a0 : Int} {k : Nat} (h0 : 0 ≤ a0) (hk : k < 11) (h1 : ∀ j, j < k → atN j ≤ a0) (h2 : a0 < atN k) : nextI a0 = atN k := by
  have h3 : k = 0 ∨ atN (k - 1) ≤ a0 := by
    by_cases h : k = 0
    · exact .inl h
    · exact .inr (h1 _ (by omega))
  unfold nextI atN at *
  repeat' split
  all_goals repeat' (split at *)
  all_goals omega
theorem next_no {a0 : Int} (h1 : ∀ j, j < 11 → atN j ≤ a0) : nextI a0 = -1 := by
  have := h1 10 (by omega)
  unfold nextI
  rw [if_pos (by have e : atN 10 = 31500 := by decide
                 omega)]
theorem ok_inext : FnOk Try.prog 18 s_inext := by
  refine fnOk (fn := Try.f18) (F := F_inext) (hs := hs_inext) (tab_cons ok_ivalid (tab_cons ok_itimes tab_nil)) mixed rfl rfl rfl [.int .i64] (by kernel_rfl) nofun ?_
  intro a0 _
  refine ⟨fun h ys => h = 0 ∧ ∃ k : Nat, ys = [.int .i64 a0, .int .i64 (0 : Nat), .int .i64 (11 : Nat), .int .i64 (11 : Nat), .int .i64 k, .list 3 0 (ints (tms 11))] ∧ k ≤ 11 ∧ 0 ≤ a0 ∧ ∀ j, j < k → atN j ≤ a0, fun h ys => 12 - (selI ys 4).toNat, ?_, ?_⟩
  · rw [t_inext]
    simp only [F_inext_ivalid, F_inext_itimes, s_ivalid, s_itimes, Tree.holds, ltI_t, ltI_f, leI_t, leI_f, all_cons, all_nil, and_true, true_and, forall_eq, decide_eq_true_eq, decide_eq_false_iff_not, beq_iff_eq, beq_eq_false_iff_ne, bne_iff_ne, bne_eq_false_iff_eq, ne_eq, Decidable.not_not, selI_z, selB_z, selS_z, selN_z, selL_z, selI_s, selB_s, selS_s, selN_s, selL_s, Int.toNat_natCast, Nat.mul_one, Nat.zero_add, Nat.div_one, List.drop_zero, Nat.le_refl, Bool.not_eq_true', Bool.not_eq_false', Bool.false_eq_true, Bool.true_eq_false, not_true_eq_false, not_false_eq_true, false_imp_iff, true_imp_iff, if_true, if_false, sig, sigF, sigW, cnt_end]
    refine ⟨fun h => ret_int ?_, fun h => ⟨0, rfl, by omega, ?_, fun j hj => by omega⟩⟩
    · have : ¬ (0 ≤ a0 ∧ a0 ≤ 32000) := by simpa [inU] using h
      unfold nextI; rw [if_pos (by omega)]
    · have : 0 ≤ a0 ∧ a0 ≤ 32000 := by simpa [inU] using h
      exact this.1
  · rintro h ys ⟨rfl, k, rfl, h1, h2, h3⟩
    rw [t_inext0]
    simp only [F_inext_ivalid, F_inext_itimes, s_ivalid, s_itimes, Tree.holds, ltI_t, ltI_f, leI_t, leI_f, all_cons, all_nil, and_true, true_and, forall_eq, decide_eq_true_eq, decide_eq_false_iff_not, beq_iff_eq, beq_eq_false_iff_ne, bne_iff_ne, bne_eq_false_iff_eq, ne_eq, Decidable.not_not, selI_z, selB_z, selS_z, selN_z, selL_z, selI_s, selB_s, selS_s, selN_s, selL_s, Int.toNat_natCast, Nat.mul_one, Nat.zero_add, Nat.div_one, List.drop_zero, Nat.le_refl, Bool.not_eq_true', Bool.not_eq_false', Bool.false_eq_true, Bool.true_eq_false, not_true_eq_false, not_false_eq_true, false_imp_iff, true_imp_iff, if_true, if_false, sig, sigF, sigW]
    refine ⟨fun hk => ?_, fun hk => ret_int (by rw [next_no (fun j hj => h3 j (by omega))])⟩
    have x := tms_get (i := k) (by omega)
    rw [x, sel_int x, selI_of x]
    refine ⟨by omega, rfl, fun hl => ret_int (next_hit h2 (by omega) h3 hl).symm, fun hl => ⟨by unfold inK; omega, ⟨k + 1, rfl, by omega, h2, fun j hj => ?_⟩, by omega⟩⟩
    by_cases e : j = k
    · subst e; omega
    · exact h3 j (by omega)
theorem ok_snext : FnOk Try.prog 19 s_snext := by
  refine fnOk (fn := Try.f19) (F := F_snext) (hs := hs_snext) (tab_cons ok_sin (tab_cons ok_stimes tab_nil)) mixed rfl rfl rfl [.int .i64] (by kernel_rfl) nofun ?_
  intro a0 _
  refine ⟨fun h ys => h = 0 ∧ ∃ k : Nat, ys = [.int .i64 a0, .int .i64 (0 : Nat), .int .i64 (11 : Nat), .int .i64 k, .list 3 0 (ints (tms 11))] ∧ k ≤ 11 ∧ 0 ≤ a0 ∧ ∀ j, j < k → atN j ≤ a0, fun h ys => 12 - (selI ys 3).toNat, ?_, ?_⟩
  · rw [t_snext]
    simp only [F_snext_sin, F_snext_stimes, s_sin, s_stimes, Tree.holds, ltI_t, ltI_f, leI_t, leI_f, all_cons, all_nil, and_true, true_and, forall_eq, decide_eq_true_eq, decide_eq_false_iff_not, beq_iff_eq, beq_eq_false_iff_ne, bne_iff_ne, bne_eq_false_iff_eq, ne_eq, Decidable.not_not, selI_z, selB_z, selS_z, selN_z, selL_z, selI_s, selB_s, selS_s, selN_s, selL_s, Int.toNat_natCast, Nat.mul_one, Nat.zero_add, Nat.div_one, List.drop_zero, Nat.le_refl, Bool.not_eq_true', Bool.not_eq_false', Bool.false_eq_true, Bool.true_eq_false, not_true_eq_false, not_false_eq_true, false_imp_iff, true_imp_iff, if_true, if_false, sig, sigF, sigW, cnt_end]
    refine ⟨fun h => ret_int ?_, fun h => ⟨0, rfl, by omega, ?_, fun j hj => by omega⟩⟩
    · have := inB_no.mp h
      unfold nextI; rw [if_pos (by omega)]
    · exact (inB_iff.mp h).1
  · rintro h ys ⟨rfl, k, rfl, h1, h2, h3⟩
    rw [t_snext0]
    simp only [F_snext_sin, F_snext_stimes, s_sin, s_stimes, Tree.holds, ltI_t, ltI_f, leI_t, leI_f, all_cons, all_nil, and_true, true_and, forall_eq, decide_eq_true_eq, decide_eq_false_iff_not, beq_iff_eq, beq_eq_false_iff_ne, bne_iff_ne, bne_eq_false_iff_eq, ne_eq, Decidable.not_not, selI_z, selB_z, selS_z, selN_z, selL_z, selI_s, selB_s, selS_s, selN_s, selL_s, Int.toNat_natCast, Nat.mul_one, Nat.zero_add, Nat.div_one, List.drop_zero, Nat.le_refl, Bool.not_eq_true', Bool.not_eq_false', Bool.false_eq_true, Bool.true_eq_false, not_true_eq_false, not_false_eq_true, false_imp_iff, true_imp_iff, if_true, if_false, sig, sigF, sigW]
    refine ⟨fun hk => ?_, fun hk => ret_int (by rw [next_no (fun j hj => h3 j (by omega))])⟩
    have x := tms_get (i := k) (by omega)
    rw [x, sel_int x, selI_of x]
    refine ⟨by omega, rfl, fun hl => ⟨by omega, rfl, ret_int (next_hit h2 (by omega) h3 hl).symm⟩, fun hl => ⟨by unfold inK; omega, ⟨k + 1, rfl, by omega, h2, fun j hj => ?_⟩, by omega⟩⟩
    by_cases e : j = k
    · subst e; omega
    · exact h3 j (by omega)
theorem ok_ewait : FnOk Try.prog 6 s_ewait := by
  refine fnOk (fn := Try.f6) (F := F_ewait) (hs := hs_ewait) (tab_cons ok_iwait (tab_cons ok_swait tab_nil)) mixed rfl rfl rfl [.int .i64] (by kernel_rfl) nofun ?_
  intro a0 _
  refine ⟨fun _ _ => False, fun _ _ => 0, ?_, fun _ _ h => h.elim⟩
  rw [t_ewait]
  simp only [F_ewait_iwait, F_ewait_swait, s_iwait, s_swait, Tree.holds, ltI_t, ltI_f, leI_t, leI_f, all_cons, all_nil, and_true, true_and, forall_eq, decide_eq_true_eq, decide_eq_false_iff_not, beq_iff_eq, beq_eq_false_iff_ne, bne_iff_ne, bne_eq_false_iff_eq, ne_eq, Decidable.not_not, selI_z, selB_z, selS_z, selN_z, selL_z, selI_s, selB_s, selS_s, selN_s, selL_s, Int.toNat_natCast, Nat.mul_one, Nat.zero_add, Nat.div_one, List.drop_zero, Nat.le_refl, Bool.not_eq_true', Bool.not_eq_false', Bool.false_eq_true, Bool.true_eq_false, not_true_eq_false, not_false_eq_true, false_imp_iff, true_imp_iff, if_true, if_false, sig, sigF, sigW]
theorem ok_enext : FnOk Try.prog 8 s_enext := by
  refine fnOk (fn := Try.f8) (F := F_enext) (hs := hs_enext) (tab_cons ok_inext (tab_cons ok_snext tab_nil)) mixed rfl rfl rfl [.int .i64] (by kernel_rfl) nofun ?_
  intro a0 _
  refine ⟨fun _ _ => False, fun _ _ => 0, ?_, fun _ _ h => h.elim⟩
  rw [t_enext]
  simp only [F_enext_inext, F_enext_snext, s_inext, s_snext, Tree.holds, ltI_t, ltI_f, leI_t, leI_f, all_cons, all_nil, and_true, true_and, forall_eq, decide_eq_true_eq, decide_eq_false_iff_not, beq_iff_eq, beq_eq_false_iff_ne, bne_iff_ne, bne_eq_false_iff_eq, ne_eq, Decidable.not_not, selI_z, selB_z, selS_z, selN_z, selL_z, selI_s, selB_s, selS_s, selN_s, selL_s, Int.toNat_natCast, Nat.mul_one, Nat.zero_add, Nat.div_one, List.drop_zero, Nat.le_refl, Bool.not_eq_true', Bool.not_eq_false', Bool.false_eq_true, Bool.true_eq_false, not_true_eq_false, not_false_eq_true, false_imp_iff, true_imp_iff, if_true, if_false, sig, sigF, sigW]
theorem ints_take {a : List Int} {n : Nat} (h : a.length = n) : List.take n (ints a) = ints a := List.take_of_length_le (by rw [ints_len]; omega)
theorem marks_take (k : Int) (n : Nat) : List.take n (ints (marks k n)) = ints (marks k n) := ints_take (marks_len k n)
theorem ok_etimes : FnOk Try.prog 7 s_etimes := by
  refine fnOk (fn := Try.f7) (F := F_etimes) (hs := hs_etimes) (tab_cons ok_itimes (tab_cons ok_stimes (tab_cons ok_eqints (tab_cons ok_markints (tab_cons ok_heldints tab_nil))))) mixed rfl rfl rfl [.int .i64] (by kernel_rfl) nofun ?_
  intro a0 _
  refine ⟨fun _ _ => False, fun _ _ => 0, ?_, fun _ _ h => h.elim⟩
  rw [t_etimes]
  simp only [F_etimes_itimes, F_etimes_stimes, F_etimes_eqints, F_etimes_markints, F_etimes_heldints, s_itimes, s_stimes, s_eqints, s_markints, s_heldints, Tree.holds, ltI_t, ltI_f, leI_t, leI_f, all_cons, all_nil, and_true, true_and, forall_eq, decide_eq_true_eq, decide_eq_false_iff_not, beq_iff_eq, beq_eq_false_iff_ne, bne_iff_ne, bne_eq_false_iff_eq, ne_eq, Decidable.not_not, selI_z, selB_z, selS_z, selN_z, selL_z, selI_s, selB_s, selS_s, selN_s, selL_s, Int.toNat_natCast, Nat.mul_one, Nat.zero_add, Nat.div_one, List.drop_zero, Nat.le_refl, Bool.not_eq_true', Bool.not_eq_false', Bool.false_eq_true, Bool.true_eq_false, not_true_eq_false, not_false_eq_true, false_imp_iff, true_imp_iff, if_true, if_false, sig, sigF, sigW, tms_take, tms_l, unI_ints, eqI_self, marks_take, ints_len, marks_len, tms_len]
  have hc := cntT_le a0
  have e2 : ∃ a b : List Int, [D.list 3 (cntT a0) (ints (tms (cntT a0))), .list 3 (cntT a0) (ints (tms (cntT a0)))] = [.list 3 a.length (ints a), .list 3 b.length (ints b)] ∧ a.length ≤ 4611686018427387904 :=
    ⟨tms (cntT a0), tms (cntT a0), by rw [tms_len], by rw [tms_len]; omega⟩
  have e3 : ∃ (n : Nat) (k : Int), [D.list 3 (cntT a0) (ints (marks 1 (cntT a0))), .int .i64 1] = [.list 3 n (ints (marks k n)), .int .i64 k] ∧ 0 ≤ k ∧ k + n ≤ 4611686018427387904 := ⟨_, 1, rfl, by omega, by omega⟩
  refine ⟨e2, ints_scal _, ⟨tms (cntT a0), 1, by rw [tms_len], by omega, by rw [tms_len]; omega⟩, e3, fun h => by omega, fun _ => ⟨e2, e3, fun h => by omega, fun _ => trivial⟩⟩
theorem abs_wait : Typ.absFunc (Typ.tabOf Try.prog bd7) Typ.fns0 10 60 Try.f9 [.v (.one .code)] = some (.v (.one (.int .i64 (-1000000000) 1000000000))) := by kernel_rfl
theorem abs_times : Typ.absFunc (Typ.tabOf Try.prog bd7) Typ.fns0 10 60 Try.f13 [.v (.one .code)] = some (.v (.one (.int .i64 (-1000000000) 1000000000))) := by kernel_rfl
noncomputable def fns7 : Typ.Fns := Typ.fns0.ext (Typ.tabOf Try.prog bd7) 13 Try.f13 10 60
theorem fns7_ok (w : World) (ao : Option Addr) (len cap : Nat) (hlc : len ≤ cap) (hb : Bytes w ao len w.heap.size) : Typ.FnsOk (Typ.envOf Try.prog bd7 w ao len cap) fns7 :=
  Typ.Fns.ext_ok (Typ.envOk Try.prog bd7 w ao len cap) (Typ.envOk Try.prog bd7 w ao len cap).rdMono mixed (Typ.fns0_ok2 bd7 w ao len cap hlc hb) Try.func13 rfl rfl
theorem abs_next : Typ.absFunc (Typ.tabOf Try.prog bd7) fns7 10 60 Try.f17 [.v (.one .code)] = some (.v (.one (.int .i64 (-1000000000) 1000000000))) := by kernel_rfl
theorem ok_dwait : FnOk Try.prog 9 s_dwait :=
  draw_ok (fun w ao len cap hlc hb => Typ.fns0_ok2 bd7 w ao len cap hlc hb) (by kernel_rfl) (by kernel_rfl) (by kernel_rfl) (by decide) abs_wait (tb := 22) (el := 5) (by kernel_rfl) (by kernel_rfl) (by kernel_rfl) (by kernel_rfl) 1 rfl (by kernel_rfl) (by kernel_rfl)
theorem ok_dtimes : FnOk Try.prog 13 s_dtimes :=
  draw_ok (fun w ao len cap hlc hb => Typ.fns0_ok2 bd7 w ao len cap hlc hb) (by kernel_rfl) (by kernel_rfl) (by kernel_rfl) (by decide) abs_times (tb := 22) (el := 5) (by kernel_rfl) (by kernel_rfl) (by kernel_rfl) (by kernel_rfl) 1 rfl (by kernel_rfl) (by kernel_rfl)
theorem ok_dnext : FnOk Try.prog 17 s_dnext :=
  draw_ok fns7_ok (by kernel_rfl) (by kernel_rfl) (by kernel_rfl) (by decide) abs_next (tb := 22) (el := 5) (by kernel_rfl) (by kernel_rfl) (by kernel_rfl) (by kernel_rfl) 1 rfl (by kernel_rfl) (by kernel_rfl)
theorem waitI_neg (n : Int) : waitI n < 0 ↔ n < 0 := by
  have := waitN_in n.toNat
  unfold waitI; split <;> omega
theorem ok_lwait : FnOk Try.prog 3 s_lwait := by
  refine fnOk (fn := Try.f3) (F := F_lwait) (hs := hs_lwait) (tab_cons ok_iwait (tab_cons ok_swait (tab_cons ok_alive (tab_cons ok_dwait tab_nil)))) mixed rfl rfl rfl [.list 5] (by kernel_rfl) nofun ?_
  intro n l hw
  refine ⟨fun _ _ => False, fun _ _ => 0, ?_, fun _ _ h => h.elim⟩
  rw [t_lwait]
  simp only [F_lwait_iwait, F_lwait_swait, F_lwait_alive, F_lwait_dwait, s_iwait, s_swait, s_alive, s_dwait, Tree.holds, ltI_t, ltI_f, leI_t, leI_f, all_cons, all_nil, and_true, true_and, forall_eq, decide_eq_true_eq, decide_eq_false_iff_not, beq_iff_eq, beq_eq_false_iff_ne, bne_iff_ne, bne_eq_false_iff_eq, ne_eq, Decidable.not_not, selI_z, selB_z, selS_z, selN_z, selL_z, selI_s, selB_s, selS_s, selN_s, selL_s, Int.toNat_natCast, Nat.mul_one, Nat.zero_add, Nat.div_one, List.drop_zero, Nat.le_refl, Bool.not_eq_true', Bool.not_eq_false', Bool.false_eq_true, Bool.true_eq_false, not_true_eq_false, not_false_eq_true, false_imp_iff, true_imp_iff, if_true, if_false, sig, sigF, sigW]
  refine ⟨fun _ => trivial, fun _ => ⟨bytes_wf hw, fun ys hy => ?_⟩⟩
  · obtain ⟨a, rfl, a1, a2⟩ := fits_int1 hy
    simp only [F_lwait_iwait, F_lwait_swait, F_lwait_alive, F_lwait_dwait, s_iwait, s_swait, s_alive, s_dwait, Tree.holds, ltI_t, ltI_f, leI_t, leI_f, all_cons, all_nil, and_true, true_and, forall_eq, decide_eq_true_eq, decide_eq_false_iff_not, beq_iff_eq, beq_eq_false_iff_ne, bne_iff_ne, bne_eq_false_iff_eq, ne_eq, Decidable.not_not, selI_z, selB_z, selS_z, selN_z, selL_z, selI_s, selB_s, selS_s, selN_s, selL_s, Int.toNat_natCast, Nat.mul_one, Nat.zero_add, Nat.div_one, List.drop_zero, Nat.le_refl, Bool.not_eq_true', Bool.not_eq_false', Bool.false_eq_true, Bool.true_eq_false, not_true_eq_false, not_false_eq_true, false_imp_iff, true_imp_iff, if_true, if_false, sig, sigF, sigW]
    have e := waitI_neg a
    refine ⟨fun h => ⟨fun _ => trivial, fun h2 => ?_⟩, fun h => ?_⟩
    · exfalso; apply h2; unfold waitI; rw [if_pos (by omega)]
    · obtain ⟨k, rfl⟩ : ∃ k : Nat, a = k := ⟨a.toNat, by omega⟩
      have e1 : waitI ((k : Int) + 1) = waitN (k + 1) := waitI_nat (k + 1)
      rw [e1, waitI_nat]
      have h1 := waitN_in k
      have h2 := waitN_inc k
      exact ⟨by unfold inK; omega, fun _ => ⟨fun _ => ⟨fun _ => ⟨by unfold inK; omega, ret_bool' (by rw [leI_t]; omega)⟩, fun h => by omega⟩, fun h => by omega⟩, fun h => by omega⟩
theorem nextI_neg {n : Int} (h : nextI n < 0) : nextI n = -1 := by
  unfold nextI at h ⊢; repeat' split
  all_goals repeat' (split at h)
  all_goals omega
theorem nextI_pos {n : Int} (h : ¬ nextI n < 0) : ∃ k, k < 11 ∧ nextI n = atN k ∧ n < atN k ∧ ∀ j, j < 11 → atN j ≤ n ∨ atN k ≤ atN j := by
  have hn : 0 ≤ n ∧ n < 31500 := by
    by_cases h1 : n < 0 ∨ 31500 ≤ n
    · unfold nextI at h; rw [if_pos h1] at h; omega
    · omega
  have key : ∀ k, k < 11 → n < atN k → (k = 0 ∨ atN (k - 1) ≤ n) → ∃ k, k < 11 ∧ nextI n = atN k ∧ n < atN k ∧ ∀ j, j < 11 → atN j ≤ n ∨ atN k ≤ atN j := by
    intro k hk h1 h2
    have mono : ∀ i j, i ≤ j → atN i ≤ atN j := by
      intro i j hij
      induction j with
      | zero => rw [show i = 0 by omega]; omega
      | succ j ih =>
        by_cases e : i = j + 1
        · rw [e]; omega
        · have := ih (by omega)
          have := atN_step j
          have := waitN_in j
          omega
    refine ⟨k, hk, next_hit hn.1 hk (fun j hj => ?_) h1, h1, fun j hj => ?_⟩
    · rcases h2 with h2 | h2
      · omega
      · have := mono j (k - 1) (by omega); omega
    · by_cases hjk : j < k
      · rcases h2 with h2 | h2
        · omega
        · have := mono j (k - 1) (by omega); exact .inl (by omega)
      · exact .inr (mono k j (by omega))
  have : ∀ m, m ≤ 10 → (∀ j, j ≤ m → atN j ≤ n) ∨ ∃ k, k ≤ m ∧ n < atN k ∧ (k = 0 ∨ atN (k - 1) ≤ n) := by
    intro m
    induction m with
    | zero =>
      intro _
      by_cases h0 : atN 0 ≤ n
      · exact .inl fun j hj => by rw [show j = 0 by omega]; exact h0
      · exact .inr ⟨0, by omega, by omega, .inl rfl⟩
    | succ m ih =>
      intro hm
      rcases ih (by omega) with h1 | ⟨k, h1, h2, h3⟩
      · by_cases h0 : atN (m + 1) ≤ n
        · exact .inl fun j hj => by
            by_cases e : j = m + 1
            · rw [e]; exact h0
            · exact h1 j (by omega)
        · exact .inr ⟨m + 1, by omega, by omega, .inr (h1 m (by omega))⟩
      · exact .inr ⟨k, by omega, h2, h3⟩
  rcases this 10 (by omega) with h1 | ⟨k, h1, h2, h3⟩
  · have := h1 10 (by omega)
    have e : atN 10 = 31500 := by decide
    omega
  · exact key k (by omega) h2 h3
theorem ok_lnext : FnOk Try.prog 5 s_lnext := by
  refine fnOk (fn := Try.f5) (F := F_lnext) (hs := hs_lnext) (tab_cons ok_inext (tab_cons ok_snext (tab_cons ok_itimes (tab_cons ok_alive (tab_cons ok_dnext tab_nil))))) mixed rfl rfl rfl [.list 5] (by kernel_rfl) nofun ?_
  intro n l hw
  refine ⟨fun h ys => h = 0 ∧ ∃ (u : Int) (p k : Nat) (b : Bool), ys = [.int .i64 u, .int .i64 (atN p), .bool b, .int .i64 (0 : Nat), .int .i64 (11 : Nat), .int .i64 k, .list 3 0 (ints (tms 11))] ∧ k ≤ 11 ∧ p < 11 ∧ u < atN p ∧ (∀ j, j < 11 → atN j ≤ u ∨ atN p ≤ atN j) ∧ (p < k → b = true), fun h ys => 12 - (selI ys 5).toNat, ?_, ?_⟩
  · rw [t_lnext]
    simp only [F_lnext_inext, F_lnext_snext, F_lnext_itimes, F_lnext_alive, F_lnext_dnext, s_inext, s_snext, s_itimes, s_alive, s_dnext, Tree.holds, ltI_t, ltI_f, leI_t, leI_f, all_cons, all_nil, and_true, true_and, forall_eq, decide_eq_true_eq, decide_eq_false_iff_not, beq_iff_eq, beq_eq_false_iff_ne, bne_iff_ne, bne_eq_false_iff_eq, ne_eq, Decidable.not_not, selI_z, selB_z, selS_z, selN_z, selL_z, selI_s, selB_s, selS_s, selN_s, selL_s, Int.toNat_natCast, Nat.mul_one, Nat.zero_add, Nat.div_one, List.drop_zero, Nat.le_refl, Bool.not_eq_true', Bool.not_eq_false', Bool.false_eq_true, Bool.true_eq_false, not_true_eq_false, not_false_eq_true, false_imp_iff, true_imp_iff, if_true, if_false, sig, sigF, sigW, cnt_end]
    refine ⟨fun _ => trivial, fun _ => ⟨bytes_wf hw, fun ys hy => ?_⟩⟩
    · obtain ⟨a, rfl, a1, a2⟩ := fits_int1 hy
      simp only [F_lnext_inext, F_lnext_snext, F_lnext_itimes, F_lnext_alive, F_lnext_dnext, s_inext, s_snext, s_itimes, s_alive, s_dnext, Tree.holds, ltI_t, ltI_f, leI_t, leI_f, all_cons, all_nil, and_true, true_and, forall_eq, decide_eq_true_eq, decide_eq_false_iff_not, beq_iff_eq, beq_eq_false_iff_ne, bne_iff_ne, bne_eq_false_iff_eq, ne_eq, Decidable.not_not, selI_z, selB_z, selS_z, selN_z, selL_z, selI_s, selB_s, selS_s, selN_s, selL_s, Int.toNat_natCast, Nat.mul_one, Nat.zero_add, Nat.div_one, List.drop_zero, Nat.le_refl, Bool.not_eq_true', Bool.not_eq_false', Bool.false_eq_true, Bool.true_eq_false, not_true_eq_false, not_false_eq_true, false_imp_iff, true_imp_iff, if_true, if_false, sig, sigF, sigW]
      refine ⟨fun h => ⟨fun _ => trivial, fun h2 => absurd (nextI_neg h) h2⟩, fun h => ?_⟩
      obtain ⟨p, p1, p2, p3, p4⟩ := nextI_pos h
      rw [p2]
      exact ⟨a, p, 0, false, rfl, by omega, p1, p3, p4, fun h => by omega⟩
  · rintro h ys ⟨rfl, u, p, k, b, rfl, h1, h2, h3, h4, h5⟩
    rw [t_lnext0]
    simp only [F_lnext_inext, F_lnext_snext, F_lnext_itimes, F_lnext_alive, F_lnext_dnext, s_inext, s_snext, s_itimes, s_alive, s_dnext, Tree.holds, ltI_t, ltI_f, leI_t, leI_f, all_cons, all_nil, and_true, true_and, forall_eq, decide_eq_true_eq, decide_eq_false_iff_not, beq_iff_eq, beq_eq_false_iff_ne, bne_iff_ne, bne_eq_false_iff_eq, ne_eq, Decidable.not_not, selI_z, selB_z, selS_z, selN_z, selL_z, selI_s, selB_s, selS_s, selN_s, selL_s, Int.toNat_natCast, Nat.mul_one, Nat.zero_add, Nat.div_one, List.drop_zero, Nat.le_refl, Bool.not_eq_true', Bool.not_eq_false', Bool.false_eq_true, Bool.true_eq_false, not_true_eq_false, not_false_eq_true, false_imp_iff, true_imp_iff, if_true, if_false, sig, sigF, sigW]
    refine ⟨fun hk => ?_, fun hk => ?_⟩
    · have x := tms_get (i := k) (by omega)
      rw [x, sel_int x, selI_of x]
      have h6 := h4 k (by omega)
      have mono : atN k = atN p → k = p := fun e => by unfold atN at e; repeat' (split at e); all_goals omega
      have go : ∀ b' : Bool, (p < k + 1 → b' = true) → ∃ (u_1 : Int) (p_1 k_1 : Nat) (b_1 : Bool), [D.int .i64 u, .int .i64 (atN p), .bool b', .int .i64 (0 : Nat), .int .i64 (11 : Nat), .int .i64 ((k : Int) + 1), .list 3 0 (ints (tms 11))] = [D.int .i64 u_1, .int .i64 (atN p_1), .bool b_1, .int .i64 (0 : Nat), .int .i64 (11 : Nat), .int .i64 k_1, .list 3 0 (ints (tms 11))] ∧ k_1 ≤ 11 ∧ p_1 < 11 ∧ u_1 < atN p_1 ∧ (∀ j, j < 11 → atN j ≤ u_1 ∨ atN p_1 ≤ atN j) ∧ (p_1 < k_1 → b_1 = true) :=
        fun b' hb' => ⟨u, p, k + 1, b', rfl, by omega, h2, h3, h4, hb'⟩
      have hin : inK .i64 ((k : Int) + 1) := by unfold inK; omega
      have bt : p < k → b = true := h5
      refine ⟨fun hb => ⟨by omega, rfl, fun hu => ⟨by omega, rfl, fun h => by omega, fun _ => ⟨hin, go true (fun _ => rfl), by omega⟩⟩, fun hu => ⟨hin, go true (fun _ => rfl), by omega⟩⟩, fun hb => ⟨by omega, rfl, by omega, rfl, fun hu => ⟨by omega, rfl, fun h => by omega, fun _ => ⟨hin, go _ fun hp => ?_, by omega⟩⟩, fun hu => ⟨hin, go _ fun hp => ?_, by omega⟩⟩⟩
      all_goals
        have : ¬ p < k := fun h => by rw [bt h] at hb; cases hb
        obtain rfl : p = k := by omega
        exact beq_self_eq_true _
    · exact ⟨fun _ => by rw [h5 (by omega)], fun h => absurd h3 h⟩
theorem ok_ltimes : FnOk Try.prog 4 s_ltimes := by
  refine fnOk (fn := Try.f4) (F := F_ltimes) (hs := hs_ltimes) (tab_cons ok_itimes (tab_cons ok_stimes (tab_cons ok_iwait (tab_cons ok_sameints (tab_cons ok_alive (tab_cons ok_dtimes tab_nil)))))) mixed rfl rfl rfl [.list 5] (by kernel_rfl) nofun ?_
  intro n l hw
  refine ⟨fun h ys => h = 0 ∧ ∃ (u : Int) (k : Nat), ys = [.int .i64 u, .int .i64 (0 : Nat), .int .i64 (cntT u : Nat), .int .i64 k, .list 3 0 (ints (tms (cntT u)))] ∧ 1 ≤ k ∧ k ≤ cntT u, fun h ys => 12 - (selI ys 3).toNat, ?_, ?_⟩
  · rw [t_ltimes]
    simp only [F_ltimes_itimes, F_ltimes_stimes, F_ltimes_iwait, F_ltimes_sameints, F_ltimes_alive, F_ltimes_dtimes, s_itimes, s_stimes, s_iwait, s_sameints, s_alive, s_dtimes, Tree.holds, ltI_t, ltI_f, leI_t, leI_f, all_cons, all_nil, and_true, true_and, forall_eq, decide_eq_true_eq, decide_eq_false_iff_not, beq_iff_eq, beq_eq_false_iff_ne, bne_iff_ne, bne_eq_false_iff_eq, ne_eq, Decidable.not_not, selI_z, selB_z, selS_z, selN_z, selL_z, selI_s, selB_s, selS_s, selN_s, selL_s, Int.toNat_natCast, Nat.mul_one, Nat.zero_add, Nat.div_one, List.drop_zero, Nat.le_refl, Bool.not_eq_true', Bool.not_eq_false', Bool.false_eq_true, Bool.true_eq_false, not_true_eq_false, not_false_eq_true, false_imp_iff, true_imp_iff, if_true, if_false, sig, sigF, sigW, tms_take, tms_l, unI_ints, eqI_self, ints_len, tms_len]
    refine ⟨fun _ => trivial, fun _ => ⟨bytes_wf hw, fun ys hy => ?_⟩⟩
    · obtain ⟨a, rfl, a1, a2⟩ := fits_int1 hy
      simp only [F_ltimes_itimes, F_ltimes_stimes, F_ltimes_iwait, F_ltimes_sameints, F_ltimes_alive, F_ltimes_dtimes, s_itimes, s_stimes, s_iwait, s_sameints, s_alive, s_dtimes, Tree.holds, ltI_t, ltI_f, leI_t, leI_f, all_cons, all_nil, and_true, true_and, forall_eq, decide_eq_true_eq, decide_eq_false_iff_not, beq_iff_eq, beq_eq_false_iff_ne, bne_iff_ne, bne_eq_false_iff_eq, ne_eq, Decidable.not_not, selI_z, selB_z, selS_z, selN_z, selL_z, selI_s, selB_s, selS_s, selN_s, selL_s, Int.toNat_natCast, Nat.mul_one, Nat.zero_add, Nat.div_one, List.drop_zero, Nat.le_refl, Bool.not_eq_true', Bool.not_eq_false', Bool.false_eq_true, Bool.true_eq_false, not_true_eq_false, not_false_eq_true, false_imp_iff, true_imp_iff, if_true, if_false, sig, sigF, sigW]
      have hc := cntT_le a
      refine ⟨⟨tms (cntT a), tms (cntT a), by rw [tms_len], by rw [tms_len]; omega⟩, fun h => ⟨fun _ => trivial, fun h1 => ⟨fun _ => trivial, fun h2 => ?_⟩⟩, fun h => ⟨a, 1, rfl, by omega, by omega⟩⟩
      have := (atN_lt (by omega) (by omega) 0).mp (show atN 0 < a by show (0 : Int) < a; omega)
      omega
  · rintro h ys ⟨rfl, u, k, rfl, h1, h2⟩
    rw [t_ltimes0]
    simp only [F_ltimes_itimes, F_ltimes_stimes, F_ltimes_iwait, F_ltimes_sameints, F_ltimes_alive, F_ltimes_dtimes, s_itimes, s_stimes, s_iwait, s_sameints, s_alive, s_dtimes, Tree.holds, ltI_t, ltI_f, leI_t, leI_f, all_cons, all_nil, and_true, true_and, forall_eq, decide_eq_true_eq, decide_eq_false_iff_not, beq_iff_eq, beq_eq_false_iff_ne, bne_iff_ne, bne_eq_false_iff_eq, ne_eq, Decidable.not_not, selI_z, selB_z, selS_z, selN_z, selL_z, selI_s, selB_s, selS_s, selN_s, selL_s, Int.toNat_natCast, Nat.mul_one, Nat.zero_add, Nat.div_one, List.drop_zero, Nat.le_refl, Bool.not_eq_true', Bool.not_eq_false', Bool.false_eq_true, Bool.true_eq_false, not_true_eq_false, not_false_eq_true, false_imp_iff, true_imp_iff, if_true, if_false, sig, sigF, sigW, tms_l]
    have hc := cntT_le u
    refine ⟨fun hk => ?_, fun hk => ?_⟩
    · have e0 : ((k : Int) - 1).toNat = k - 1 := by omega
      rw [e0]
      have x := ints_at (tms_at (k := cntT u) (i := k) (by omega))
      have y := ints_at (tms_at (k := cntT u) (i := k - 1) (by omega))
      rw [x, sel_int x, selI_of x, y, sel_int y, selI_of y]
      have e1 : (k : Int) - 1 = (k - 1 : Nat) := by omega
      have e2 := atN_step (k - 1)
      rw [show k - 1 + 1 = k by omega] at e2
      have e3 := waitN_in (k - 1)
      have e4 : waitI ((k : Int) - 1) = waitN (k - 1) := by rw [e1, waitI_nat]
      rw [e4]
      refine ⟨by omega, rfl, by unfold inK; omega, by omega, rfl, by unfold inK; omega, by unfold inK; omega, fun h => by omega, fun _ => ⟨by unfold inK; omega, ⟨u, k + 1, rfl, by omega, by omega⟩, by omega⟩⟩
    · obtain rfl : k = cntT u := by omega
      generalize hc0 : cntT u = c at *
      have e0 : ((c : Int) - 1).toNat = c - 1 := by omega
      rw [e0]
      have x := ints_at (tms_at (k := c) (i := c - 1) (by omega))
      have y := ints_at (tms_at (k := c) (i := 0) (by omega))
      rw [x, sel_int x, selI_of x, y, sel_int y, selI_of y]
      have e1 : (c : Int) - 1 = (c - 1 : Nat) := by omega
      have e2 := atN_step (c - 1)
      rw [show c - 1 + 1 = c by omega] at e2
      have e3 := waitN_in (c - 1)
      have e4 : waitI ((c : Int) - 1) = waitN (c - 1) := by rw [e1, waitI_nat]
      rw [e4, ← e2]
      have hu : 0 ≤ u ∧ u ≤ 32000 := by
        by_cases h : 0 ≤ u ∧ u ≤ 32000
        · exact h
        · rw [cntT_out h] at hc0; omega
      have m1 := (atN_lt hu.1 hu.2 (c - 1)).mpr (by omega)
      have m2 := atN_lt hu.1 hu.2 c
      have a1 := atN_in (k := c) (by omega)
      have a2 := atN_in (k := c - 1) (by omega)
      refine ⟨by unfold inK; omega, by omega, rfl, by omega, rfl, fun _ => ⟨fun _ => ⟨by unfold inK; omega, by unfold inK; omega, ret_bool' (by rw [leI_t]; omega)⟩, fun h => by omega⟩, fun h => absurd rfl h⟩
end Go.Proofs.Ytcgaflnegjakdaa.Mini
