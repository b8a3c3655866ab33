/- Chapter 8: dialogs: proofs. -/
import Derived.Test.YtdofjbolhgoidaaDialog
namespace Go.Proofs.Ytdofjbolhgoidaa.Mini
open Go Go.RowKit
set_option linter.unusedVariables false
set_option linter.unusedSimpArgs false
set_option maxRecDepth 20000
theorem wf_strs {P : Program} {f : Nat} {s : ByteArray} (h : wfK P f .str (.str s)) : s.size ≤ maxLen := by
  obtain ⟨s', e, h⟩ : ∃ s' : ByteArray, D.str s = .str s' ∧ s'.size ≤ maxLen := by cases f <;> exact h
  injection e with e; subst e; exact h
theorem ok_ilast : FnOk Try.prog 34 s_ilast := by
  refine fnOk (fn := Try.f34) (F := F_ilast) (hs := hs_ilast) tab_nil mixed rfl rfl rfl [.int .i64] (by kernel_rfl) (by simp) ?_
  intro a0 hp
  refine ⟨fun _ _ => False, fun _ _ => 0, ?_, fun _ _ h => h.elim⟩
  rw [t_ilast]
  simp only [Tree.holds, ltI_t, ltI_f, leI_t, leI_f, all_cons, all_nil, and_true, true_and, forall_eq, decide_eq_true_eq, decide_eq_false_iff_not, beq_iff_eq, beq_eq_false_iff_ne, bne_iff_ne, bne_eq_false_iff_eq, ne_eq, Decidable.not_not, selI_z, selB_z, selS_z, selN_z, selL_z, selI_s, selB_s, selS_s, selN_s, selL_s, Int.toNat_natCast, Nat.mul_one, Nat.zero_add, Nat.div_one, List.drop_zero, Nat.zero_mul, Nat.le_refl, Bool.not_eq_true', Bool.not_eq_false', Bool.false_eq_true, Bool.true_eq_false, not_true_eq_false, not_false_eq_true, false_imp_iff, true_imp_iff, if_true, if_false, sig, sigF, sigW, sigR, sigO]
  refine ⟨fun e => ?_, fun e => ?_⟩ <;> refine ret_bool' ?_ <;> simp [inB, leI, e]
theorem ok_idv : FnOk Try.prog 12 s_idv := by
  refine fnOk (fn := Try.f12) (F := F_idv) (hs := hs_idv) (tab_cons ok_iword (tab_cons ok_iaddr (tab_cons ok_ilast tab_nil))) mixed rfl rfl rfl [.str, .str, .str, .str, .str, .int .i64, .int .i64, .bool] (by kernel_rfl) (by simp) ?_
  intro a0 a1 a2 a3 a4 a5 a6 a7 hp
  obtain ⟨h0, h1, h2, h3, h4, -⟩ := hp
  refine ⟨fun _ _ => False, fun _ _ => 0, ?_, fun _ _ h => h.elim⟩
  rw [t_idv]
  simp only [F_idv_iword, F_idv_iaddr, F_idv_ilast, s_iword, s_iaddr, s_ilast, Tree.holds, ltI_t, ltI_f, leI_t, leI_f, all_cons, all_nil, and_true, true_and, forall_eq, decide_eq_true_eq, decide_eq_false_iff_not, beq_iff_eq, beq_eq_false_iff_ne, bne_iff_ne, bne_eq_false_iff_eq, ne_eq, Decidable.not_not, selI_z, selB_z, selS_z, selN_z, selL_z, selI_s, selB_s, selS_s, selN_s, selL_s, Int.toNat_natCast, Nat.mul_one, Nat.zero_add, Nat.div_one, List.drop_zero, Nat.zero_mul, Nat.le_refl, Bool.not_eq_true', Bool.not_eq_false', Bool.false_eq_true, Bool.true_eq_false, not_true_eq_false, not_false_eq_true, false_imp_iff, true_imp_iff, if_true, if_false, sig, sigF, sigW, sigR, sigO]
  refine ⟨h0, fun e0 => ⟨⟨h1, h2⟩, fun e1 => ⟨⟨h3, h4⟩, fun e2 => ⟨fun e3 => ?_, fun e3 => ?_⟩, fun e2 => ?_⟩, fun e1 => ?_⟩, fun e0 => ?_⟩ <;> refine ret_bool' ?_ <;> unfold dlgB <;> (try rw [e0]) <;> (try rw [e1]) <;> (try rw [e2]) <;> (try rw [e3]) <;> simp
theorem ok_sdv : FnOk Try.prog 13 s_sdv := by
  refine fnOk (fn := Try.f13) (F := F_sdv) (hs := hs_sdv) (tab_cons ok_sword (tab_cons ok_saddr (tab_cons ok_sin tab_nil))) mixed rfl rfl rfl [.str, .str, .str, .str, .str, .int .i64, .int .i64, .bool] (by kernel_rfl) (by simp) ?_
  intro a0 a1 a2 a3 a4 a5 a6 a7 hp
  obtain ⟨h0, h1, h2, h3, h4, -⟩ := hp
  refine ⟨fun _ _ => False, fun _ _ => 0, ?_, fun _ _ h => h.elim⟩
  rw [t_sdv]
  simp only [F_sdv_sword, F_sdv_saddr, F_sdv_sin, s_sword, s_saddr, s_sin, Tree.holds, ltI_t, ltI_f, leI_t, leI_f, all_cons, all_nil, and_true, true_and, forall_eq, decide_eq_true_eq, decide_eq_false_iff_not, beq_iff_eq, beq_eq_false_iff_ne, bne_iff_ne, bne_eq_false_iff_eq, ne_eq, Decidable.not_not, selI_z, selB_z, selS_z, selN_z, selL_z, selI_s, selB_s, selS_s, selN_s, selL_s, Int.toNat_natCast, Nat.mul_one, Nat.zero_add, Nat.div_one, List.drop_zero, Nat.zero_mul, Nat.le_refl, Bool.not_eq_true', Bool.not_eq_false', Bool.false_eq_true, Bool.true_eq_false, not_true_eq_false, not_false_eq_true, false_imp_iff, true_imp_iff, if_true, if_false, sig, sigF, sigW, sigR, sigO]
  refine ⟨h0, fun e0 => ⟨⟨h1, h2⟩, fun e1 => ⟨⟨h3, h4⟩, fun e2 => ⟨fun e3 => ?_, fun e3 => ?_⟩, fun e2 => ?_⟩, fun e1 => ?_⟩, fun e0 => ?_⟩ <;> refine ret_bool' ?_ <;> unfold dlgB <;> (try rw [e0]) <;> (try rw [e1]) <;> (try rw [e2]) <;> (try rw [e3]) <;> simp
theorem dlg_in {c hu hh tu th : ByteArray} {s e : Int} (h : dlgB c hu hh tu th s e = true) : 0 ≤ s ∧ s ≤ 1000000 ∧ 0 ≤ e ∧ e ≤ 1000000 := by
  unfold dlgB at h
  simp only [Bool.and_eq_true, inB_iff] at h
  omega
theorem ok_sask : FnOk Try.prog 17 s_sask := by
  refine fnOk (fn := Try.f17) (F := F_sask) (hs := hs_sask) (tab_cons ok_sdv (tab_cons ok_sword tab_nil)) mixed rfl rfl rfl [.str, .str, .str, .str, .str, .int .i64, .int .i64, .bool, .str] (by kernel_rfl) (by simp) ?_
  intro a0 a1 a2 a3 a4 a5 a6 a7 a8 hp
  obtain ⟨h0, h1, h2, h3, h4, h8, -⟩ := hp
  refine ⟨fun _ _ => False, fun _ _ => 0, ?_, fun _ _ h => h.elim⟩
  rw [t_sask]
  simp only [F_sask_sdv, F_sask_sword, s_sdv, s_sword, Tree.holds, ltI_t, ltI_f, leI_t, leI_f, all_cons, all_nil, and_true, true_and, forall_eq, decide_eq_true_eq, decide_eq_false_iff_not, beq_iff_eq, beq_eq_false_iff_ne, bne_iff_ne, bne_eq_false_iff_eq, ne_eq, Decidable.not_not, selI_z, selB_z, selS_z, selN_z, selL_z, selI_s, selB_s, selS_s, selN_s, selL_s, Int.toNat_natCast, Nat.mul_one, Nat.zero_add, Nat.div_one, List.drop_zero, Nat.zero_mul, Nat.le_refl, Bool.not_eq_true', Bool.not_eq_false', Bool.false_eq_true, Bool.true_eq_false, not_true_eq_false, not_false_eq_true, false_imp_iff, true_imp_iff, if_true, if_false, sig, sigF, sigW, sigR, sigO, ByteArray.toList_eq]
  unfold askD
  refine ⟨⟨h0, h1, h2, h3, h4, trivial⟩, fun e => ?_, fun e => ⟨h8, fun e2 => ?_, fun e2 => ⟨fun e3 => ?_, fun e3 => ⟨fun e4 => ?_, fun e4 => ⟨?_, ?_⟩⟩⟩⟩⟩
  · rw [if_neg (by rw [e]; simp)]; rfl
  · rw [if_neg (by rw [e2]; simp)]; rfl
  · rw [if_pos ⟨e, e2⟩, if_pos (.inl e3)]; rfl
  · rw [if_pos ⟨e, e2⟩, if_pos (.inr e4)]; rfl
  · have := dlg_in e
    unfold inK; omega
  · rw [if_pos ⟨e, e2⟩, if_neg (by rw [e3]; simpa using e4)]; rfl
theorem ok_iask : FnOk Try.prog 16 s_iask := by
  refine fnOk (fn := Try.f16) (F := F_iask) (hs := hs_iask) (tab_cons ok_idv (tab_cons ok_iword tab_nil)) mixed rfl rfl rfl [.str, .str, .str, .str, .str, .int .i64, .int .i64, .bool, .str] (by kernel_rfl) (by simp) ?_
  intro a0 a1 a2 a3 a4 a5 a6 a7 a8 hp
  obtain ⟨h0, h1, h2, h3, h4, h8, -⟩ := hp
  refine ⟨fun _ _ => False, fun _ _ => 0, ?_, fun _ _ h => h.elim⟩
  rw [t_iask]
  simp only [F_iask_idv, F_iask_iword, s_idv, s_iword, Tree.holds, ltI_t, ltI_f, leI_t, leI_f, all_cons, all_nil, and_true, true_and, forall_eq, decide_eq_true_eq, decide_eq_false_iff_not, beq_iff_eq, beq_eq_false_iff_ne, bne_iff_ne, bne_eq_false_iff_eq, ne_eq, Decidable.not_not, selI_z, selB_z, selS_z, selN_z, selL_z, selI_s, selB_s, selS_s, selN_s, selL_s, Int.toNat_natCast, Nat.mul_one, Nat.zero_add, Nat.div_one, List.drop_zero, Nat.zero_mul, Nat.le_refl, Bool.not_eq_true', Bool.not_eq_false', Bool.false_eq_true, Bool.true_eq_false, not_true_eq_false, not_false_eq_true, false_imp_iff, true_imp_iff, if_true, if_false, sig, sigF, sigW, sigR, sigO, ByteArray.toList_eq]
  unfold askD
  refine ⟨⟨h0, h1, h2, h3, h4, trivial⟩, fun e => ?_, fun e => ⟨h8, fun e2 => ?_, fun e2 => ⟨fun e3 => ?_, fun e3 => ⟨fun e4 => ?_, fun e4 => ⟨?_, ?_⟩⟩⟩⟩⟩
  · rw [if_neg (by rw [e]; simp)]; rfl
  · rw [if_neg (by rw [e2]; simp)]; rfl
  · rw [if_pos ⟨e, e2⟩, if_pos (.inl e3)]; rfl
  · rw [if_pos ⟨e, e2⟩, if_pos (.inr e4)]; rfl
  · have := dlg_in e
    unfold inK; omega
  · rw [if_pos ⟨e, e2⟩, if_neg (by rw [e3]; simpa using e4)]; rfl
theorem ok_shear : FnOk Try.prog 21 s_shear := by
  refine fnOk (fn := Try.f21) (F := F_shear) (hs := hs_shear) (tab_cons ok_sdv (tab_cons ok_sseq tab_nil)) mixed rfl rfl rfl [.str, .str, .str, .str, .str, .int .i64, .int .i64, .bool, .str, .int .i64] (by kernel_rfl) (by simp) ?_
  intro a0 a1 a2 a3 a4 a5 a6 a7 a8 a9 hp
  obtain ⟨h0, h1, h2, h3, h4, h8, -⟩ := hp
  refine ⟨fun _ _ => False, fun _ _ => 0, ?_, fun _ _ h => h.elim⟩
  rw [t_shear]
  simp only [F_shear_sdv, F_shear_sseq, s_sdv, s_sseq, Tree.holds, ltI_t, ltI_f, leI_t, leI_f, all_cons, all_nil, and_true, true_and, forall_eq, decide_eq_true_eq, decide_eq_false_iff_not, beq_iff_eq, beq_eq_false_iff_ne, bne_iff_ne, bne_eq_false_iff_eq, ne_eq, Decidable.not_not, selI_z, selB_z, selS_z, selN_z, selL_z, selI_s, selB_s, selS_s, selN_s, selL_s, Int.toNat_natCast, Nat.mul_one, Nat.zero_add, Nat.div_one, List.drop_zero, Nat.zero_mul, Nat.le_refl, Bool.not_eq_true', Bool.not_eq_false', Bool.false_eq_true, Bool.true_eq_false, not_true_eq_false, not_false_eq_true, false_imp_iff, true_imp_iff, if_true, if_false, sig, sigF, sigW, sigR, sigO, ByteArray.toList_eq]
  unfold hearD
  refine ⟨⟨h0, h1, h2, h3, h4, trivial⟩, fun e => ?_, fun e => ⟨h8, fun e2 => ?_, fun e2 => ⟨fun e3 => ?_, fun e3 => ⟨fun e4 => ?_, fun e4 => ?_⟩⟩⟩⟩
  · rw [if_neg (by rw [e]; simp)]; rfl
  · rw [if_neg (by rw [e2]; simp)]; rfl
  · rw [if_pos ⟨e, e2⟩, if_pos e3]; rfl
  · rw [if_pos ⟨e, e2⟩, if_neg (by rw [e3]; simp), if_pos e4]; rfl
  · rw [if_pos ⟨e, e2⟩, if_neg (by rw [e3]; simp), if_neg (by omega)]; rfl
theorem ok_ihear : FnOk Try.prog 18 s_ihear := by
  refine fnOk (fn := Try.f18) (F := F_ihear) (hs := hs_ihear) (tab_cons ok_idv (tab_cons ok_iseq tab_nil)) mixed rfl rfl rfl [.str, .str, .str, .str, .str, .int .i64, .int .i64, .bool, .str, .int .i64] (by kernel_rfl) (by simp) ?_
  intro a0 a1 a2 a3 a4 a5 a6 a7 a8 a9 hp
  obtain ⟨h0, h1, h2, h3, h4, h8, -⟩ := hp
  refine ⟨fun _ _ => False, fun _ _ => 0, ?_, fun _ _ h => h.elim⟩
  rw [t_ihear]
  simp only [F_ihear_idv, F_ihear_iseq, s_idv, s_iseq, Tree.holds, ltI_t, ltI_f, leI_t, leI_f, all_cons, all_nil, and_true, true_and, forall_eq, decide_eq_true_eq, decide_eq_false_iff_not, beq_iff_eq, beq_eq_false_iff_ne, bne_iff_ne, bne_eq_false_iff_eq, ne_eq, Decidable.not_not, selI_z, selB_z, selS_z, selN_z, selL_z, selI_s, selB_s, selS_s, selN_s, selL_s, Int.toNat_natCast, Nat.mul_one, Nat.zero_add, Nat.div_one, List.drop_zero, Nat.zero_mul, Nat.le_refl, Bool.not_eq_true', Bool.not_eq_false', Bool.false_eq_true, Bool.true_eq_false, not_true_eq_false, not_false_eq_true, false_imp_iff, true_imp_iff, if_true, if_false, sig, sigF, sigW, sigR, sigO, ByteArray.toList_eq]
  unfold hearD
  refine ⟨⟨h0, h1, h2, h3, h4, trivial⟩, fun e => ?_, fun e => ⟨h8, fun e2 => ?_, fun e2 => ⟨fun e3 => ?_, fun e3 => ⟨fun e4 => ?_, fun e4 => ?_⟩⟩⟩⟩
  · rw [if_neg (by rw [e]; simp)]; rfl
  · rw [if_neg (by rw [e2]; simp)]; rfl
  · rw [if_pos ⟨e, e2⟩, if_pos e3]; rfl
  · rw [if_pos ⟨e, e2⟩, if_neg (by rw [e3]; simp), if_pos e4]; rfl
  · rw [if_pos ⟨e, e2⟩, if_neg (by rw [e3]; simp), if_neg (by omega)]; rfl
theorem ok_soth : FnOk Try.prog 23 s_soth := by
  refine fnOk (fn := Try.f23) (F := F_soth) (hs := hs_soth) (tab_cons ok_sdv tab_nil) mixed rfl rfl rfl [.str, .str, .str, .str, .str, .int .i64, .int .i64, .bool] (by kernel_rfl) (by simp) ?_
  intro a0 a1 a2 a3 a4 a5 a6 a7 hp
  obtain ⟨h0, h1, h2, h3, h4, -⟩ := hp
  refine ⟨fun _ _ => False, fun _ _ => 0, ?_, fun _ _ h => h.elim⟩
  rw [t_soth]
  simp only [F_soth_sdv, s_sdv, Tree.holds, ltI_t, ltI_f, leI_t, leI_f, all_cons, all_nil, and_true, true_and, forall_eq, decide_eq_true_eq, decide_eq_false_iff_not, beq_iff_eq, beq_eq_false_iff_ne, bne_iff_ne, bne_eq_false_iff_eq, ne_eq, Decidable.not_not, selI_z, selB_z, selS_z, selN_z, selL_z, selI_s, selB_s, selS_s, selN_s, selL_s, Int.toNat_natCast, Nat.mul_one, Nat.zero_add, Nat.div_one, List.drop_zero, Nat.zero_mul, Nat.le_refl, Bool.not_eq_true', Bool.not_eq_false', Bool.false_eq_true, Bool.true_eq_false, not_true_eq_false, not_false_eq_true, false_imp_iff, true_imp_iff, if_true, if_false, sig, sigF, sigW, sigR, sigO]
  unfold othD
  refine ⟨⟨h0, h1, h2, h3, h4, trivial⟩, fun e => ?_, fun e => ?_⟩
  · rw [if_neg (by rw [e]; simp)]; rfl
  · rw [if_pos e]; rfl
theorem ok_ioth : FnOk Try.prog 19 s_ioth := by
  refine fnOk (fn := Try.f19) (F := F_ioth) (hs := hs_ioth) (tab_cons ok_idv tab_nil) mixed rfl rfl rfl [.str, .str, .str, .str, .str, .int .i64, .int .i64, .bool] (by kernel_rfl) (by simp) ?_
  intro a0 a1 a2 a3 a4 a5 a6 a7 hp
  obtain ⟨h0, h1, h2, h3, h4, -⟩ := hp
  refine ⟨fun _ _ => False, fun _ _ => 0, ?_, fun _ _ h => h.elim⟩
  rw [t_ioth]
  simp only [F_ioth_idv, s_idv, Tree.holds, ltI_t, ltI_f, leI_t, leI_f, all_cons, all_nil, and_true, true_and, forall_eq, decide_eq_true_eq, decide_eq_false_iff_not, beq_iff_eq, beq_eq_false_iff_ne, bne_iff_ne, bne_eq_false_iff_eq, ne_eq, Decidable.not_not, selI_z, selB_z, selS_z, selN_z, selL_z, selI_s, selB_s, selS_s, selN_s, selL_s, Int.toNat_natCast, Nat.mul_one, Nat.zero_add, Nat.div_one, List.drop_zero, Nat.zero_mul, Nat.le_refl, Bool.not_eq_true', Bool.not_eq_false', Bool.false_eq_true, Bool.true_eq_false, not_true_eq_false, not_false_eq_true, false_imp_iff, true_imp_iff, if_true, if_false, sig, sigF, sigW, sigR, sigO]
  unfold othD
  refine ⟨⟨h0, h1, h2, h3, h4, trivial⟩, fun e => ?_, fun e => ?_⟩
  · rw [if_neg (by rw [e]; simp)]; rfl
  · rw [if_pos e]; rfl
theorem ok_szaddr : FnOk Try.prog 42 s_szaddr := by
  refine fnOk (fn := Try.f42) (F := F_szaddr) (hs := hs_szaddr) tab_nil mixed rfl rfl rfl [.str, .str, .int .i64] (by kernel_rfl) (by simp) ?_
  rintro a0 a1 a2 ⟨⟨h0, h1, -⟩, h2, h3⟩
  have h0 : a0.size ≤ maxLen := h0
  have h1 : a1.size ≤ maxLen := h1
  have h2 : -1 ≤ a2 := h2
  have h3 : a2 ≤ 2147483647 := h3
  unfold maxLen at h0 h1
  refine ⟨fun _ _ => False, fun _ _ => 0, ?_, fun _ _ h => h.elim⟩
  rw [t_szaddr]
  simp only [Tree.holds, ltI_t, ltI_f, leI_t, leI_f, all_cons, all_nil, and_true, true_and, forall_eq, decide_eq_true_eq, decide_eq_false_iff_not, beq_iff_eq, beq_eq_false_iff_ne, bne_iff_ne, bne_eq_false_iff_eq, ne_eq, Decidable.not_not, selI_z, selB_z, selS_z, selN_z, selL_z, selI_s, selB_s, selS_s, selN_s, selL_s, Int.toNat_natCast, Nat.mul_one, Nat.zero_add, Nat.div_one, List.drop_zero, Nat.zero_mul, Nat.le_refl, Bool.not_eq_true', Bool.not_eq_false', Bool.false_eq_true, Bool.true_eq_false, not_true_eq_false, not_false_eq_true, false_imp_iff, true_imp_iff, if_true, if_false, sig, sigF, sigW, sigR, sigO]
  refine ⟨by unfold inK; omega, fun e => ⟨_, rfl, by omega, by omega⟩, fun e => ⟨by unfold inK; omega, fun e => ⟨_, rfl, by omega, by omega⟩, fun e => ⟨_, rfl, by omega, by omega⟩⟩⟩
theorem ok_szdlg : FnOk Try.prog 24 s_szdlg := by
  refine fnOk (fn := Try.f24) (F := F_szdlg) (hs := hs_szdlg) (tab_cons ok_szaddr tab_nil) mixed rfl rfl rfl [.str, .str, .str, .str, .str, .int .i64, .int .i64, .bool, .int .i64] (by kernel_rfl) (by simp) ?_
  rintro a0 a1 a2 a3 a4 a5 a6 a7 a8 ⟨⟨h0, h1, h2, h3, h4, -⟩, h5, h6⟩
  have h0 : a0.size ≤ maxLen := h0
  have h5 : -1 ≤ a8 := h5
  have h6 : a8 ≤ 2147483647 := h6
  have h0' := h0
  unfold maxLen at h0'
  refine ⟨fun _ _ => False, fun _ _ => 0, ?_, fun _ _ h => h.elim⟩
  rw [t_szdlg]
  simp only [F_szdlg_szaddr, s_szaddr, Tree.holds, ltI_t, ltI_f, leI_t, leI_f, all_cons, all_nil, and_true, true_and, forall_eq, decide_eq_true_eq, decide_eq_false_iff_not, beq_iff_eq, beq_eq_false_iff_ne, bne_iff_ne, bne_eq_false_iff_eq, ne_eq, Decidable.not_not, selI_z, selB_z, selS_z, selN_z, selL_z, selI_s, selB_s, selS_s, selN_s, selL_s, Int.toNat_natCast, Nat.mul_one, Nat.zero_add, Nat.div_one, List.drop_zero, Nat.zero_mul, Nat.le_refl, Bool.not_eq_true', Bool.not_eq_false', Bool.false_eq_true, Bool.true_eq_false, not_true_eq_false, not_false_eq_true, false_imp_iff, true_imp_iff, if_true, if_false, sig, sigF, sigW, sigR, sigO]
  refine ⟨by unfold inK; omega, fun e => ⟨_, rfl, by omega, by omega⟩, fun e => ⟨⟨⟨h1, h2, trivial⟩, by omega, by omega⟩, ?_⟩⟩
  rintro ys ⟨r, rfl, r0, r1⟩
  simp only [F_szdlg_szaddr, s_szaddr, Tree.holds, ltI_t, ltI_f, leI_t, leI_f, all_cons, all_nil, and_true, true_and, forall_eq, decide_eq_true_eq, decide_eq_false_iff_not, beq_iff_eq, beq_eq_false_iff_ne, bne_iff_ne, bne_eq_false_iff_eq, ne_eq, Decidable.not_not, selI_z, selB_z, selS_z, selN_z, selL_z, selI_s, selB_s, selS_s, selN_s, selL_s, Int.toNat_natCast, Nat.mul_one, Nat.zero_add, Nat.div_one, List.drop_zero, Nat.zero_mul, Nat.le_refl, Bool.not_eq_true', Bool.not_eq_false', Bool.false_eq_true, Bool.true_eq_false, not_true_eq_false, not_false_eq_true, false_imp_iff, true_imp_iff, if_true, if_false, sig, sigF, sigW, sigR, sigO]
  refine ⟨fun e => ⟨_, rfl, by omega, by omega⟩, fun e => ⟨⟨⟨h3, h4, trivial⟩, by omega, by omega⟩, ?_⟩⟩
  rintro ys ⟨q, rfl, q0, q1⟩
  simp only [F_szdlg_szaddr, s_szaddr, Tree.holds, ltI_t, ltI_f, leI_t, leI_f, all_cons, all_nil, and_true, true_and, forall_eq, decide_eq_true_eq, decide_eq_false_iff_not, beq_iff_eq, beq_eq_false_iff_ne, bne_iff_ne, bne_eq_false_iff_eq, ne_eq, Decidable.not_not, selI_z, selB_z, selS_z, selN_z, selL_z, selI_s, selB_s, selS_s, selN_s, selL_s, Int.toNat_natCast, Nat.mul_one, Nat.zero_add, Nat.div_one, List.drop_zero, Nat.zero_mul, Nat.le_refl, Bool.not_eq_true', Bool.not_eq_false', Bool.false_eq_true, Bool.true_eq_false, not_true_eq_false, not_false_eq_true, false_imp_iff, true_imp_iff, if_true, if_false, sig, sigF, sigW, sigR, sigO]
  exact ⟨fun e => ⟨_, rfl, by omega, by omega⟩, fun e => ⟨_, rfl, by omega, by omega⟩⟩
theorem ok_szseq : FnOk Try.prog 28 s_szseq := by
  refine fnOk (fn := Try.f28) (F := F_szseq) (hs := hs_szseq) tab_nil mixed rfl rfl rfl [.str, .int .i64, .int .i64] (by kernel_rfl) (by simp) ?_
  rintro a0 a1 a2 ⟨⟨h0, -⟩, h2, h3⟩
  have h0 : a0.size ≤ maxLen := h0
  have h2 : -1 ≤ a2 := h2
  have h3 : a2 ≤ 2147483647 := h3
  unfold maxLen at h0
  refine ⟨fun _ _ => False, fun _ _ => 0, ?_, fun _ _ h => h.elim⟩
  rw [t_szseq]
  simp only [Tree.holds, ltI_t, ltI_f, leI_t, leI_f, all_cons, all_nil, and_true, true_and, forall_eq, decide_eq_true_eq, decide_eq_false_iff_not, beq_iff_eq, beq_eq_false_iff_ne, bne_iff_ne, bne_eq_false_iff_eq, ne_eq, Decidable.not_not, selI_z, selB_z, selS_z, selN_z, selL_z, selI_s, selB_s, selS_s, selN_s, selL_s, Int.toNat_natCast, Nat.mul_one, Nat.zero_add, Nat.div_one, List.drop_zero, Nat.zero_mul, Nat.le_refl, Bool.not_eq_true', Bool.not_eq_false', Bool.false_eq_true, Bool.true_eq_false, not_true_eq_false, not_false_eq_true, false_imp_iff, true_imp_iff, if_true, if_false, sig, sigF, sigW, sigR, sigO]
  exact ⟨by unfold inK; omega, fun e => ⟨_, rfl, by omega, by omega⟩, fun e => ⟨_, rfl, by omega, by omega⟩⟩
theorem ok_toaddr : FnOk Try.prog 43 s_toaddr := by
  refine fnOk (fn := Try.f43) (F := F_toaddr) (hs := hs_toaddr) tab_nil mixed rfl rfl rfl [.str, .str] (by kernel_rfl) (by simp) ?_
  intro a0 a1 _
  refine ⟨fun _ _ => False, fun _ _ => 0, ?_, fun _ _ h => h.elim⟩
  rw [t_toaddr]
  simp only [Tree.holds, ltI_t, ltI_f, leI_t, leI_f, all_cons, all_nil, and_true, true_and, forall_eq, decide_eq_true_eq, decide_eq_false_iff_not, beq_iff_eq, beq_eq_false_iff_ne, bne_iff_ne, bne_eq_false_iff_eq, ne_eq, Decidable.not_not, selI_z, selB_z, selS_z, selN_z, selL_z, selI_s, selB_s, selS_s, selN_s, selL_s, Int.toNat_natCast, Nat.mul_one, Nat.zero_add, Nat.div_one, List.drop_zero, Nat.zero_mul, Nat.le_refl, Bool.not_eq_true', Bool.not_eq_false', Bool.false_eq_true, Bool.true_eq_false, not_true_eq_false, not_false_eq_true, false_imp_iff, true_imp_iff, if_true, if_false, sig, sigF, sigW, sigR, sigO]
theorem ok_toseq : FnOk Try.prog 29 s_toseq := by
  refine fnOk (fn := Try.f29) (F := F_toseq) (hs := hs_toseq) tab_nil mixed rfl rfl rfl [.str, .int .i64] (by kernel_rfl) (by simp) ?_
  intro a0 a1 _
  refine ⟨fun _ _ => False, fun _ _ => 0, ?_, fun _ _ h => h.elim⟩
  rw [t_toseq]
  simp only [Tree.holds, ltI_t, ltI_f, leI_t, leI_f, all_cons, all_nil, and_true, true_and, forall_eq, decide_eq_true_eq, decide_eq_false_iff_not, beq_iff_eq, beq_eq_false_iff_ne, bne_iff_ne, bne_eq_false_iff_eq, ne_eq, Decidable.not_not, selI_z, selB_z, selS_z, selN_z, selL_z, selI_s, selB_s, selS_s, selN_s, selL_s, Int.toNat_natCast, Nat.mul_one, Nat.zero_add, Nat.div_one, List.drop_zero, Nat.zero_mul, Nat.le_refl, Bool.not_eq_true', Bool.not_eq_false', Bool.false_eq_true, Bool.true_eq_false, not_true_eq_false, not_false_eq_true, false_imp_iff, true_imp_iff, if_true, if_false, sig, sigF, sigW, sigR, sigO]
theorem ok_todlg : FnOk Try.prog 25 s_todlg := by
  refine fnOk (fn := Try.f25) (F := F_todlg) (hs := hs_todlg) (tab_cons ok_toaddr tab_nil) mixed rfl rfl rfl [.str, .str, .str, .str, .str, .int .i64, .int .i64, .bool] (by kernel_rfl) (by simp) ?_
  intro a0 a1 a2 a3 a4 a5 a6 a7 _
  refine ⟨fun _ _ => False, fun _ _ => 0, ?_, fun _ _ h => h.elim⟩
  rw [t_todlg]
  simp only [F_todlg_toaddr, s_toaddr, Tree.holds, ltI_t, ltI_f, leI_t, leI_f, all_cons, all_nil, and_true, true_and, forall_eq, decide_eq_true_eq, decide_eq_false_iff_not, beq_iff_eq, beq_eq_false_iff_ne, bne_iff_ne, bne_eq_false_iff_eq, ne_eq, Decidable.not_not, selI_z, selB_z, selS_z, selN_z, selL_z, selI_s, selB_s, selS_s, selN_s, selL_s, Int.toNat_natCast, Nat.mul_one, Nat.zero_add, Nat.div_one, List.drop_zero, Nat.zero_mul, Nat.le_refl, Bool.not_eq_true', Bool.not_eq_false', Bool.false_eq_true, Bool.true_eq_false, not_true_eq_false, not_false_eq_true, false_imp_iff, true_imp_iff, if_true, if_false, sig, sigF, sigW, sigR, sigO]
  rfl
theorem ok_eqaddr : FnOk Try.prog 44 s_eqaddr := by
  refine fnOk (fn := Try.f44) (F := F_eqaddr) (hs := hs_eqaddr) tab_nil mixed rfl rfl rfl [.str, .str, .str, .str] (by kernel_rfl) (by simp) ?_
  rintro a0 a1 a2 a3 ⟨h0, h1⟩
  obtain rfl : a0 = a2 := h0
  obtain rfl : a1 = a3 := h1
  refine ⟨fun _ _ => False, fun _ _ => 0, ?_, fun _ _ h => h.elim⟩
  rw [t_eqaddr]
  simp only [Tree.holds, ltI_t, ltI_f, leI_t, leI_f, all_cons, all_nil, and_true, true_and, forall_eq, decide_eq_true_eq, decide_eq_false_iff_not, beq_iff_eq, beq_eq_false_iff_ne, bne_iff_ne, bne_eq_false_iff_eq, ne_eq, Decidable.not_not, selI_z, selB_z, selS_z, selN_z, selL_z, selI_s, selB_s, selS_s, selN_s, selL_s, Int.toNat_natCast, Nat.mul_one, Nat.zero_add, Nat.div_one, List.drop_zero, Nat.zero_mul, Nat.le_refl, Bool.not_eq_true', Bool.not_eq_false', Bool.false_eq_true, Bool.true_eq_false, not_true_eq_false, not_false_eq_true, false_imp_iff, true_imp_iff, if_true, if_false, sig, sigF, sigW, sigR, sigO]
theorem ok_eqseq : FnOk Try.prog 27 s_eqseq := by
  refine fnOk (fn := Try.f27) (F := F_eqseq) (hs := hs_eqseq) tab_nil mixed rfl rfl rfl [.str, .int .i64, .str, .int .i64] (by kernel_rfl) (by simp) ?_
  rintro a0 a1 a2 a3 ⟨h0, h1⟩
  obtain rfl : a0 = a2 := h0
  obtain rfl : a1 = a3 := h1
  refine ⟨fun _ _ => False, fun _ _ => 0, ?_, fun _ _ h => h.elim⟩
  rw [t_eqseq]
  simp only [Tree.holds, ltI_t, ltI_f, leI_t, leI_f, all_cons, all_nil, and_true, true_and, forall_eq, decide_eq_true_eq, decide_eq_false_iff_not, beq_iff_eq, beq_eq_false_iff_ne, bne_iff_ne, bne_eq_false_iff_eq, ne_eq, Decidable.not_not, selI_z, selB_z, selS_z, selN_z, selL_z, selI_s, selB_s, selS_s, selN_s, selL_s, Int.toNat_natCast, Nat.mul_one, Nat.zero_add, Nat.div_one, List.drop_zero, Nat.zero_mul, Nat.le_refl, Bool.not_eq_true', Bool.not_eq_false', Bool.false_eq_true, Bool.true_eq_false, not_true_eq_false, not_false_eq_true, false_imp_iff, true_imp_iff, if_true, if_false, sig, sigF, sigW, sigR, sigO]
theorem ok_eqdlg : FnOk Try.prog 26 s_eqdlg := by
  refine fnOk (fn := Try.f26) (F := F_eqdlg) (hs := hs_eqdlg) (tab_cons ok_eqaddr tab_nil) mixed rfl rfl rfl [.str, .str, .str, .str, .str, .int .i64, .int .i64, .bool, .str, .str, .str, .str, .str, .int .i64, .int .i64, .bool] (by kernel_rfl) (by simp) ?_
  rintro a0 a1 a2 a3 a4 a5 a6 a7 b0 b1 b2 b3 b4 b5 b6 b7 ⟨h0, h1, h2, h3, h4, h5, h6, h7⟩
  obtain rfl : a0 = b0 := h0
  obtain rfl : a1 = b1 := h1
  obtain rfl : a2 = b2 := h2
  obtain rfl : a3 = b3 := h3
  obtain rfl : a4 = b4 := h4
  obtain rfl : a5 = b5 := h5
  obtain rfl : a6 = b6 := h6
  obtain rfl : a7 = b7 := h7
  refine ⟨fun _ _ => False, fun _ _ => 0, ?_, fun _ _ h => h.elim⟩
  rw [t_eqdlg]
  simp only [F_eqdlg_eqaddr, s_eqaddr, Tree.holds, ltI_t, ltI_f, leI_t, leI_f, all_cons, all_nil, and_true, true_and, forall_eq, decide_eq_true_eq, decide_eq_false_iff_not, beq_iff_eq, beq_eq_false_iff_ne, bne_iff_ne, bne_eq_false_iff_eq, ne_eq, Decidable.not_not, selI_z, selB_z, selS_z, selN_z, selL_z, selI_s, selB_s, selS_s, selN_s, selL_s, Int.toNat_natCast, Nat.mul_one, Nat.zero_add, Nat.div_one, List.drop_zero, Nat.zero_mul, Nat.le_refl, Bool.not_eq_true', Bool.not_eq_false', Bool.false_eq_true, Bool.true_eq_false, not_true_eq_false, not_false_eq_true, false_imp_iff, true_imp_iff, if_true, if_false, sig, sigF, sigW, sigR, sigO]
end Go.Proofs.Ytdofjbolhgoidaa.Mini
