/- Chapter 8: dialogs: draws and laws. -/
import Derived.Test.YtdofjbolhgoidaaDialogP
namespace Go.Proofs.Ytdofjbolhgoidaa.Mini
open Go Go.RowKit
set_option linter.unusedVariables false
set_option linter.unusedSimpArgs false
set_option maxRecDepth 20000
theorem w100 {s : ByteArray} (h : wOk s) : s.size ≤ 100 := by have := word_small h; omega
theorem m100 {s : ByteArray} (h : s.size ≤ 100) : s.size ≤ maxLen := by unfold maxLen; omega
theorem ok_ddlg : FnOk Try.prog 30 s_ddlg := by
  refine fnOkR (fn := Try.f30) (F := F_ddlg) (hs := hs_ddlg) (tab_cons ok_daddr (tab_cons ok_dodd (tab_cons ok_dpick tab_nil))) mixed rfl rfl rfl (by kernel_rfl) [.int .i64] (by kernel_rfl) (by simp [hs_ddlg, shapeW]) ?_
  rintro r n ⟨hr, hn0, hn1⟩
  obtain ⟨L, p, rfl, hL, hp0, hp1⟩ := rd_split hr
  have hn0 : 0 ≤ n := hn0
  have hn1 : n ≤ 1000 := hn1
  refine ⟨fun _ _ => False, fun _ _ => 0, ?_, fun _ _ h => h.elim⟩
  rw [t_ddlg]
  simp only [F_ddlg_daddr, F_ddlg_dodd, F_ddlg_dpick, s_daddr, s_dodd, s_dpick, Tree.holds, ltI_t, ltI_f, leI_t, leI_f, all_cons, all_nil, and_true, true_and, forall_eq, decide_eq_true_eq, decide_eq_false_iff_not, beq_iff_eq, beq_eq_false_iff_ne, bne_iff_ne, bne_eq_false_iff_eq, ne_eq, Decidable.not_not, selI_z, selB_z, selS_z, selN_z, selL_z, selI_s, selB_s, selS_s, selN_s, selL_s, Int.toNat_natCast, Nat.mul_one, Nat.zero_add, Nat.div_one, List.drop_zero, Nat.zero_mul, Nat.le_refl, Bool.not_eq_true', Bool.not_eq_false', Bool.false_eq_true, Bool.true_eq_false, not_true_eq_false, not_false_eq_true, false_imp_iff, true_imp_iff, if_true, if_false, sig, sigF, sigW, sigR, sigO]
  refine ⟨rd_in hL hp0 (by omega), ?_⟩
  rintro ys ⟨p1, rs, rfl, q1, q2, a, b, rfl, ha, hb⟩
  rw [rdN_z] at q1 q2
  simp only [F_ddlg_daddr, F_ddlg_dodd, F_ddlg_dpick, s_daddr, s_dodd, s_dpick, Tree.holds, ltI_t, ltI_f, leI_t, leI_f, all_cons, all_nil, and_true, true_and, forall_eq, decide_eq_true_eq, decide_eq_false_iff_not, beq_iff_eq, beq_eq_false_iff_ne, bne_iff_ne, bne_eq_false_iff_eq, ne_eq, Decidable.not_not, selI_z, selB_z, selS_z, selN_z, selL_z, selI_s, selB_s, selS_s, selN_s, selL_s, Int.toNat_natCast, Nat.mul_one, Nat.zero_add, Nat.div_one, List.drop_zero, Nat.zero_mul, Nat.le_refl, Bool.not_eq_true', Bool.not_eq_false', Bool.false_eq_true, Bool.true_eq_false, not_true_eq_false, not_false_eq_true, false_imp_iff, true_imp_iff, if_true, if_false, sig, sigF, sigW, sigR, sigO, rdB_z]
  refine ⟨rd_in hL (by omega) (by omega), ?_⟩
  rintro ys ⟨p2, rs, rfl, q3, q4, c, d, rfl, hc, hd⟩
  rw [rdN_z] at q3 q4
  simp only [F_ddlg_daddr, F_ddlg_dodd, F_ddlg_dpick, s_daddr, s_dodd, s_dpick, Tree.holds, ltI_t, ltI_f, leI_t, leI_f, all_cons, all_nil, and_true, true_and, forall_eq, decide_eq_true_eq, decide_eq_false_iff_not, beq_iff_eq, beq_eq_false_iff_ne, bne_iff_ne, bne_eq_false_iff_eq, ne_eq, Decidable.not_not, selI_z, selB_z, selS_z, selN_z, selL_z, selI_s, selB_s, selS_s, selN_s, selL_s, Int.toNat_natCast, Nat.mul_one, Nat.zero_add, Nat.div_one, List.drop_zero, Nat.zero_mul, Nat.le_refl, Bool.not_eq_true', Bool.not_eq_false', Bool.false_eq_true, Bool.true_eq_false, not_true_eq_false, not_false_eq_true, false_imp_iff, true_imp_iff, if_true, if_false, sig, sigF, sigW, sigR, sigO, rdB_z]
  refine ⟨⟨rd_in hL (by omega) (by omega), by omega, by omega⟩, ?_⟩
  rintro ys ⟨p3, rs, rfl, q5, q6, x, rfl, x0, x1⟩
  rw [rdN_z] at q5 q6
  simp only [F_ddlg_daddr, F_ddlg_dodd, F_ddlg_dpick, s_daddr, s_dodd, s_dpick, Tree.holds, ltI_t, ltI_f, leI_t, leI_f, all_cons, all_nil, and_true, true_and, forall_eq, decide_eq_true_eq, decide_eq_false_iff_not, beq_iff_eq, beq_eq_false_iff_ne, bne_iff_ne, bne_eq_false_iff_eq, ne_eq, Decidable.not_not, selI_z, selB_z, selS_z, selN_z, selL_z, selI_s, selB_s, selS_s, selN_s, selL_s, Int.toNat_natCast, Nat.mul_one, Nat.zero_add, Nat.div_one, List.drop_zero, Nat.zero_mul, Nat.le_refl, Bool.not_eq_true', Bool.not_eq_false', Bool.false_eq_true, Bool.true_eq_false, not_true_eq_false, not_false_eq_true, false_imp_iff, true_imp_iff, if_true, if_false, sig, sigF, sigW, sigR, sigO, rdB_z]
  refine ⟨⟨rd_in hL (by omega) (by omega), by omega, by omega⟩, ?_⟩
  rintro ys ⟨p4, rs, rfl, q7, q8, y, rfl, y0, y1⟩
  rw [rdN_z] at q7 q8
  have ht : 0 ≤ y.tdiv 13 ∧ y.tdiv 13 < ((2 : Nat) : Int) := by
    rw [Int.tdiv_eq_ediv_of_nonneg y0]
    have y1 : y < 14 := y1
    omega
  have hs : sel [D.list 0 0 (rdL L p3), .int .i64 x] 1 (.int .i64) = .int .i64 x := rfl
  simp only [F_ddlg_daddr, F_ddlg_dodd, F_ddlg_dpick, s_daddr, s_dodd, s_dpick, Tree.holds, ltI_t, ltI_f, leI_t, leI_f, all_cons, all_nil, and_true, true_and, forall_eq, decide_eq_true_eq, decide_eq_false_iff_not, beq_iff_eq, beq_eq_false_iff_ne, bne_iff_ne, bne_eq_false_iff_eq, ne_eq, Decidable.not_not, selI_z, selB_z, selS_z, selN_z, selL_z, selI_s, selB_s, selS_s, selN_s, selL_s, Int.toNat_natCast, Nat.mul_one, Nat.zero_add, Nat.div_one, List.drop_zero, Nat.zero_mul, Nat.le_refl, Bool.not_eq_true', Bool.not_eq_false', Bool.false_eq_true, Bool.true_eq_false, not_true_eq_false, not_false_eq_true, false_imp_iff, true_imp_iff, if_true, if_false, sig, sigF, sigW, sigR, sigO, rdB_z, hs]
  obtain ⟨z, g1, -, -⟩ := pick_int (ls := [.int .i64 x, .int .i64 1000000]) (n := 2) (lo := 0) (hi := 1000000) ht.1 ht.2 rfl (fun d hd => by
    simp only [List.mem_cons, List.not_mem_nil, or_false] at hd
    have x1 : x < 4 := x1
    rcases hd with rfl | rfl
    · exact ⟨x, rfl, by omega, by omega⟩
    · exact ⟨_, rfl, by omega, by omega⟩)
  rw [g1, sel_int g1, selI_of g1]
  refine ⟨⟨by omega, by unfold inK; omega⟩, ht, rfl, ⟨rd_in hL (by omega) (by omega), by omega, by omega⟩, ?_⟩
  rintro ys ⟨p5, rs, rfl, q9, q10, u, rfl, u0, u1⟩
  rw [rdN_z] at q9 q10
  simp only [F_ddlg_daddr, F_ddlg_dodd, F_ddlg_dpick, s_daddr, s_dodd, s_dpick, Tree.holds, ltI_t, ltI_f, leI_t, leI_f, all_cons, all_nil, and_true, true_and, forall_eq, decide_eq_true_eq, decide_eq_false_iff_not, beq_iff_eq, beq_eq_false_iff_ne, bne_iff_ne, bne_eq_false_iff_eq, ne_eq, Decidable.not_not, selI_z, selB_z, selS_z, selN_z, selL_z, selI_s, selB_s, selS_s, selN_s, selL_s, Int.toNat_natCast, Nat.mul_one, Nat.zero_add, Nat.div_one, List.drop_zero, Nat.zero_mul, Nat.le_refl, Bool.not_eq_true', Bool.not_eq_false', Bool.false_eq_true, Bool.true_eq_false, not_true_eq_false, not_false_eq_true, false_imp_iff, true_imp_iff, if_true, if_false, sig, sigF, sigW, sigR, sigO, rdB_z]
  refine ⟨⟨rd_in hL (by omega) (by omega), by omega, by omega⟩, ?_⟩
  rintro ys ⟨p6, rs, rfl, q11, q12, v, rfl, v0, v1⟩
  rw [rdN_z] at q11 q12
  simp only [F_ddlg_daddr, F_ddlg_dodd, F_ddlg_dpick, s_daddr, s_dodd, s_dpick, Tree.holds, ltI_t, ltI_f, leI_t, leI_f, all_cons, all_nil, and_true, true_and, forall_eq, decide_eq_true_eq, decide_eq_false_iff_not, beq_iff_eq, beq_eq_false_iff_ne, bne_iff_ne, bne_eq_false_iff_eq, ne_eq, Decidable.not_not, selI_z, selB_z, selS_z, selN_z, selL_z, selI_s, selB_s, selS_s, selN_s, selL_s, Int.toNat_natCast, Nat.mul_one, Nat.zero_add, Nat.div_one, List.drop_zero, Nat.zero_mul, Nat.le_refl, Bool.not_eq_true', Bool.not_eq_false', Bool.false_eq_true, Bool.true_eq_false, not_true_eq_false, not_false_eq_true, false_imp_iff, true_imp_iff, if_true, if_false, sig, sigF, sigW, sigR, sigO, rdB_z]
  refine ⟨⟨rd_in hL (by omega) (by omega), by omega, by omega⟩, ?_⟩
  rintro ys ⟨p7, rs, rfl, q13, q14, o, rfl, -⟩
  rw [rdN_z] at q13 q14
  simp only [F_ddlg_daddr, F_ddlg_dodd, F_ddlg_dpick, s_daddr, s_dodd, s_dpick, Tree.holds, ltI_t, ltI_f, leI_t, leI_f, all_cons, all_nil, and_true, true_and, forall_eq, decide_eq_true_eq, decide_eq_false_iff_not, beq_iff_eq, beq_eq_false_iff_ne, bne_iff_ne, bne_eq_false_iff_eq, ne_eq, Decidable.not_not, selI_z, selB_z, selS_z, selN_z, selL_z, selI_s, selB_s, selS_s, selN_s, selL_s, Int.toNat_natCast, Nat.mul_one, Nat.zero_add, Nat.div_one, List.drop_zero, Nat.zero_mul, Nat.le_refl, Bool.not_eq_true', Bool.not_eq_false', Bool.false_eq_true, Bool.true_eq_false, not_true_eq_false, not_false_eq_true, false_imp_iff, true_imp_iff, if_true, if_false, sig, sigF, sigW, sigR, sigO, rdB_z]
  refine ⟨fun _ => ⟨⟨rd_in hL (by omega) (by omega), by omega, by omega⟩, ?_⟩, fun _ => ⟨p7, _, rfl, (by rw [rdN_z]; omega), (by rw [rdN_z]; omega), _, _, _, _, _, _, _, _, rfl, (by show 2 ≤ 100; omega), w100 ha, w100 hb, w100 hc, w100 hd⟩⟩
  rintro ys ⟨p8, rs, rfl, q15, q16, k, rfl, k0, k1⟩
  rw [rdN_z] at q15 q16
  simp only [F_ddlg_daddr, F_ddlg_dodd, F_ddlg_dpick, s_daddr, s_dodd, s_dpick, Tree.holds, ltI_t, ltI_f, leI_t, leI_f, all_cons, all_nil, and_true, true_and, forall_eq, decide_eq_true_eq, decide_eq_false_iff_not, beq_iff_eq, beq_eq_false_iff_ne, bne_iff_ne, bne_eq_false_iff_eq, ne_eq, Decidable.not_not, selI_z, selB_z, selS_z, selN_z, selL_z, selI_s, selB_s, selS_s, selN_s, selL_s, Int.toNat_natCast, Nat.mul_one, Nat.zero_add, Nat.div_one, List.drop_zero, Nat.zero_mul, Nat.le_refl, Bool.not_eq_true', Bool.not_eq_false', Bool.false_eq_true, Bool.true_eq_false, not_true_eq_false, not_false_eq_true, false_imp_iff, true_imp_iff, if_true, if_false, sig, sigF, sigW, sigR, sigO, rdB_z]
  refine ⟨fun _ => ⟨p8, _, rfl, (by rw [rdN_z]; omega), (by rw [rdN_z]; omega), _, _, _, _, _, _, _, _, rfl, (by show 1 ≤ 100; omega), w100 ha, w100 hb, w100 hc, w100 hd⟩, fun _ => ⟨fun _ => ⟨p8, _, rfl, (by rw [rdN_z]; omega), (by rw [rdN_z]; omega), _, _, _, _, _, _, _, _, rfl, (by show 2 ≤ 100; omega), (by show 0 ≤ 100; omega), (by show 0 ≤ 100; omega), w100 hc, w100 hd⟩, fun _ => ⟨fun _ => ⟨⟨rd_in hL (by omega) (by omega), by omega, by omega⟩, ?_⟩, fun _ => ⟨p8, _, rfl, (by rw [rdN_z]; omega), (by rw [rdN_z]; omega), _, _, _, _, _, _, _, _, rfl, (by show 2 ≤ 100; omega), w100 ha, w100 hb, w100 hc, w100 hd⟩⟩⟩⟩
  rintro ys ⟨p9, rs, rfl, q17, q18, m, rfl, m0, m1⟩
  rw [rdN_z] at q17 q18
  simp only [F_ddlg_daddr, F_ddlg_dodd, F_ddlg_dpick, s_daddr, s_dodd, s_dpick, Tree.holds, ltI_t, ltI_f, leI_t, leI_f, all_cons, all_nil, and_true, true_and, forall_eq, decide_eq_true_eq, decide_eq_false_iff_not, beq_iff_eq, beq_eq_false_iff_ne, bne_iff_ne, bne_eq_false_iff_eq, ne_eq, Decidable.not_not, selI_z, selB_z, selS_z, selN_z, selL_z, selI_s, selB_s, selS_s, selN_s, selL_s, Int.toNat_natCast, Nat.mul_one, Nat.zero_add, Nat.div_one, List.drop_zero, Nat.zero_mul, Nat.le_refl, Bool.not_eq_true', Bool.not_eq_false', Bool.false_eq_true, Bool.true_eq_false, not_true_eq_false, not_false_eq_true, false_imp_iff, true_imp_iff, if_true, if_false, sig, sigF, sigW, sigR, sigO, rdB_z]
  have m1 : m < 2 := m1
  have hm : m = 0 ∨ m = 1 := by omega
  rcases hm with rfl | rfl
  · exact ⟨⟨by omega, by omega⟩, rfl, p9, _, rfl, (by rw [rdN_z]; omega), (by rw [rdN_z]; omega), _, _, _, _, _, _, _, _, rfl, (by show 2 ≤ 100; omega), w100 ha, w100 hb, w100 hc, w100 hd⟩
  · exact ⟨⟨by omega, by omega⟩, rfl, p9, _, rfl, (by rw [rdN_z]; omega), (by rw [rdN_z]; omega), _, _, _, _, _, _, _, _, rfl, (by show 2 ≤ 100; omega), w100 ha, w100 hb, w100 hc, w100 hd⟩
theorem ok_drseq : FnOk Try.prog 40 s_drseq := by
  refine fnOkR (fn := Try.f40) (F := F_drseq) (hs := hs_drseq) (tab_cons ok_dodd (tab_cons ok_dpick tab_nil)) mixed rfl rfl rfl (by kernel_rfl) [.int .i64] (by kernel_rfl) (by simp [hs_drseq, shapeW]) ?_
  rintro r n ⟨hr, hn0, hn1⟩
  obtain ⟨L, p, rfl, hL, hp0, hp1⟩ := rd_split hr
  have hn0 : 0 ≤ n := hn0
  have hn1 : n ≤ 1000 := hn1
  refine ⟨fun _ _ => False, fun _ _ => 0, ?_, fun _ _ h => h.elim⟩
  rw [t_drseq]
  simp only [F_drseq_dodd, F_drseq_dpick, s_dodd, s_dpick, Tree.holds, ltI_t, ltI_f, leI_t, leI_f, all_cons, all_nil, and_true, true_and, forall_eq, decide_eq_true_eq, decide_eq_false_iff_not, beq_iff_eq, beq_eq_false_iff_ne, bne_iff_ne, bne_eq_false_iff_eq, ne_eq, Decidable.not_not, selI_z, selB_z, selS_z, selN_z, selL_z, selI_s, selB_s, selS_s, selN_s, selL_s, Int.toNat_natCast, Nat.mul_one, Nat.zero_add, Nat.div_one, List.drop_zero, Nat.zero_mul, Nat.le_refl, Bool.not_eq_true', Bool.not_eq_false', Bool.false_eq_true, Bool.true_eq_false, not_true_eq_false, not_false_eq_true, false_imp_iff, true_imp_iff, if_true, if_false, sig, sigF, sigW, sigR, sigO]
  refine ⟨⟨rd_in hL (by omega) (by omega), by omega, by omega⟩, ?_⟩
  rintro ys ⟨p1, rs, rfl, q1, q2, o, rfl, -⟩
  rw [rdN_z] at q1 q2
  simp only [F_drseq_dodd, F_drseq_dpick, s_dodd, s_dpick, Tree.holds, ltI_t, ltI_f, leI_t, leI_f, all_cons, all_nil, and_true, true_and, forall_eq, decide_eq_true_eq, decide_eq_false_iff_not, beq_iff_eq, beq_eq_false_iff_ne, bne_iff_ne, bne_eq_false_iff_eq, ne_eq, Decidable.not_not, selI_z, selB_z, selS_z, selN_z, selL_z, selI_s, selB_s, selS_s, selN_s, selL_s, Int.toNat_natCast, Nat.mul_one, Nat.zero_add, Nat.div_one, List.drop_zero, Nat.zero_mul, Nat.le_refl, Bool.not_eq_true', Bool.not_eq_false', Bool.false_eq_true, Bool.true_eq_false, not_true_eq_false, not_false_eq_true, false_imp_iff, true_imp_iff, if_true, if_false, sig, sigF, sigW, sigR, sigO, rdB_z]
  refine ⟨fun _ => ⟨⟨rd_in hL (by omega) (by omega), by omega, by omega⟩, ?_⟩, fun _ => ⟨⟨rd_in hL (by omega) (by omega), by omega, by omega⟩, ?_⟩⟩
  · rintro ys ⟨p2, rs, rfl, q3, q4, x, rfl, x0, x1⟩
    rw [rdN_z] at q3 q4
    simp only [F_drseq_dodd, F_drseq_dpick, s_dodd, s_dpick, Tree.holds, ltI_t, ltI_f, leI_t, leI_f, all_cons, all_nil, and_true, true_and, forall_eq, decide_eq_true_eq, decide_eq_false_iff_not, beq_iff_eq, beq_eq_false_iff_ne, bne_iff_ne, bne_eq_false_iff_eq, ne_eq, Decidable.not_not, selI_z, selB_z, selS_z, selN_z, selL_z, selI_s, selB_s, selS_s, selN_s, selL_s, Int.toNat_natCast, Nat.mul_one, Nat.zero_add, Nat.div_one, List.drop_zero, Nat.zero_mul, Nat.le_refl, Bool.not_eq_true', Bool.not_eq_false', Bool.false_eq_true, Bool.true_eq_false, not_true_eq_false, not_false_eq_true, false_imp_iff, true_imp_iff, if_true, if_false, sig, sigF, sigW, sigR, sigO, rdB_z]
    have x1 : x < 4 := x1
    have hx : x = 0 ∨ x = 1 ∨ x = 2 ∨ x = 3 := by omega
    rcases hx with rfl | rfl | rfl | rfl <;> exact ⟨⟨by omega, by omega⟩, ⟨rfl, rfl⟩, p2, _, rfl, (by rw [rdN_z]; omega), (by rw [rdN_z]; omega), _, _, rfl, by decide⟩
  · rintro ys ⟨p2, rs, rfl, q3, q4, x, rfl, x0, x1⟩
    rw [rdN_z] at q3 q4
    simp only [F_drseq_dodd, F_drseq_dpick, s_dodd, s_dpick, Tree.holds, ltI_t, ltI_f, leI_t, leI_f, all_cons, all_nil, and_true, true_and, forall_eq, decide_eq_true_eq, decide_eq_false_iff_not, beq_iff_eq, beq_eq_false_iff_ne, bne_iff_ne, bne_eq_false_iff_eq, ne_eq, Decidable.not_not, selI_z, selB_z, selS_z, selN_z, selL_z, selI_s, selB_s, selS_s, selN_s, selL_s, Int.toNat_natCast, Nat.mul_one, Nat.zero_add, Nat.div_one, List.drop_zero, Nat.zero_mul, Nat.le_refl, Bool.not_eq_true', Bool.not_eq_false', Bool.false_eq_true, Bool.true_eq_false, not_true_eq_false, not_false_eq_true, false_imp_iff, true_imp_iff, if_true, if_false, sig, sigF, sigW, sigR, sigO, rdB_z]
    have x1 : x < 4 := x1
    have hx : x = 0 ∨ x = 1 ∨ x = 2 ∨ x = 3 := by omega
    refine ⟨⟨by omega, by omega⟩, by rcases hx with rfl | rfl | rfl | rfl <;> rfl, ⟨rd_in hL (by omega) (by omega), by omega, by omega⟩, ?_⟩
    rintro ys ⟨p3, rs, rfl, q5, q6, y, rfl, y0, y1⟩
    rw [rdN_z] at q5 q6
    simp only [F_drseq_dodd, F_drseq_dpick, s_dodd, s_dpick, Tree.holds, ltI_t, ltI_f, leI_t, leI_f, all_cons, all_nil, and_true, true_and, forall_eq, decide_eq_true_eq, decide_eq_false_iff_not, beq_iff_eq, beq_eq_false_iff_ne, bne_iff_ne, bne_eq_false_iff_eq, ne_eq, Decidable.not_not, selI_z, selB_z, selS_z, selN_z, selL_z, selI_s, selB_s, selS_s, selN_s, selL_s, Int.toNat_natCast, Nat.mul_one, Nat.zero_add, Nat.div_one, List.drop_zero, Nat.zero_mul, Nat.le_refl, Bool.not_eq_true', Bool.not_eq_false', Bool.false_eq_true, Bool.true_eq_false, not_true_eq_false, not_false_eq_true, false_imp_iff, true_imp_iff, if_true, if_false, sig, sigF, sigW, sigR, sigO, rdB_z]
    have y1 : y < 4 := y1
    refine ⟨by unfold inK; omega, p3, _, rfl, (by rw [rdN_z]; omega), (by rw [rdN_z]; omega), _, _, rfl, ?_⟩
    rcases hx with rfl | rfl | rfl | rfl <;> decide
theorem ok_ddv : FnOk Try.prog 11 s_ddv := by
  refine fnOk (fn := Try.f11) (F := F_ddv) (hs := hs_ddv) (tab_cons ok_dopen (tab_cons ok_ddlg tab_nil)) mixed rfl rfl rfl [.list 5] (by kernel_rfl) (by simp) ?_
  intro m bl hb
  refine ⟨fun h ys => False, fun h ys => 0, ?_, fun _ _ h => h.elim⟩
  rw [t_ddv]
  simp only [F_ddv_dopen, F_ddv_ddlg, s_dopen, s_ddlg, Tree.holds, ltI_t, ltI_f, leI_t, leI_f, all_cons, all_nil, and_true, true_and, forall_eq, decide_eq_true_eq, decide_eq_false_iff_not, beq_iff_eq, beq_eq_false_iff_ne, bne_iff_ne, bne_eq_false_iff_eq, ne_eq, Decidable.not_not, selI_z, selB_z, selS_z, selN_z, selL_z, selI_s, selB_s, selS_s, selN_s, selL_s, Int.toNat_natCast, Nat.mul_one, Nat.zero_add, Nat.div_one, List.drop_zero, Nat.zero_mul, Nat.le_refl, Bool.not_eq_true', Bool.not_eq_false', Bool.false_eq_true, Bool.true_eq_false, not_true_eq_false, not_false_eq_true, false_imp_iff, true_imp_iff, if_true, if_false, sig, sigF, sigW, sigR, sigO]
  refine ⟨hb, ?_⟩
  rintro ys ⟨L, hL, rfl⟩
  simp only [F_ddv_dopen, F_ddv_ddlg, s_dopen, s_ddlg, Tree.holds, ltI_t, ltI_f, leI_t, leI_f, all_cons, all_nil, and_true, true_and, forall_eq, decide_eq_true_eq, decide_eq_false_iff_not, beq_iff_eq, beq_eq_false_iff_ne, bne_iff_ne, bne_eq_false_iff_eq, ne_eq, Decidable.not_not, selI_z, selB_z, selS_z, selN_z, selL_z, selI_s, selB_s, selS_s, selN_s, selL_s, Int.toNat_natCast, Nat.mul_one, Nat.zero_add, Nat.div_one, List.drop_zero, Nat.zero_mul, Nat.le_refl, Bool.not_eq_true', Bool.not_eq_false', Bool.false_eq_true, Bool.true_eq_false, not_true_eq_false, not_false_eq_true, false_imp_iff, true_imp_iff, if_true, if_false, sig, sigF, sigW, sigR, sigO]
  refine ⟨⟨rd_in hL (by omega) (by omega), by omega, by omega⟩, ?_⟩
  rintro ys ⟨p1, rs, rfl, q1, q2, c, hu, hh, tu, th, s, e, b, rfl, hs⟩
  exact ⟨c, hu, hh, tu, th, s, e, b, rfl, hs⟩
theorem ok_ddo : FnOk Try.prog 22 s_ddo := by
  refine fnOk (fn := Try.f22) (F := F_ddo) (hs := hs_ddo) (tab_cons ok_dopen (tab_cons ok_ddlg tab_nil)) mixed rfl rfl rfl [.list 5] (by kernel_rfl) (by simp) ?_
  intro m bl hb
  refine ⟨fun h ys => False, fun h ys => 0, ?_, fun _ _ h => h.elim⟩
  rw [t_ddo]
  simp only [F_ddo_dopen, F_ddo_ddlg, s_dopen, s_ddlg, Tree.holds, ltI_t, ltI_f, leI_t, leI_f, all_cons, all_nil, and_true, true_and, forall_eq, decide_eq_true_eq, decide_eq_false_iff_not, beq_iff_eq, beq_eq_false_iff_ne, bne_iff_ne, bne_eq_false_iff_eq, ne_eq, Decidable.not_not, selI_z, selB_z, selS_z, selN_z, selL_z, selI_s, selB_s, selS_s, selN_s, selL_s, Int.toNat_natCast, Nat.mul_one, Nat.zero_add, Nat.div_one, List.drop_zero, Nat.zero_mul, Nat.le_refl, Bool.not_eq_true', Bool.not_eq_false', Bool.false_eq_true, Bool.true_eq_false, not_true_eq_false, not_false_eq_true, false_imp_iff, true_imp_iff, if_true, if_false, sig, sigF, sigW, sigR, sigO]
  refine ⟨hb, ?_⟩
  rintro ys ⟨L, hL, rfl⟩
  simp only [F_ddo_dopen, F_ddo_ddlg, s_dopen, s_ddlg, Tree.holds, ltI_t, ltI_f, leI_t, leI_f, all_cons, all_nil, and_true, true_and, forall_eq, decide_eq_true_eq, decide_eq_false_iff_not, beq_iff_eq, beq_eq_false_iff_ne, bne_iff_ne, bne_eq_false_iff_eq, ne_eq, Decidable.not_not, selI_z, selB_z, selS_z, selN_z, selL_z, selI_s, selB_s, selS_s, selN_s, selL_s, Int.toNat_natCast, Nat.mul_one, Nat.zero_add, Nat.div_one, List.drop_zero, Nat.zero_mul, Nat.le_refl, Bool.not_eq_true', Bool.not_eq_false', Bool.false_eq_true, Bool.true_eq_false, not_true_eq_false, not_false_eq_true, false_imp_iff, true_imp_iff, if_true, if_false, sig, sigF, sigW, sigR, sigO]
  refine ⟨⟨rd_in hL (by omega) (by omega), by omega, by omega⟩, ?_⟩
  rintro ys ⟨p1, rs, rfl, q1, q2, c, hu, hh, tu, th, s, e, b, rfl, hs⟩
  exact ⟨c, hu, hh, tu, th, s, e, b, rfl, hs⟩
theorem ok_dda : FnOk Try.prog 15 s_dda := by
  refine fnOk (fn := Try.f15) (F := F_dda) (hs := hs_dda) (tab_cons ok_dopen (tab_cons ok_ddlg (tab_cons ok_dpick tab_nil))) mixed rfl rfl rfl [.list 5] (by kernel_rfl) (by simp) ?_
  intro m bl hb
  refine ⟨fun h ys => False, fun h ys => 0, ?_, fun _ _ h => h.elim⟩
  rw [t_dda]
  simp only [F_dda_dopen, F_dda_ddlg, F_dda_dpick, s_dopen, s_ddlg, s_dpick, Tree.holds, ltI_t, ltI_f, leI_t, leI_f, all_cons, all_nil, and_true, true_and, forall_eq, decide_eq_true_eq, decide_eq_false_iff_not, beq_iff_eq, beq_eq_false_iff_ne, bne_iff_ne, bne_eq_false_iff_eq, ne_eq, Decidable.not_not, selI_z, selB_z, selS_z, selN_z, selL_z, selI_s, selB_s, selS_s, selN_s, selL_s, Int.toNat_natCast, Nat.mul_one, Nat.zero_add, Nat.div_one, List.drop_zero, Nat.zero_mul, Nat.le_refl, Bool.not_eq_true', Bool.not_eq_false', Bool.false_eq_true, Bool.true_eq_false, not_true_eq_false, not_false_eq_true, false_imp_iff, true_imp_iff, if_true, if_false, sig, sigF, sigW, sigR, sigO]
  refine ⟨hb, ?_⟩
  rintro ys ⟨L, hL, rfl⟩
  simp only [F_dda_dopen, F_dda_ddlg, F_dda_dpick, s_dopen, s_ddlg, s_dpick, Tree.holds, ltI_t, ltI_f, leI_t, leI_f, all_cons, all_nil, and_true, true_and, forall_eq, decide_eq_true_eq, decide_eq_false_iff_not, beq_iff_eq, beq_eq_false_iff_ne, bne_iff_ne, bne_eq_false_iff_eq, ne_eq, Decidable.not_not, selI_z, selB_z, selS_z, selN_z, selL_z, selI_s, selB_s, selS_s, selN_s, selL_s, Int.toNat_natCast, Nat.mul_one, Nat.zero_add, Nat.div_one, List.drop_zero, Nat.zero_mul, Nat.le_refl, Bool.not_eq_true', Bool.not_eq_false', Bool.false_eq_true, Bool.true_eq_false, not_true_eq_false, not_false_eq_true, false_imp_iff, true_imp_iff, if_true, if_false, sig, sigF, sigW, sigR, sigO]
  refine ⟨⟨rd_in hL (by omega) (by omega), by omega, by omega⟩, ?_⟩
  rintro ys ⟨p1, rs, rfl, q1, q2, c, hu, hh, tu, th, s, e, b, rfl, s0, s1, s2, s3, s4⟩
  rw [rdN_z] at q1 q2
  simp only [F_dda_dopen, F_dda_ddlg, F_dda_dpick, s_dopen, s_ddlg, s_dpick, Tree.holds, ltI_t, ltI_f, leI_t, leI_f, all_cons, all_nil, and_true, true_and, forall_eq, decide_eq_true_eq, decide_eq_false_iff_not, beq_iff_eq, beq_eq_false_iff_ne, bne_iff_ne, bne_eq_false_iff_eq, ne_eq, Decidable.not_not, selI_z, selB_z, selS_z, selN_z, selL_z, selI_s, selB_s, selS_s, selN_s, selL_s, Int.toNat_natCast, Nat.mul_one, Nat.zero_add, Nat.div_one, List.drop_zero, Nat.zero_mul, Nat.le_refl, Bool.not_eq_true', Bool.not_eq_false', Bool.false_eq_true, Bool.true_eq_false, not_true_eq_false, not_false_eq_true, false_imp_iff, true_imp_iff, if_true, if_false, sig, sigF, sigW, sigR, sigO, rdB_z, dlgD]
  refine ⟨⟨rd_in hL (by omega) (by omega), by omega, by omega⟩, ?_⟩
  rintro ys ⟨p2, rs, rfl, q3, q4, x, rfl, x0, x1⟩
  simp only [F_dda_dopen, F_dda_ddlg, F_dda_dpick, s_dopen, s_ddlg, s_dpick, Tree.holds, ltI_t, ltI_f, leI_t, leI_f, all_cons, all_nil, and_true, true_and, forall_eq, decide_eq_true_eq, decide_eq_false_iff_not, beq_iff_eq, beq_eq_false_iff_ne, bne_iff_ne, bne_eq_false_iff_eq, ne_eq, Decidable.not_not, selI_z, selB_z, selS_z, selN_z, selL_z, selI_s, selB_s, selS_s, selN_s, selL_s, Int.toNat_natCast, Nat.mul_one, Nat.zero_add, Nat.div_one, List.drop_zero, Nat.zero_mul, Nat.le_refl, Bool.not_eq_true', Bool.not_eq_false', Bool.false_eq_true, Bool.true_eq_false, not_true_eq_false, not_false_eq_true, false_imp_iff, true_imp_iff, if_true, if_false, sig, sigF, sigW, sigR, sigO, rdB_z]
  have x1 : x < 6 := x1
  have hx : x = 0 ∨ x = 1 ∨ x = 2 ∨ x = 3 ∨ x = 4 ∨ x = 5 := by omega
  rcases hx with rfl | rfl | rfl | rfl | rfl | rfl <;> exact ⟨⟨by omega, by omega⟩, rfl, (by decide), rfl, c, hu, hh, tu, th, s, e, b, _, rfl, s0, s1, s2, s3, s4, by decide⟩
theorem ok_ddh : FnOk Try.prog 20 s_ddh := by
  refine fnOk (fn := Try.f20) (F := F_ddh) (hs := hs_ddh) (tab_cons ok_dopen (tab_cons ok_ddlg (tab_cons ok_drseq tab_nil))) mixed rfl rfl rfl [.list 5] (by kernel_rfl) (by simp) ?_
  intro m bl hb
  refine ⟨fun h ys => False, fun h ys => 0, ?_, fun _ _ h => h.elim⟩
  rw [t_ddh]
  simp only [F_ddh_dopen, F_ddh_ddlg, F_ddh_drseq, s_dopen, s_ddlg, s_drseq, Tree.holds, ltI_t, ltI_f, leI_t, leI_f, all_cons, all_nil, and_true, true_and, forall_eq, decide_eq_true_eq, decide_eq_false_iff_not, beq_iff_eq, beq_eq_false_iff_ne, bne_iff_ne, bne_eq_false_iff_eq, ne_eq, Decidable.not_not, selI_z, selB_z, selS_z, selN_z, selL_z, selI_s, selB_s, selS_s, selN_s, selL_s, Int.toNat_natCast, Nat.mul_one, Nat.zero_add, Nat.div_one, List.drop_zero, Nat.zero_mul, Nat.le_refl, Bool.not_eq_true', Bool.not_eq_false', Bool.false_eq_true, Bool.true_eq_false, not_true_eq_false, not_false_eq_true, false_imp_iff, true_imp_iff, if_true, if_false, sig, sigF, sigW, sigR, sigO]
  refine ⟨hb, ?_⟩
  rintro ys ⟨L, hL, rfl⟩
  simp only [F_ddh_dopen, F_ddh_ddlg, F_ddh_drseq, s_dopen, s_ddlg, s_drseq, Tree.holds, ltI_t, ltI_f, leI_t, leI_f, all_cons, all_nil, and_true, true_and, forall_eq, decide_eq_true_eq, decide_eq_false_iff_not, beq_iff_eq, beq_eq_false_iff_ne, bne_iff_ne, bne_eq_false_iff_eq, ne_eq, Decidable.not_not, selI_z, selB_z, selS_z, selN_z, selL_z, selI_s, selB_s, selS_s, selN_s, selL_s, Int.toNat_natCast, Nat.mul_one, Nat.zero_add, Nat.div_one, List.drop_zero, Nat.zero_mul, Nat.le_refl, Bool.not_eq_true', Bool.not_eq_false', Bool.false_eq_true, Bool.true_eq_false, not_true_eq_false, not_false_eq_true, false_imp_iff, true_imp_iff, if_true, if_false, sig, sigF, sigW, sigR, sigO]
  refine ⟨⟨rd_in hL (by omega) (by omega), by omega, by omega⟩, ?_⟩
  rintro ys ⟨p1, rs, rfl, q1, q2, c, hu, hh, tu, th, s, e, b, rfl, s0, s1, s2, s3, s4⟩
  rw [rdN_z] at q1 q2
  simp only [F_ddh_dopen, F_ddh_ddlg, F_ddh_drseq, s_dopen, s_ddlg, s_drseq, Tree.holds, ltI_t, ltI_f, leI_t, leI_f, all_cons, all_nil, and_true, true_and, forall_eq, decide_eq_true_eq, decide_eq_false_iff_not, beq_iff_eq, beq_eq_false_iff_ne, bne_iff_ne, bne_eq_false_iff_eq, ne_eq, Decidable.not_not, selI_z, selB_z, selS_z, selN_z, selL_z, selI_s, selB_s, selS_s, selN_s, selL_s, Int.toNat_natCast, Nat.mul_one, Nat.zero_add, Nat.div_one, List.drop_zero, Nat.zero_mul, Nat.le_refl, Bool.not_eq_true', Bool.not_eq_false', Bool.false_eq_true, Bool.true_eq_false, not_true_eq_false, not_false_eq_true, false_imp_iff, true_imp_iff, if_true, if_false, sig, sigF, sigW, sigR, sigO, rdB_z, dlgD]
  refine ⟨⟨rd_in hL (by omega) (by omega), by omega, by omega⟩, ?_⟩
  rintro ys ⟨p2, rs, rfl, q3, q4, w, k, rfl, s5⟩
  exact ⟨c, hu, hh, tu, th, s, e, b, w, k, rfl, s0, s1, s2, s3, s4, s5⟩
theorem ok_edv : FnOk Try.prog 7 s_edv := by
  refine fnOk (fn := Try.f7) (F := F_edv) (hs := hs_edv) (tab_cons ok_idv (tab_cons ok_sdv (tab_cons ok_szdlg (tab_cons ok_todlg tab_nil)))) mixed rfl rfl rfl [.str, .str, .str, .str, .str, .int .i64, .int .i64, .bool] (by kernel_rfl) (by simp) ?_
  intro a0 a1 a2 a3 a4 a5 a6 a7 hw
  obtain ⟨h0, h1, h2, h3, h4, -⟩ := hw
  have hz := And.intro (wf_strs h0) (And.intro (wf_strs h1) (And.intro (wf_strs h2) (And.intro (wf_strs h3) (And.intro (wf_strs h4) trivial))))
  refine ⟨fun h ys => False, fun h ys => 0, ?_, fun _ _ h => h.elim⟩
  rw [t_edv]
  simp only [F_edv_idv, F_edv_sdv, F_edv_szdlg, F_edv_todlg, s_idv, s_sdv, s_szdlg, s_todlg, Tree.holds, ltI_t, ltI_f, leI_t, leI_f, all_cons, all_nil, and_true, true_and, forall_eq, decide_eq_true_eq, decide_eq_false_iff_not, beq_iff_eq, beq_eq_false_iff_ne, bne_iff_ne, bne_eq_false_iff_eq, ne_eq, Decidable.not_not, selI_z, selB_z, selS_z, selN_z, selL_z, selI_s, selB_s, selS_s, selN_s, selL_s, Int.toNat_natCast, Nat.mul_one, Nat.zero_add, Nat.div_one, List.drop_zero, Nat.zero_mul, Nat.le_refl, Bool.not_eq_true', Bool.not_eq_false', Bool.false_eq_true, Bool.true_eq_false, not_true_eq_false, not_false_eq_true, false_imp_iff, true_imp_iff, if_true, if_false, sig, sigF, sigW, sigR, sigO]
  refine ⟨⟨hz, by omega, by omega⟩, ?_⟩
  rintro ys ⟨r, rfl, r0, r1⟩
  simp only [F_edv_idv, F_edv_sdv, F_edv_szdlg, F_edv_todlg, s_idv, s_sdv, s_szdlg, s_todlg, Tree.holds, ltI_t, ltI_f, leI_t, leI_f, all_cons, all_nil, and_true, true_and, forall_eq, decide_eq_true_eq, decide_eq_false_iff_not, beq_iff_eq, beq_eq_false_iff_ne, bne_iff_ne, bne_eq_false_iff_eq, ne_eq, Decidable.not_not, selI_z, selB_z, selS_z, selN_z, selL_z, selI_s, selB_s, selS_s, selN_s, selL_s, Int.toNat_natCast, Nat.mul_one, Nat.zero_add, Nat.div_one, List.drop_zero, Nat.zero_mul, Nat.le_refl, Bool.not_eq_true', Bool.not_eq_false', Bool.false_eq_true, Bool.true_eq_false, not_true_eq_false, not_false_eq_true, false_imp_iff, true_imp_iff, if_true, if_false, sig, sigF, sigW, sigR, sigO, dlgD]
  exact ⟨fun _ => trivial, fun _ => ⟨hz, hz⟩⟩
theorem ok_eoth : FnOk Try.prog 10 s_eoth := by
  refine fnOk (fn := Try.f10) (F := F_eoth) (hs := hs_eoth) (tab_cons ok_ioth (tab_cons ok_soth (tab_cons ok_szdlg (tab_cons ok_todlg (tab_cons ok_eqdlg tab_nil))))) mixed rfl rfl rfl [.str, .str, .str, .str, .str, .int .i64, .int .i64, .bool] (by kernel_rfl) (by simp) ?_
  intro a0 a1 a2 a3 a4 a5 a6 a7 hw
  obtain ⟨h0, h1, h2, h3, h4, -⟩ := hw
  have hz := And.intro (wf_strs h0) (And.intro (wf_strs h1) (And.intro (wf_strs h2) (And.intro (wf_strs h3) (And.intro (wf_strs h4) trivial))))
  refine ⟨fun h ys => False, fun h ys => 0, ?_, fun _ _ h => h.elim⟩
  rw [t_eoth]
  simp only [F_eoth_ioth, F_eoth_soth, F_eoth_szdlg, F_eoth_todlg, F_eoth_eqdlg, s_ioth, s_soth, s_szdlg, s_todlg, s_eqdlg, Tree.holds, ltI_t, ltI_f, leI_t, leI_f, all_cons, all_nil, and_true, true_and, forall_eq, decide_eq_true_eq, decide_eq_false_iff_not, beq_iff_eq, beq_eq_false_iff_ne, bne_iff_ne, bne_eq_false_iff_eq, ne_eq, Decidable.not_not, selI_z, selB_z, selS_z, selN_z, selL_z, selI_s, selB_s, selS_s, selN_s, selL_s, Int.toNat_natCast, Nat.mul_one, Nat.zero_add, Nat.div_one, List.drop_zero, Nat.zero_mul, Nat.le_refl, Bool.not_eq_true', Bool.not_eq_false', Bool.false_eq_true, Bool.true_eq_false, not_true_eq_false, not_false_eq_true, false_imp_iff, true_imp_iff, if_true, if_false, sig, sigF, sigW, sigR, sigO]
  refine ⟨⟨hz, by omega, by omega⟩, ?_⟩
  rintro ys ⟨r, rfl, r0, r1⟩
  simp only [F_eoth_ioth, F_eoth_soth, F_eoth_szdlg, F_eoth_todlg, F_eoth_eqdlg, s_ioth, s_soth, s_szdlg, s_todlg, s_eqdlg, Tree.holds, ltI_t, ltI_f, leI_t, leI_f, all_cons, all_nil, and_true, true_and, forall_eq, decide_eq_true_eq, decide_eq_false_iff_not, beq_iff_eq, beq_eq_false_iff_ne, bne_iff_ne, bne_eq_false_iff_eq, ne_eq, Decidable.not_not, selI_z, selB_z, selS_z, selN_z, selL_z, selI_s, selB_s, selS_s, selN_s, selL_s, Int.toNat_natCast, Nat.mul_one, Nat.zero_add, Nat.div_one, List.drop_zero, Nat.zero_mul, Nat.le_refl, Bool.not_eq_true', Bool.not_eq_false', Bool.false_eq_true, Bool.true_eq_false, not_true_eq_false, not_false_eq_true, false_imp_iff, true_imp_iff, if_true, if_false, sig, sigF, sigW, sigR, sigO, dlgD]
  exact ⟨fun _ => trivial, fun _ => ⟨hz, hz⟩⟩
theorem ok_eask : FnOk Try.prog 8 s_eask := by
  refine fnOk (fn := Try.f8) (F := F_eask) (hs := hs_eask) (tab_cons ok_iask (tab_cons ok_sask (tab_cons ok_szdlg (tab_cons ok_todlg (tab_cons ok_eqdlg (tab_cons ok_eqseq tab_nil)))))) mixed rfl rfl rfl [.str, .str, .str, .str, .str, .int .i64, .int .i64, .bool, .str] (by kernel_rfl) (by simp) ?_
  intro a0 a1 a2 a3 a4 a5 a6 a7 a8 hw
  obtain ⟨h0, h1, h2, h3, h4, -, -, -, h8, -⟩ := hw
  have hz := And.intro (wf_strs h0) (And.intro (wf_strs h1) (And.intro (wf_strs h2) (And.intro (wf_strs h3) (And.intro (wf_strs h4) trivial))))
  have hz8 := And.intro (wf_strs h0) (And.intro (wf_strs h1) (And.intro (wf_strs h2) (And.intro (wf_strs h3) (And.intro (wf_strs h4) (And.intro (wf_strs h8) trivial)))))
  refine ⟨fun h ys => False, fun h ys => 0, ?_, fun _ _ h => h.elim⟩
  rw [t_eask]
  simp only [F_eask_iask, F_eask_sask, F_eask_szdlg, F_eask_todlg, F_eask_eqdlg, F_eask_eqseq, s_iask, s_sask, s_szdlg, s_todlg, s_eqdlg, s_eqseq, Tree.holds, ltI_t, ltI_f, leI_t, leI_f, all_cons, all_nil, and_true, true_and, forall_eq, decide_eq_true_eq, decide_eq_false_iff_not, beq_iff_eq, beq_eq_false_iff_ne, bne_iff_ne, bne_eq_false_iff_eq, ne_eq, Decidable.not_not, selI_z, selB_z, selS_z, selN_z, selL_z, selI_s, selB_s, selS_s, selN_s, selL_s, Int.toNat_natCast, Nat.mul_one, Nat.zero_add, Nat.div_one, List.drop_zero, Nat.zero_mul, Nat.le_refl, Bool.not_eq_true', Bool.not_eq_false', Bool.false_eq_true, Bool.true_eq_false, not_true_eq_false, not_false_eq_true, false_imp_iff, true_imp_iff, if_true, if_false, sig, sigF, sigW, sigR, sigO]
  refine ⟨fun _ => trivial, fun _ => ⟨⟨hz, by omega, by omega⟩, ?_⟩⟩
  rintro ys ⟨r, rfl, r0, r1⟩
  simp only [F_eask_iask, F_eask_sask, F_eask_szdlg, F_eask_todlg, F_eask_eqdlg, F_eask_eqseq, s_iask, s_sask, s_szdlg, s_todlg, s_eqdlg, s_eqseq, Tree.holds, ltI_t, ltI_f, leI_t, leI_f, all_cons, all_nil, and_true, true_and, forall_eq, decide_eq_true_eq, decide_eq_false_iff_not, beq_iff_eq, beq_eq_false_iff_ne, bne_iff_ne, bne_eq_false_iff_eq, ne_eq, Decidable.not_not, selI_z, selB_z, selS_z, selN_z, selL_z, selI_s, selB_s, selS_s, selN_s, selL_s, Int.toNat_natCast, Nat.mul_one, Nat.zero_add, Nat.div_one, List.drop_zero, Nat.zero_mul, Nat.le_refl, Bool.not_eq_true', Bool.not_eq_false', Bool.false_eq_true, Bool.true_eq_false, not_true_eq_false, not_false_eq_true, false_imp_iff, true_imp_iff, if_true, if_false, sig, sigF, sigW, sigR, sigO, dlgD]
  exact ⟨fun _ => trivial, fun _ => ⟨hz8, hz8⟩⟩
theorem ok_ehear : FnOk Try.prog 9 s_ehear := by
  refine fnOk (fn := Try.f9) (F := F_ehear) (hs := hs_ehear) (tab_cons ok_ihear (tab_cons ok_shear (tab_cons ok_szdlg (tab_cons ok_todlg (tab_cons ok_szseq (tab_cons ok_toseq (tab_cons ok_eqdlg tab_nil))))))) mixed rfl rfl rfl [.str, .str, .str, .str, .str, .int .i64, .int .i64, .bool, .str, .int .i64] (by kernel_rfl) (by simp) ?_
  intro a0 a1 a2 a3 a4 a5 a6 a7 a8 a9 hw
  obtain ⟨h0, h1, h2, h3, h4, -, -, -, h8, -⟩ := hw
  have hz := And.intro (wf_strs h0) (And.intro (wf_strs h1) (And.intro (wf_strs h2) (And.intro (wf_strs h3) (And.intro (wf_strs h4) trivial))))
  have hz8 := And.intro (wf_strs h0) (And.intro (wf_strs h1) (And.intro (wf_strs h2) (And.intro (wf_strs h3) (And.intro (wf_strs h4) (And.intro (wf_strs h8) trivial)))))
  refine ⟨fun h ys => False, fun h ys => 0, ?_, fun _ _ h => h.elim⟩
  rw [t_ehear]
  simp only [F_ehear_ihear, F_ehear_shear, F_ehear_szdlg, F_ehear_todlg, F_ehear_szseq, F_ehear_toseq, F_ehear_eqdlg, s_ihear, s_shear, s_szdlg, s_todlg, s_szseq, s_toseq, s_eqdlg, Tree.holds, ltI_t, ltI_f, leI_t, leI_f, all_cons, all_nil, and_true, true_and, forall_eq, decide_eq_true_eq, decide_eq_false_iff_not, beq_iff_eq, beq_eq_false_iff_ne, bne_iff_ne, bne_eq_false_iff_eq, ne_eq, Decidable.not_not, selI_z, selB_z, selS_z, selN_z, selL_z, selI_s, selB_s, selS_s, selN_s, selL_s, Int.toNat_natCast, Nat.mul_one, Nat.zero_add, Nat.div_one, List.drop_zero, Nat.zero_mul, Nat.le_refl, Bool.not_eq_true', Bool.not_eq_false', Bool.false_eq_true, Bool.true_eq_false, not_true_eq_false, not_false_eq_true, false_imp_iff, true_imp_iff, if_true, if_false, sig, sigF, sigW, sigR, sigO]
  refine ⟨⟨hz, by omega, by omega⟩, ?_⟩
  rintro ys ⟨r, rfl, r0, r1⟩
  simp only [F_ehear_ihear, F_ehear_shear, F_ehear_szdlg, F_ehear_todlg, F_ehear_szseq, F_ehear_toseq, F_ehear_eqdlg, s_ihear, s_shear, s_szdlg, s_todlg, s_szseq, s_toseq, s_eqdlg, Tree.holds, ltI_t, ltI_f, leI_t, leI_f, all_cons, all_nil, and_true, true_and, forall_eq, decide_eq_true_eq, decide_eq_false_iff_not, beq_iff_eq, beq_eq_false_iff_ne, bne_iff_ne, bne_eq_false_iff_eq, ne_eq, Decidable.not_not, selI_z, selB_z, selS_z, selN_z, selL_z, selI_s, selB_s, selS_s, selN_s, selL_s, Int.toNat_natCast, Nat.mul_one, Nat.zero_add, Nat.div_one, List.drop_zero, Nat.zero_mul, Nat.le_refl, Bool.not_eq_true', Bool.not_eq_false', Bool.false_eq_true, Bool.true_eq_false, not_true_eq_false, not_false_eq_true, false_imp_iff, true_imp_iff, if_true, if_false, sig, sigF, sigW, sigR, sigO, dlgD]
  refine ⟨fun _ => trivial, fun _ => ⟨⟨⟨wf_strs h8, trivial⟩, by omega, by omega⟩, ?_⟩⟩
  rintro ys ⟨q, rfl, k0, k1⟩
  simp only [F_ehear_ihear, F_ehear_shear, F_ehear_szdlg, F_ehear_todlg, F_ehear_szseq, F_ehear_toseq, F_ehear_eqdlg, s_ihear, s_shear, s_szdlg, s_todlg, s_szseq, s_toseq, s_eqdlg, Tree.holds, ltI_t, ltI_f, leI_t, leI_f, all_cons, all_nil, and_true, true_and, forall_eq, decide_eq_true_eq, decide_eq_false_iff_not, beq_iff_eq, beq_eq_false_iff_ne, bne_iff_ne, bne_eq_false_iff_eq, ne_eq, Decidable.not_not, selI_z, selB_z, selS_z, selN_z, selL_z, selI_s, selB_s, selS_s, selN_s, selL_s, Int.toNat_natCast, Nat.mul_one, Nat.zero_add, Nat.div_one, List.drop_zero, Nat.zero_mul, Nat.le_refl, Bool.not_eq_true', Bool.not_eq_false', Bool.false_eq_true, Bool.true_eq_false, not_true_eq_false, not_false_eq_true, false_imp_iff, true_imp_iff, if_true, if_false, sig, sigF, sigW, sigR, sigO, dlgD]
  exact ⟨fun _ => trivial, fun _ => ⟨hz8, hz8⟩⟩
theorem dlgB_empty (hu hh tu th : ByteArray) (s e : Int) : dlgB ⟨#[]⟩ hu hh tu th s e = false := rfl
theorem dlgB_zero {c hu hh tu th : ByteArray} {s e : Int} (h : dlgB c hu hh tu th s e = true) : dlgB c hu hh tu th 0 0 = true := by
  unfold dlgB at h ⊢
  simp only [Bool.and_eq_true] at h ⊢
  exact ⟨h.1, h.2.1, h.2.2.1, rfl, rfl⟩
theorem dlgB_num {c hu hh tu th : ByteArray} {s e k : Int} (h : dlgB c hu hh tu th s e = true) (h0 : 0 ≤ k) (h1 : k ≤ 1000000) : dlgB c hu hh tu th s k = true := by
  unfold dlgB at h ⊢
  simp only [Bool.and_eq_true] at h ⊢
  exact ⟨h.1, h.2.1, h.2.2.1, h.2.2.2.1, inB_iff.mpr ⟨h0, h1⟩⟩
theorem hear_again (c hu hh tu th : ByteArray) (s k : Int) (b : Bool) (w : ByteArray) : selI (hearD c hu hh tu th s k b w k) 8 ≠ 200 := by
  unfold hearD
  split
  · split
    · show (481 : Int) ≠ 200; omega
    · rw [if_pos (by omega)]
      show (500 : Int) ≠ 200; omega
  · show (0 : Int) ≠ 200; omega
theorem ok_ldv : FnOk Try.prog 3 s_ldv := by
  refine fnOk (fn := Try.f3) (F := F_ldv) (hs := hs_ldv) (tab_cons ok_idv (tab_cons ok_sdv (tab_cons ok_ddv (tab_cons ok_alive tab_nil)))) mixed rfl rfl rfl [.list 5] (by kernel_rfl) (by simp) ?_
  intro n l hw
  refine ⟨fun _ _ => False, fun _ _ => 0, ?_, fun _ _ h => h.elim⟩
  rw [t_ldv]
  simp only [F_ldv_idv, F_ldv_sdv, F_ldv_ddv, F_ldv_alive, s_idv, s_sdv, s_ddv, s_alive, Tree.holds, ltI_t, ltI_f, leI_t, leI_f, all_cons, all_nil, and_true, true_and, forall_eq, decide_eq_true_eq, decide_eq_false_iff_not, beq_iff_eq, beq_eq_false_iff_ne, bne_iff_ne, bne_eq_false_iff_eq, ne_eq, Decidable.not_not, selI_z, selB_z, selS_z, selN_z, selL_z, selI_s, selB_s, selS_s, selN_s, selL_s, Int.toNat_natCast, Nat.mul_one, Nat.zero_add, Nat.div_one, List.drop_zero, Nat.zero_mul, Nat.le_refl, Bool.not_eq_true', Bool.not_eq_false', Bool.false_eq_true, Bool.true_eq_false, not_true_eq_false, not_false_eq_true, false_imp_iff, true_imp_iff, if_true, if_false, sig, sigF, sigW, sigR, sigO]
  refine ⟨fun _ => trivial, fun _ => ⟨bytes_wf hw, ?_⟩⟩
  rintro ys ⟨c, hu, hh, tu, th, s, e, b, rfl, s0, s1, s2, s3, s4⟩
  simp only [F_ldv_idv, F_ldv_sdv, F_ldv_ddv, F_ldv_alive, s_idv, s_sdv, s_ddv, s_alive, Tree.holds, ltI_t, ltI_f, leI_t, leI_f, all_cons, all_nil, and_true, true_and, forall_eq, decide_eq_true_eq, decide_eq_false_iff_not, beq_iff_eq, beq_eq_false_iff_ne, bne_iff_ne, bne_eq_false_iff_eq, ne_eq, Decidable.not_not, selI_z, selB_z, selS_z, selN_z, selL_z, selI_s, selB_s, selS_s, selN_s, selL_s, Int.toNat_natCast, Nat.mul_one, Nat.zero_add, Nat.div_one, List.drop_zero, Nat.zero_mul, Nat.le_refl, Bool.not_eq_true', Bool.not_eq_false', Bool.false_eq_true, Bool.true_eq_false, not_true_eq_false, not_false_eq_true, false_imp_iff, true_imp_iff, if_true, if_false, sig, sigF, sigW, sigR, sigO, dlgD, dlgB_empty]
  have hz : szs [D.str c, .str hu, .str hh, .str tu, .str th, .int .i64 s, .int .i64 e, .bool b] [0, 1, 2, 3, 4] := ⟨m100 s0, m100 s1, m100 s2, m100 s3, m100 s4, trivial⟩
  have hz0 : szs [D.str ⟨#[]⟩, .str hu, .str hh, .str tu, .str th, .int .i64 0, .int .i64 0, .bool false] [0, 1, 2, 3, 4] := ⟨(by show 0 ≤ maxLen; omega), m100 s1, m100 s2, m100 s3, m100 s4, trivial⟩
  have hz1 : szs [D.str c, .str hu, .str hh, .str tu, .str th, .int .i64 0, .int .i64 0, .bool false] [0, 1, 2, 3, 4] := ⟨m100 s0, m100 s1, m100 s2, m100 s3, m100 s4, trivial⟩
  exact ⟨hz, hz, hz0, fun _ => trivial, fun h => ⟨hz1, fun _ => trivial, fun h2 => by rw [dlgB_zero h] at h2; cases h2⟩⟩
theorem ok_lhear : FnOk Try.prog 5 s_lhear := by
  refine fnOk (fn := Try.f5) (F := F_lhear) (hs := hs_lhear) (tab_cons ok_ihear (tab_cons ok_shear (tab_cons ok_idv (tab_cons ok_ddh (tab_cons ok_alive tab_nil))))) mixed rfl rfl rfl [.list 5] (by kernel_rfl) (by simp) ?_
  intro n l hw
  refine ⟨fun _ _ => False, fun _ _ => 0, ?_, fun _ _ h => h.elim⟩
  rw [t_lhear]
  simp only [F_lhear_ihear, F_lhear_shear, F_lhear_idv, F_lhear_ddh, F_lhear_alive, s_ihear, s_shear, s_idv, s_ddh, s_alive, Tree.holds, ltI_t, ltI_f, leI_t, leI_f, all_cons, all_nil, and_true, true_and, forall_eq, decide_eq_true_eq, decide_eq_false_iff_not, beq_iff_eq, beq_eq_false_iff_ne, bne_iff_ne, bne_eq_false_iff_eq, ne_eq, Decidable.not_not, selI_z, selB_z, selS_z, selN_z, selL_z, selI_s, selB_s, selS_s, selN_s, selL_s, Int.toNat_natCast, Nat.mul_one, Nat.zero_add, Nat.div_one, List.drop_zero, Nat.zero_mul, Nat.le_refl, Bool.not_eq_true', Bool.not_eq_false', Bool.false_eq_true, Bool.true_eq_false, not_true_eq_false, not_false_eq_true, false_imp_iff, true_imp_iff, if_true, if_false, sig, sigF, sigW, sigR, sigO]
  refine ⟨fun _ => trivial, fun _ => ⟨bytes_wf hw, ?_⟩⟩
  rintro ys ⟨c, hu, hh, tu, th, s, e, b, w, k, rfl, s0, s1, s2, s3, s4, s5⟩
  simp only [F_lhear_ihear, F_lhear_shear, F_lhear_idv, F_lhear_ddh, F_lhear_alive, s_ihear, s_shear, s_idv, s_ddh, s_alive, Tree.holds, ltI_t, ltI_f, leI_t, leI_f, all_cons, all_nil, and_true, true_and, forall_eq, decide_eq_true_eq, decide_eq_false_iff_not, beq_iff_eq, beq_eq_false_iff_ne, bne_iff_ne, bne_eq_false_iff_eq, ne_eq, Decidable.not_not, selI_z, selB_z, selS_z, selN_z, selL_z, selI_s, selB_s, selS_s, selN_s, selL_s, Int.toNat_natCast, Nat.mul_one, Nat.zero_add, Nat.div_one, List.drop_zero, Nat.zero_mul, Nat.le_refl, Bool.not_eq_true', Bool.not_eq_false', Bool.false_eq_true, Bool.true_eq_false, not_true_eq_false, not_false_eq_true, false_imp_iff, true_imp_iff, if_true, if_false, sig, sigF, sigW, sigR, sigO, dlgD, List.cons_append, List.nil_append]
  have hz : szs [D.str c, .str hu, .str hh, .str tu, .str th, .int .i64 s, .int .i64 e, .bool b, .str w, .int .i64 k] [0, 1, 2, 3, 4, 8] := ⟨m100 s0, m100 s1, m100 s2, m100 s3, m100 s4, m100 s5, trivial⟩
  by_cases h1 : dlgB c hu hh tu th s e = true ∧ seqB w k = true
  · cases b
    · by_cases h2 : k ≤ e
      · have e1 : hearD c hu hh tu th s e false w k = dlgD c hu hh tu th s e false ++ [.int .i64 500] := by unfold hearD; rw [if_pos h1, if_neg (by simp), if_pos h2]
        simp only [e1, dlgD, List.cons_append, List.nil_append, F_lhear_ihear, F_lhear_shear, F_lhear_idv, F_lhear_ddh, F_lhear_alive, s_ihear, s_shear, s_idv, s_ddh, s_alive, Tree.holds, ltI_t, ltI_f, leI_t, leI_f, all_cons, all_nil, and_true, true_and, forall_eq, decide_eq_true_eq, decide_eq_false_iff_not, beq_iff_eq, beq_eq_false_iff_ne, bne_iff_ne, bne_eq_false_iff_eq, ne_eq, Decidable.not_not, selI_z, selB_z, selS_z, selN_z, selL_z, selI_s, selB_s, selS_s, selN_s, selL_s, Int.toNat_natCast, Nat.mul_one, Nat.zero_add, Nat.div_one, List.drop_zero, Nat.zero_mul, Nat.le_refl, Bool.not_eq_true', Bool.not_eq_false', Bool.false_eq_true, Bool.true_eq_false, not_true_eq_false, not_false_eq_true, false_imp_iff, true_imp_iff, if_true, if_false, sig, sigF, sigW, sigR, sigO]
        refine ⟨hz, hz, ?_⟩
        simp
      · have e1 : hearD c hu hh tu th s e false w k = dlgD c hu hh tu th s k (isBye w) ++ [.int .i64 200] := by unfold hearD; rw [if_pos h1, if_neg (by simp), if_neg h2]
        simp only [e1, dlgD, List.cons_append, List.nil_append, F_lhear_ihear, F_lhear_shear, F_lhear_idv, F_lhear_ddh, F_lhear_alive, s_ihear, s_shear, s_idv, s_ddh, s_alive, Tree.holds, ltI_t, ltI_f, leI_t, leI_f, all_cons, all_nil, and_true, true_and, forall_eq, decide_eq_true_eq, decide_eq_false_iff_not, beq_iff_eq, beq_eq_false_iff_ne, bne_iff_ne, bne_eq_false_iff_eq, ne_eq, Decidable.not_not, selI_z, selB_z, selS_z, selN_z, selL_z, selI_s, selB_s, selS_s, selN_s, selL_s, Int.toNat_natCast, Nat.mul_one, Nat.zero_add, Nat.div_one, List.drop_zero, Nat.zero_mul, Nat.le_refl, Bool.not_eq_true', Bool.not_eq_false', Bool.false_eq_true, Bool.true_eq_false, not_true_eq_false, not_false_eq_true, false_imp_iff, true_imp_iff, if_true, if_false, sig, sigF, sigW, sigR, sigO]
        refine ⟨hz, hz, ?_⟩
        have hk := seq_word h1.2
        have hd := dlgB_num h1.1 (k := k) (by omega) hk.2.2
        have ha := hear_again c hu hh tu th s k (isBye w) w
        have z1 : szs [D.str c, .str hu, .str hh, .str tu, .str th, .int .i64 s, .int .i64 k, .bool (isBye w), .str w, .int .i64 k] [0, 1, 2, 3, 4, 8] := ⟨m100 s0, m100 s1, m100 s2, m100 s3, m100 s4, m100 s5, trivial⟩
        have z2 : szs [D.str c, .str hu, .str hh, .str tu, .str th, .int .i64 s, .int .i64 k, .bool (isBye w)] [0, 1, 2, 3, 4] := ⟨m100 s0, m100 s1, m100 s2, m100 s3, m100 s4, trivial⟩
        simp [z1, z2, hd, ha]
    · have e1 : hearD c hu hh tu th s e true w k = dlgD c hu hh tu th s e true ++ [.int .i64 481] := by unfold hearD; rw [if_pos h1, if_pos rfl]
      simp only [e1, dlgD, List.cons_append, List.nil_append, F_lhear_ihear, F_lhear_shear, F_lhear_idv, F_lhear_ddh, F_lhear_alive, s_ihear, s_shear, s_idv, s_ddh, s_alive, Tree.holds, ltI_t, ltI_f, leI_t, leI_f, all_cons, all_nil, and_true, true_and, forall_eq, decide_eq_true_eq, decide_eq_false_iff_not, beq_iff_eq, beq_eq_false_iff_ne, bne_iff_ne, bne_eq_false_iff_eq, ne_eq, Decidable.not_not, selI_z, selB_z, selS_z, selN_z, selL_z, selI_s, selB_s, selS_s, selN_s, selL_s, Int.toNat_natCast, Nat.mul_one, Nat.zero_add, Nat.div_one, List.drop_zero, Nat.zero_mul, Nat.le_refl, Bool.not_eq_true', Bool.not_eq_false', Bool.false_eq_true, Bool.true_eq_false, not_true_eq_false, not_false_eq_true, false_imp_iff, true_imp_iff, if_true, if_false, sig, sigF, sigW, sigR, sigO]
      refine ⟨hz, hz, ?_⟩
      simp
  · have e1 : hearD c hu hh tu th s e b w k = zeroD ++ [.int .i64 0] := by unfold hearD; rw [if_neg h1]
    simp only [e1, zeroD, dlgD, List.cons_append, List.nil_append, F_lhear_ihear, F_lhear_shear, F_lhear_idv, F_lhear_ddh, F_lhear_alive, s_ihear, s_shear, s_idv, s_ddh, s_alive, Tree.holds, ltI_t, ltI_f, leI_t, leI_f, all_cons, all_nil, and_true, true_and, forall_eq, decide_eq_true_eq, decide_eq_false_iff_not, beq_iff_eq, beq_eq_false_iff_ne, bne_iff_ne, bne_eq_false_iff_eq, ne_eq, Decidable.not_not, selI_z, selB_z, selS_z, selN_z, selL_z, selI_s, selB_s, selS_s, selN_s, selL_s, Int.toNat_natCast, Nat.mul_one, Nat.zero_add, Nat.div_one, List.drop_zero, Nat.zero_mul, Nat.le_refl, Bool.not_eq_true', Bool.not_eq_false', Bool.false_eq_true, Bool.true_eq_false, not_true_eq_false, not_false_eq_true, false_imp_iff, true_imp_iff, if_true, if_false, sig, sigF, sigW, sigR, sigO]
    refine ⟨hz, hz, ?_⟩
    simp
theorem seq_of {a : ByteArray} {n : Int} (h : wordB a.data.toList = true) (h1 : 1 ≤ n) (h2 : n ≤ 1000000) : seqB a n = true := by
  unfold seqB; simp [h, h1, h2]
theorem dlgB_swap {c hu hh tu th : ByteArray} {s e : Int} (h : dlgB c hu hh tu th s e = true) : dlgB c tu th hu hh e s = true := by
  unfold dlgB at h ⊢
  simp only [Bool.and_eq_true] at h ⊢
  exact ⟨h.1, h.2.2.1, h.2.1, h.2.2.2.2, h.2.2.2.1⟩
theorem ok_loth : FnOk Try.prog 6 s_loth := by
  refine fnOk (fn := Try.f6) (F := F_loth) (hs := hs_loth) (tab_cons ok_ioth (tab_cons ok_soth (tab_cons ok_idv (tab_cons ok_ddo (tab_cons ok_alive tab_nil))))) mixed rfl rfl rfl [.list 5] (by kernel_rfl) (by simp) ?_
  intro n l hw
  refine ⟨fun _ _ => False, fun _ _ => 0, ?_, fun _ _ h => h.elim⟩
  rw [t_loth]
  simp only [F_loth_ioth, F_loth_soth, F_loth_idv, F_loth_ddo, F_loth_alive, s_ioth, s_soth, s_idv, s_ddo, s_alive, Tree.holds, ltI_t, ltI_f, leI_t, leI_f, all_cons, all_nil, and_true, true_and, forall_eq, decide_eq_true_eq, decide_eq_false_iff_not, beq_iff_eq, beq_eq_false_iff_ne, bne_iff_ne, bne_eq_false_iff_eq, ne_eq, Decidable.not_not, selI_z, selB_z, selS_z, selN_z, selL_z, selI_s, selB_s, selS_s, selN_s, selL_s, Int.toNat_natCast, Nat.mul_one, Nat.zero_add, Nat.div_one, List.drop_zero, Nat.zero_mul, Nat.le_refl, Bool.not_eq_true', Bool.not_eq_false', Bool.false_eq_true, Bool.true_eq_false, not_true_eq_false, not_false_eq_true, false_imp_iff, true_imp_iff, if_true, if_false, sig, sigF, sigW, sigR, sigO]
  refine ⟨fun _ => trivial, fun _ => ⟨bytes_wf hw, ?_⟩⟩
  rintro ys ⟨c, hu, hh, tu, th, s, e, b, rfl, s0, s1, s2, s3, s4⟩
  simp only [F_loth_ioth, F_loth_soth, F_loth_idv, F_loth_ddo, F_loth_alive, s_ioth, s_soth, s_idv, s_ddo, s_alive, Tree.holds, ltI_t, ltI_f, leI_t, leI_f, all_cons, all_nil, and_true, true_and, forall_eq, decide_eq_true_eq, decide_eq_false_iff_not, beq_iff_eq, beq_eq_false_iff_ne, bne_iff_ne, bne_eq_false_iff_eq, ne_eq, Decidable.not_not, selI_z, selB_z, selS_z, selN_z, selL_z, selI_s, selB_s, selS_s, selN_s, selL_s, Int.toNat_natCast, Nat.mul_one, Nat.zero_add, Nat.div_one, List.drop_zero, Nat.zero_mul, Nat.le_refl, Bool.not_eq_true', Bool.not_eq_false', Bool.false_eq_true, Bool.true_eq_false, not_true_eq_false, not_false_eq_true, false_imp_iff, true_imp_iff, if_true, if_false, sig, sigF, sigW, sigR, sigO, dlgD]
  have hz : szs [D.str c, .str hu, .str hh, .str tu, .str th, .int .i64 s, .int .i64 e, .bool b] [0, 1, 2, 3, 4] := ⟨m100 s0, m100 s1, m100 s2, m100 s3, m100 s4, trivial⟩
  by_cases h1 : dlgB c hu hh tu th s e = true
  · have e1 : othD c hu hh tu th s e b = dlgD c tu th hu hh e s b := by unfold othD; rw [if_pos h1]
    have h2 := dlgB_swap h1
    have e2 : othD c tu th hu hh e s b = dlgD c hu hh tu th s e b := by unfold othD; rw [if_pos h2]
    have z1 : szs [D.str c, .str tu, .str th, .str hu, .str hh, .int .i64 e, .int .i64 s, .bool b] [0, 1, 2, 3, 4] := ⟨m100 s0, m100 s3, m100 s4, m100 s1, m100 s2, trivial⟩
    simp only [e1, e2, dlgD, F_loth_ioth, F_loth_soth, F_loth_idv, F_loth_ddo, F_loth_alive, s_ioth, s_soth, s_idv, s_ddo, s_alive, Tree.holds, ltI_t, ltI_f, leI_t, leI_f, all_cons, all_nil, and_true, true_and, forall_eq, decide_eq_true_eq, decide_eq_false_iff_not, beq_iff_eq, beq_eq_false_iff_ne, bne_iff_ne, bne_eq_false_iff_eq, ne_eq, Decidable.not_not, selI_z, selB_z, selS_z, selN_z, selL_z, selI_s, selB_s, selS_s, selN_s, selL_s, Int.toNat_natCast, Nat.mul_one, Nat.zero_add, Nat.div_one, List.drop_zero, Nat.zero_mul, Nat.le_refl, Bool.not_eq_true', Bool.not_eq_false', Bool.false_eq_true, Bool.true_eq_false, not_true_eq_false, not_false_eq_true, false_imp_iff, true_imp_iff, if_true, if_false, sig, sigF, sigW, sigR, sigO]
    refine ⟨hz, hz, ?_⟩
    simp [hz, z1, h1, h2]
  · have e1 : othD c hu hh tu th s e b = zeroD := by unfold othD; rw [if_neg h1]
    simp only [e1, zeroD, dlgD, F_loth_ioth, F_loth_soth, F_loth_idv, F_loth_ddo, F_loth_alive, s_ioth, s_soth, s_idv, s_ddo, s_alive, Tree.holds, ltI_t, ltI_f, leI_t, leI_f, all_cons, all_nil, and_true, true_and, forall_eq, decide_eq_true_eq, decide_eq_false_iff_not, beq_iff_eq, beq_eq_false_iff_ne, bne_iff_ne, bne_eq_false_iff_eq, ne_eq, Decidable.not_not, selI_z, selB_z, selS_z, selN_z, selL_z, selI_s, selB_s, selS_s, selN_s, selL_s, Int.toNat_natCast, Nat.mul_one, Nat.zero_add, Nat.div_one, List.drop_zero, Nat.zero_mul, Nat.le_refl, Bool.not_eq_true', Bool.not_eq_false', Bool.false_eq_true, Bool.true_eq_false, not_true_eq_false, not_false_eq_true, false_imp_iff, true_imp_iff, if_true, if_false, sig, sigF, sigW, sigR, sigO]
    refine ⟨hz, hz, ?_⟩
    simp [hz, h1]
theorem ok_lask : FnOk Try.prog 4 s_lask := by
  refine fnOk (fn := Try.f4) (F := F_lask) (hs := hs_lask) (tab_cons ok_iask (tab_cons ok_sask (tab_cons ok_ihear (tab_cons ok_ioth (tab_cons ok_idv (tab_cons ok_dda (tab_cons ok_alive tab_nil))))))) mixed rfl rfl rfl [.list 5] (by kernel_rfl) (by simp) ?_
  intro n l hw
  refine ⟨fun _ _ => False, fun _ _ => 0, ?_, fun _ _ h => h.elim⟩
  rw [t_lask]
  simp only [F_lask_iask, F_lask_sask, F_lask_ihear, F_lask_ioth, F_lask_idv, F_lask_dda, F_lask_alive, s_iask, s_sask, s_ihear, s_ioth, s_idv, s_dda, s_alive, Tree.holds, ltI_t, ltI_f, leI_t, leI_f, all_cons, all_nil, and_true, true_and, forall_eq, decide_eq_true_eq, decide_eq_false_iff_not, beq_iff_eq, beq_eq_false_iff_ne, bne_iff_ne, bne_eq_false_iff_eq, ne_eq, Decidable.not_not, selI_z, selB_z, selS_z, selN_z, selL_z, selI_s, selB_s, selS_s, selN_s, selL_s, Int.toNat_natCast, Nat.mul_one, Nat.zero_add, Nat.div_one, List.drop_zero, Nat.zero_mul, Nat.le_refl, Bool.not_eq_true', Bool.not_eq_false', Bool.false_eq_true, Bool.true_eq_false, not_true_eq_false, not_false_eq_true, false_imp_iff, true_imp_iff, if_true, if_false, sig, sigF, sigW, sigR, sigO]
  refine ⟨fun _ => trivial, fun _ => ⟨bytes_wf hw, ?_⟩⟩
  rintro ys ⟨c, hu, hh, tu, th, s, e, b, w, rfl, s0, s1, s2, s3, s4, s5⟩
  simp only [F_lask_iask, F_lask_sask, F_lask_ihear, F_lask_ioth, F_lask_idv, F_lask_dda, F_lask_alive, s_iask, s_sask, s_ihear, s_ioth, s_idv, s_dda, s_alive, Tree.holds, ltI_t, ltI_f, leI_t, leI_f, all_cons, all_nil, and_true, true_and, forall_eq, decide_eq_true_eq, decide_eq_false_iff_not, beq_iff_eq, beq_eq_false_iff_ne, bne_iff_ne, bne_eq_false_iff_eq, ne_eq, Decidable.not_not, selI_z, selB_z, selS_z, selN_z, selL_z, selI_s, selB_s, selS_s, selN_s, selL_s, Int.toNat_natCast, Nat.mul_one, Nat.zero_add, Nat.div_one, List.drop_zero, Nat.zero_mul, Nat.le_refl, Bool.not_eq_true', Bool.not_eq_false', Bool.false_eq_true, Bool.true_eq_false, not_true_eq_false, not_false_eq_true, false_imp_iff, true_imp_iff, if_true, if_false, sig, sigF, sigW, sigR, sigO, dlgD, List.cons_append, List.nil_append]
  have hz : szs [D.str c, .str hu, .str hh, .str tu, .str th, .int .i64 s, .int .i64 e, .bool b, .str w] [0, 1, 2, 3, 4, 8] := ⟨m100 s0, m100 s1, m100 s2, m100 s3, m100 s4, m100 s5, trivial⟩
  have hz' : szs [D.str c, .str hu, .str hh, .str tu, .str th, .int .i64 s, .int .i64 e, .bool b] [0, 1, 2, 3, 4] := ⟨m100 s0, m100 s1, m100 s2, m100 s3, m100 s4, trivial⟩
  by_cases h1 : dlgB c hu hh tu th s e = true ∧ wordB w.data.toList = true
  · by_cases h2 : b = true ∨ s = 1000000
    · have e1 : askD c hu hh tu th s e b w = dlgD c hu hh tu th s e b ++ [.str ⟨#[]⟩, .int .i64 0] := by unfold askD; rw [if_pos h1, if_pos h2]
      simp only [e1, dlgD, List.cons_append, List.nil_append, F_lask_iask, F_lask_sask, F_lask_ihear, F_lask_ioth, F_lask_idv, F_lask_dda, F_lask_alive, s_iask, s_sask, s_ihear, s_ioth, s_idv, s_dda, s_alive, Tree.holds, ltI_t, ltI_f, leI_t, leI_f, all_cons, all_nil, and_true, true_and, forall_eq, decide_eq_true_eq, decide_eq_false_iff_not, beq_iff_eq, beq_eq_false_iff_ne, bne_iff_ne, bne_eq_false_iff_eq, ne_eq, Decidable.not_not, selI_z, selB_z, selS_z, selN_z, selL_z, selI_s, selB_s, selS_s, selN_s, selL_s, Int.toNat_natCast, Nat.mul_one, Nat.zero_add, Nat.div_one, List.drop_zero, Nat.zero_mul, Nat.le_refl, Bool.not_eq_true', Bool.not_eq_false', Bool.false_eq_true, Bool.true_eq_false, not_true_eq_false, not_false_eq_true, false_imp_iff, true_imp_iff, if_true, if_false, sig, sigF, sigW, sigR, sigO]
      refine ⟨hz, hz, ?_⟩
      simp
    · have e1 : askD c hu hh tu th s e b w = dlgD c hu hh tu th (s + 1) e (isBye w) ++ [.str w, .int .i64 (s + 1)] := by unfold askD; rw [if_pos h1, if_neg h2]
      have hd := dlg_in h1.1
      have hb : b = false := by cases b <;> simp at h2 ⊢
      have h3 := dlgB_swap h1.1
      have e2 : othD c hu hh tu th s e b = dlgD c tu th hu hh e s b := by unfold othD; rw [if_pos h1.1]
      have hs : seqB w (s + 1) = true := seq_of h1.2 (by omega) (by omega)
      have e3 : hearD c tu th hu hh e s b w (s + 1) = dlgD c tu th hu hh e (s + 1) (isBye w) ++ [.int .i64 200] := by unfold hearD; rw [if_pos ⟨h3, hs⟩, if_neg (by rw [hb]; simp), if_neg (by omega)]
      have h4 := dlgB_num h3 (k := s + 1) (by omega) (by omega)
      have h5 := dlgB_swap h4
      have e4 : othD c tu th hu hh e (s + 1) (isBye w) = dlgD c hu hh tu th (s + 1) e (isBye w) := by unfold othD; rw [if_pos h4]
      have z1 : szs [D.str c, .str tu, .str th, .str hu, .str hh, .int .i64 e, .int .i64 s, .bool b, .str w, .int .i64 (s + 1)] [0, 1, 2, 3, 4, 8] := ⟨m100 s0, m100 s3, m100 s4, m100 s1, m100 s2, m100 s5, trivial⟩
      have z2 : szs [D.str c, .str hu, .str hh, .str tu, .str th, .int .i64 (s + 1), .int .i64 e, .bool (isBye w)] [0, 1, 2, 3, 4] := ⟨m100 s0, m100 s1, m100 s2, m100 s3, m100 s4, trivial⟩
      have z3 : szs [D.str c, .str tu, .str th, .str hu, .str hh, .int .i64 e, .int .i64 (s + 1), .bool (isBye w)] [0, 1, 2, 3, 4] := ⟨m100 s0, m100 s3, m100 s4, m100 s1, m100 s2, trivial⟩
      simp only [e1, e2, dlgD, List.cons_append, List.nil_append, F_lask_iask, F_lask_sask, F_lask_ihear, F_lask_ioth, F_lask_idv, F_lask_dda, F_lask_alive, s_iask, s_sask, s_ihear, s_ioth, s_idv, s_dda, s_alive, Tree.holds, ltI_t, ltI_f, leI_t, leI_f, all_cons, all_nil, and_true, true_and, forall_eq, decide_eq_true_eq, decide_eq_false_iff_not, beq_iff_eq, beq_eq_false_iff_ne, bne_iff_ne, bne_eq_false_iff_eq, ne_eq, Decidable.not_not, selI_z, selB_z, selS_z, selN_z, selL_z, selI_s, selB_s, selS_s, selN_s, selL_s, Int.toNat_natCast, Nat.mul_one, Nat.zero_add, Nat.div_one, List.drop_zero, Nat.zero_mul, Nat.le_refl, Bool.not_eq_true', Bool.not_eq_false', Bool.false_eq_true, Bool.true_eq_false, not_true_eq_false, not_false_eq_true, false_imp_iff, true_imp_iff, if_true, if_false, sig, sigF, sigW, sigR, sigO]
      refine ⟨hz, hz, ?_⟩
      simp only [e3, e4, dlgD, List.cons_append, List.nil_append, F_lask_iask, F_lask_sask, F_lask_ihear, F_lask_ioth, F_lask_idv, F_lask_dda, F_lask_alive, s_iask, s_sask, s_ihear, s_ioth, s_idv, s_dda, s_alive, Tree.holds, ltI_t, ltI_f, leI_t, leI_f, all_cons, all_nil, and_true, true_and, forall_eq, decide_eq_true_eq, decide_eq_false_iff_not, beq_iff_eq, beq_eq_false_iff_ne, bne_iff_ne, bne_eq_false_iff_eq, ne_eq, Decidable.not_not, selI_z, selB_z, selS_z, selN_z, selL_z, selI_s, selB_s, selS_s, selN_s, selL_s, Int.toNat_natCast, Nat.mul_one, Nat.zero_add, Nat.div_one, List.drop_zero, Nat.zero_mul, Nat.le_refl, Bool.not_eq_true', Bool.not_eq_false', Bool.false_eq_true, Bool.true_eq_false, not_true_eq_false, not_false_eq_true, false_imp_iff, true_imp_iff, if_true, if_false, sig, sigF, sigW, sigR, sigO]
      simp [hz', z1, z2, z3, h5]
      omega
  · have e1 : askD c hu hh tu th s e b w = zeroD ++ [.str ⟨#[]⟩, .int .i64 0] := by unfold askD; rw [if_neg h1]
    simp only [e1, zeroD, dlgD, List.cons_append, List.nil_append, F_lask_iask, F_lask_sask, F_lask_ihear, F_lask_ioth, F_lask_idv, F_lask_dda, F_lask_alive, s_iask, s_sask, s_ihear, s_ioth, s_idv, s_dda, s_alive, Tree.holds, ltI_t, ltI_f, leI_t, leI_f, all_cons, all_nil, and_true, true_and, forall_eq, decide_eq_true_eq, decide_eq_false_iff_not, beq_iff_eq, beq_eq_false_iff_ne, bne_iff_ne, bne_eq_false_iff_eq, ne_eq, Decidable.not_not, selI_z, selB_z, selS_z, selN_z, selL_z, selI_s, selB_s, selS_s, selN_s, selL_s, Int.toNat_natCast, Nat.mul_one, Nat.zero_add, Nat.div_one, List.drop_zero, Nat.zero_mul, Nat.le_refl, Bool.not_eq_true', Bool.not_eq_false', Bool.false_eq_true, Bool.true_eq_false, not_true_eq_false, not_false_eq_true, false_imp_iff, true_imp_iff, if_true, if_false, sig, sigF, sigW, sigR, sigO]
    refine ⟨hz, hz, ?_⟩
    simp
end Go.Proofs.Ytdofjbolhgoidaa.Mini
