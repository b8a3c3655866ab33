/- Exact values: words, lines and addresses drawn by a reader: proofs. -/
import Derived.Test.YtdofjbolhgoidaaRw
namespace Go.Proofs.Ytdofjbolhgoidaa.Mini
open Go Go.RowKit
set_option linter.unusedVariables false
set_option linter.unusedSimpArgs false
set_option maxRecDepth 20000
/-- A reader comes in. -/
theorem rd_split {t n : Nat} {r l : List D} {c : Int} (h : rdIn (.list t n r :: l) c) : ∃ (L : D) (p : Int), r = rdL L p ∧ bytesOk L ∧ 0 ≤ p ∧ p + c ≤ 1000000 := h
theorem ok_dword : FnOk Try.prog 48 s_dword := by
  refine fnOkR (fn := Try.f48) (F := F_dword) (hs := hs_dword) (tab_cons ok_dodd (tab_cons ok_dpick tab_nil)) mixed rfl rfl rfl (by kernel_rfl) [.int .i64] (by kernel_rfl) (by simp [hs_dword, shapeW]) ?_
  rintro r n ⟨hr, hn⟩
  obtain ⟨L, p, rfl, hL, hp0, hp1⟩ := rd_split hr
  obtain rfl : n = 0 := hn
  refine ⟨fun _ _ => False, fun _ _ => 0, ?_, fun _ _ h => h.elim⟩
  rw [t_dword]
  simp only [F_dword_dodd, F_dword_dpick, s_dodd, s_dpick, Tree.holds, ltI_t, ltI_f, leI_t, leI_f, all_cons, all_nil, and_true, true_and, forall_eq, decide_eq_true_eq, decide_eq_false_iff_not, beq_iff_eq, beq_eq_false_iff_ne, bne_iff_ne, bne_eq_false_iff_eq, ne_eq, Decidable.not_not, selI_z, selB_z, selS_z, selN_z, selL_z, selI_s, selB_s, selS_s, selN_s, selL_s, Int.toNat_natCast, Nat.mul_one, Nat.zero_add, Nat.div_one, List.drop_zero, Nat.zero_mul, Nat.le_refl, Bool.not_eq_true', Bool.not_eq_false', Bool.false_eq_true, Bool.true_eq_false, not_true_eq_false, not_false_eq_true, false_imp_iff, true_imp_iff, if_true, if_false, sig, sigF, sigW, sigR, sigO]
  refine ⟨⟨rd_in hL hp0 (by omega), by omega, by omega⟩, ?_⟩
  rintro ys ⟨p1, rs, rfl, q1, q2, b, rfl, hb⟩
  subst hb
  rw [rdN_z] at q1 q2
  simp only [F_dword_dodd, F_dword_dpick, s_dodd, s_dpick, Tree.holds, ltI_t, ltI_f, leI_t, leI_f, all_cons, all_nil, and_true, true_and, forall_eq, decide_eq_true_eq, decide_eq_false_iff_not, beq_iff_eq, beq_eq_false_iff_ne, bne_iff_ne, bne_eq_false_iff_eq, ne_eq, Decidable.not_not, selI_z, selB_z, selS_z, selN_z, selL_z, selI_s, selB_s, selS_s, selN_s, selL_s, Int.toNat_natCast, Nat.mul_one, Nat.zero_add, Nat.div_one, List.drop_zero, Nat.zero_mul, Nat.le_refl, Bool.not_eq_true', Bool.not_eq_false', Bool.false_eq_true, Bool.true_eq_false, not_true_eq_false, not_false_eq_true, false_imp_iff, true_imp_iff, if_true, if_false, sig, sigF, sigW, sigR, sigO, rdB_z]
  refine ⟨⟨rd_in hL (by omega) (by omega), by omega, by omega⟩, ?_⟩
  rintro ys ⟨p2, rs, rfl, q3, q4, x, rfl, x0, x1⟩
  rw [rdN_z] at q3 q4
  simp only [F_dword_dodd, F_dword_dpick, s_dodd, s_dpick, Tree.holds, ltI_t, ltI_f, leI_t, leI_f, all_cons, all_nil, and_true, true_and, forall_eq, decide_eq_true_eq, decide_eq_false_iff_not, beq_iff_eq, beq_eq_false_iff_ne, bne_iff_ne, bne_eq_false_iff_eq, ne_eq, Decidable.not_not, selI_z, selB_z, selS_z, selN_z, selL_z, selI_s, selB_s, selS_s, selN_s, selL_s, Int.toNat_natCast, Nat.mul_one, Nat.zero_add, Nat.div_one, List.drop_zero, Nat.zero_mul, Nat.le_refl, Bool.not_eq_true', Bool.not_eq_false', Bool.false_eq_true, Bool.true_eq_false, not_true_eq_false, not_false_eq_true, false_imp_iff, true_imp_iff, if_true, if_false, sig, sigF, sigW, sigR, sigO, rdB_z]
  generalize hls : (D.str ⟨#[97, 110, 110]⟩ :: _ : List D) = ls
  obtain ⟨s, g1, g2⟩ := pick_str (ls := ls) (n := 6) (fun s => wordB s.data.toList) x0 x1 (by rw [← hls]; rfl) (by rw [← hls]; kernel_rfl)
  rw [g1, sel_str g1, selS_of g1]
  exact ⟨⟨x0, x1⟩, rfl, p2, _, rfl, by rw [rdN_z]; omega, by rw [rdN_z]; omega, _, rfl, g2⟩
theorem ok_daddr : FnOk Try.prog 45 s_daddr := by
  refine fnOkR (fn := Try.f45) (F := F_daddr) (hs := hs_daddr) (tab_cons ok_dword tab_nil) mixed rfl rfl rfl (by kernel_rfl) [.int .i64] (by kernel_rfl) (by simp [hs_daddr, shapeW]) ?_
  rintro r n ⟨hr, hn⟩
  obtain ⟨L, p, rfl, hL, hp0, hp1⟩ := rd_split hr
  obtain rfl : n = 0 := hn
  refine ⟨fun _ _ => False, fun _ _ => 0, ?_, fun _ _ h => h.elim⟩
  rw [t_daddr]
  simp only [F_daddr_dword, s_dword, Tree.holds, ltI_t, ltI_f, leI_t, leI_f, all_cons, all_nil, and_true, true_and, forall_eq, decide_eq_true_eq, decide_eq_false_iff_not, beq_iff_eq, beq_eq_false_iff_ne, bne_iff_ne, bne_eq_false_iff_eq, ne_eq, Decidable.not_not, selI_z, selB_z, selS_z, selN_z, selL_z, selI_s, selB_s, selS_s, selN_s, selL_s, Int.toNat_natCast, Nat.mul_one, Nat.zero_add, Nat.div_one, List.drop_zero, Nat.zero_mul, Nat.le_refl, Bool.not_eq_true', Bool.not_eq_false', Bool.false_eq_true, Bool.true_eq_false, not_true_eq_false, not_false_eq_true, false_imp_iff, true_imp_iff, if_true, if_false, sig, sigF, sigW, sigR, sigO]
  refine ⟨rd_in hL hp0 (by omega), ?_⟩
  rintro ys ⟨p1, rs, rfl, q1, q2, s, rfl, hs⟩
  simp only [F_daddr_dword, s_dword, Tree.holds, ltI_t, ltI_f, leI_t, leI_f, all_cons, all_nil, and_true, true_and, forall_eq, decide_eq_true_eq, decide_eq_false_iff_not, beq_iff_eq, beq_eq_false_iff_ne, bne_iff_ne, bne_eq_false_iff_eq, ne_eq, Decidable.not_not, selI_z, selB_z, selS_z, selN_z, selL_z, selI_s, selB_s, selS_s, selN_s, selL_s, Int.toNat_natCast, Nat.mul_one, Nat.zero_add, Nat.div_one, List.drop_zero, Nat.zero_mul, Nat.le_refl, Bool.not_eq_true', Bool.not_eq_false', Bool.false_eq_true, Bool.true_eq_false, not_true_eq_false, not_false_eq_true, false_imp_iff, true_imp_iff, if_true, if_false, sig, sigF, sigW, sigR, sigO, rdB_z]
  rw [rdN_z] at q1 q2
  refine ⟨rd_in hL (by omega) (by omega), ?_⟩
  rintro ys ⟨p2, rs, rfl, q3, q4, u, rfl, hu⟩
  simp only [F_daddr_dword, s_dword, Tree.holds, ltI_t, ltI_f, leI_t, leI_f, all_cons, all_nil, and_true, true_and, forall_eq, decide_eq_true_eq, decide_eq_false_iff_not, beq_iff_eq, beq_eq_false_iff_ne, bne_iff_ne, bne_eq_false_iff_eq, ne_eq, Decidable.not_not, selI_z, selB_z, selS_z, selN_z, selL_z, selI_s, selB_s, selS_s, selN_s, selL_s, Int.toNat_natCast, Nat.mul_one, Nat.zero_add, Nat.div_one, List.drop_zero, Nat.zero_mul, Nat.le_refl, Bool.not_eq_true', Bool.not_eq_false', Bool.false_eq_true, Bool.true_eq_false, not_true_eq_false, not_false_eq_true, false_imp_iff, true_imp_iff, if_true, if_false, sig, sigF, sigW, sigR, sigO, rdB_z]
  rw [rdN_z] at q3 q4
  exact ⟨p2, _, rfl, by rw [rdN_z]; omega, by rw [rdN_z]; omega, s, u, rfl, hs, hu⟩
theorem word_small {s : ByteArray} (h : wOk s) : s.size ≤ 10 := by
  have := (word_len h).2
  simpa using this
theorem line_small {s : ByteArray} (h : lOk s) : s.size ≤ 60 := by
  have h1 : lineB s.data.toList = true := h
  unfold lineB at h1
  simp only [Bool.and_eq_true, decide_eq_true_eq] at h1
  simpa using h1.1.1
theorem word_max {s : ByteArray} (h : wOk s) : s.size ≤ maxLen := by have := word_small h; unfold maxLen; omega
theorem line_max {s : ByteArray} (h : lOk s) : s.size ≤ maxLen := by have := line_small h; unfold maxLen; omega
end Go.Proofs.Ytdofjbolhgoidaa.Mini
