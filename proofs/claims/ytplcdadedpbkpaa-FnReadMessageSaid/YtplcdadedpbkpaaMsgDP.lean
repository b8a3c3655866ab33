/- Exact values: the draw of lines of messages (chapter 4): proofs. -/
import Derived.Test.YtplcdadedpbkpaaMsgD
namespace Go.Proofs.Ytplcdadedpbkpaa.Mini
open Go Go.RowKit
set_option linter.unusedVariables false
set_option linter.unusedSimpArgs false
set_option maxRecDepth 20000
/-- A reader comes in. -/
theorem rd_split {t n : Nat} {r l : List D} {c : Int} (h : rdIn (.list t n r :: l) c) : ∃ (L : D) (p : Int), r = rdL L p ∧ bytesOk L ∧ 0 ≤ p ∧ p + c ≤ 1000000 := h
theorem ok_dword : FnOk Try.prog 53 s_dword := by
  refine fnOkR (fn := Try.f53) (F := F_dword) (hs := hs_dword) (tab_cons ok_dodd (tab_cons ok_dpick tab_nil)) mixed rfl rfl rfl (by kernel_rfl) [.int .i64] (by kernel_rfl) (by simp [hs_dword, shapeW]) ?_
  rintro r n ⟨hr, hn⟩
  obtain ⟨L, p, rfl, hL, hp0, hp1⟩ := rd_split hr
  obtain rfl : n = 0 := hn
  refine ⟨fun _ _ => False, fun _ _ => 0, ?_, fun _ _ h => h.elim⟩
  rw [t_dword]
  simp only [F_dword_dodd, F_dword_dpick, s_dodd, s_dpick, Tree.holds, ltI_t, ltI_f, leI_t, leI_f, all_cons, all_nil, and_true, true_and, forall_eq, decide_eq_true_eq, decide_eq_false_iff_not, beq_iff_eq, beq_eq_false_iff_ne, bne_iff_ne, bne_eq_false_iff_eq, ne_eq, Decidable.not_not, selI_z, selB_z, selS_z, selN_z, selL_z, selI_s, selB_s, selS_s, selN_s, selL_s, Int.toNat_natCast, Nat.mul_one, Nat.zero_add, Nat.div_one, List.drop_zero, Nat.zero_mul, Nat.le_refl, Bool.not_eq_true', Bool.not_eq_false', Bool.false_eq_true, Bool.true_eq_false, not_true_eq_false, not_false_eq_true, false_imp_iff, true_imp_iff, if_true, if_false, sig, sigF, sigW, sigR, sigO]
  refine ⟨⟨rd_in hL hp0 (by omega), by omega, by omega⟩, ?_⟩
  rintro ys ⟨p1, rs, rfl, q1, q2, b, rfl, hb⟩
  subst hb
  rw [rdN_z] at q1 q2
  simp only [F_dword_dodd, F_dword_dpick, s_dodd, s_dpick, Tree.holds, ltI_t, ltI_f, leI_t, leI_f, all_cons, all_nil, and_true, true_and, forall_eq, decide_eq_true_eq, decide_eq_false_iff_not, beq_iff_eq, beq_eq_false_iff_ne, bne_iff_ne, bne_eq_false_iff_eq, ne_eq, Decidable.not_not, selI_z, selB_z, selS_z, selN_z, selL_z, selI_s, selB_s, selS_s, selN_s, selL_s, Int.toNat_natCast, Nat.mul_one, Nat.zero_add, Nat.div_one, List.drop_zero, Nat.zero_mul, Nat.le_refl, Bool.not_eq_true', Bool.not_eq_false', Bool.false_eq_true, Bool.true_eq_false, not_true_eq_false, not_false_eq_true, false_imp_iff, true_imp_iff, if_true, if_false, sig, sigF, sigW, sigR, sigO, rdB_z]
  refine ⟨⟨rd_in hL (by omega) (by omega), by omega, by omega⟩, ?_⟩
  rintro ys ⟨p2, rs, rfl, q3, q4, x, rfl, x0, x1⟩
  rw [rdN_z] at q3 q4
  simp only [F_dword_dodd, F_dword_dpick, s_dodd, s_dpick, Tree.holds, ltI_t, ltI_f, leI_t, leI_f, all_cons, all_nil, and_true, true_and, forall_eq, decide_eq_true_eq, decide_eq_false_iff_not, beq_iff_eq, beq_eq_false_iff_ne, bne_iff_ne, bne_eq_false_iff_eq, ne_eq, Decidable.not_not, selI_z, selB_z, selS_z, selN_z, selL_z, selI_s, selB_s, selS_s, selN_s, selL_s, Int.toNat_natCast, Nat.mul_one, Nat.zero_add, Nat.div_one, List.drop_zero, Nat.zero_mul, Nat.le_refl, Bool.not_eq_true', Bool.not_eq_false', Bool.false_eq_true, Bool.true_eq_false, not_true_eq_false, not_false_eq_true, false_imp_iff, true_imp_iff, if_true, if_false, sig, sigF, sigW, sigR, sigO, rdB_z]
  generalize hls : (D.str ⟨#[97, 110, 110]⟩ :: _ : List D) = ls
  obtain ⟨s, g1, g2⟩ := pick_str (ls := ls) (n := 6) (fun s => wordB s.data.toList) x0 x1 (by rw [← hls]; rfl) (by rw [← hls]; kernel_rfl)
  rw [g1, sel_str g1, selS_of g1]
  exact ⟨⟨x0, x1⟩, rfl, p2, _, rfl, by rw [rdN_z]; omega, by rw [rdN_z]; omega, _, rfl, g2⟩
theorem ok_dline : FnOk Try.prog 54 s_dline := by
  refine fnOkR (fn := Try.f54) (F := F_dline) (hs := hs_dline) (tab_cons ok_dodd (tab_cons ok_dpick tab_nil)) mixed rfl rfl rfl (by kernel_rfl) [.int .i64] (by kernel_rfl) (by simp [hs_dline, shapeW]) ?_
  rintro r n ⟨hr, hn⟩
  obtain ⟨L, p, rfl, hL, hp0, hp1⟩ := rd_split hr
  obtain rfl : n = 0 := hn
  refine ⟨fun _ _ => False, fun _ _ => 0, ?_, fun _ _ h => h.elim⟩
  rw [t_dline]
  simp only [F_dline_dodd, F_dline_dpick, s_dodd, s_dpick, Tree.holds, ltI_t, ltI_f, leI_t, leI_f, all_cons, all_nil, and_true, true_and, forall_eq, decide_eq_true_eq, decide_eq_false_iff_not, beq_iff_eq, beq_eq_false_iff_ne, bne_iff_ne, bne_eq_false_iff_eq, ne_eq, Decidable.not_not, selI_z, selB_z, selS_z, selN_z, selL_z, selI_s, selB_s, selS_s, selN_s, selL_s, Int.toNat_natCast, Nat.mul_one, Nat.zero_add, Nat.div_one, List.drop_zero, Nat.zero_mul, Nat.le_refl, Bool.not_eq_true', Bool.not_eq_false', Bool.false_eq_true, Bool.true_eq_false, not_true_eq_false, not_false_eq_true, false_imp_iff, true_imp_iff, if_true, if_false, sig, sigF, sigW, sigR, sigO]
  refine ⟨⟨rd_in hL hp0 (by omega), by omega, by omega⟩, ?_⟩
  rintro ys ⟨p1, rs, rfl, q1, q2, b, rfl, hb⟩
  subst hb
  rw [rdN_z] at q1 q2
  simp only [F_dline_dodd, F_dline_dpick, s_dodd, s_dpick, Tree.holds, ltI_t, ltI_f, leI_t, leI_f, all_cons, all_nil, and_true, true_and, forall_eq, decide_eq_true_eq, decide_eq_false_iff_not, beq_iff_eq, beq_eq_false_iff_ne, bne_iff_ne, bne_eq_false_iff_eq, ne_eq, Decidable.not_not, selI_z, selB_z, selS_z, selN_z, selL_z, selI_s, selB_s, selS_s, selN_s, selL_s, Int.toNat_natCast, Nat.mul_one, Nat.zero_add, Nat.div_one, List.drop_zero, Nat.zero_mul, Nat.le_refl, Bool.not_eq_true', Bool.not_eq_false', Bool.false_eq_true, Bool.true_eq_false, not_true_eq_false, not_false_eq_true, false_imp_iff, true_imp_iff, if_true, if_false, sig, sigF, sigW, sigR, sigO, rdB_z]
  refine ⟨⟨rd_in hL (by omega) (by omega), by omega, by omega⟩, ?_⟩
  rintro ys ⟨p2, rs, rfl, q3, q4, x, rfl, x0, x1⟩
  rw [rdN_z] at q3 q4
  simp only [F_dline_dodd, F_dline_dpick, s_dodd, s_dpick, Tree.holds, ltI_t, ltI_f, leI_t, leI_f, all_cons, all_nil, and_true, true_and, forall_eq, decide_eq_true_eq, decide_eq_false_iff_not, beq_iff_eq, beq_eq_false_iff_ne, bne_iff_ne, bne_eq_false_iff_eq, ne_eq, Decidable.not_not, selI_z, selB_z, selS_z, selN_z, selL_z, selI_s, selB_s, selS_s, selN_s, selL_s, Int.toNat_natCast, Nat.mul_one, Nat.zero_add, Nat.div_one, List.drop_zero, Nat.zero_mul, Nat.le_refl, Bool.not_eq_true', Bool.not_eq_false', Bool.false_eq_true, Bool.true_eq_false, not_true_eq_false, not_false_eq_true, false_imp_iff, true_imp_iff, if_true, if_false, sig, sigF, sigW, sigR, sigO, rdB_z]
  generalize hls : (D.str ⟨#[]⟩ :: _ : List D) = ls
  obtain ⟨s, g1, g2⟩ := pick_str (ls := ls) (n := 6) (fun s => lineB s.data.toList) x0 x1 (by rw [← hls]; rfl) (by rw [← hls]; kernel_rfl)
  rw [g1, sel_str g1, selS_of g1]
  exact ⟨⟨x0, x1⟩, rfl, p2, _, rfl, by rw [rdN_z]; omega, by rw [rdN_z]; omega, _, rfl, g2⟩
theorem ok_daddr : FnOk Try.prog 36 s_daddr := by
  refine fnOkR (fn := Try.f36) (F := F_daddr) (hs := hs_daddr) (tab_cons ok_dword tab_nil) mixed rfl rfl rfl (by kernel_rfl) [.int .i64] (by kernel_rfl) (by simp [hs_daddr, shapeW]) ?_
  rintro r n ⟨hr, hn⟩
  obtain ⟨L, p, rfl, hL, hp0, hp1⟩ := rd_split hr
  obtain rfl : n = 0 := hn
  refine ⟨fun _ _ => False, fun _ _ => 0, ?_, fun _ _ h => h.elim⟩
  rw [t_daddr]
  simp only [F_daddr_dword, s_dword, Tree.holds, ltI_t, ltI_f, leI_t, leI_f, all_cons, all_nil, and_true, true_and, forall_eq, decide_eq_true_eq, decide_eq_false_iff_not, beq_iff_eq, beq_eq_false_iff_ne, bne_iff_ne, bne_eq_false_iff_eq, ne_eq, Decidable.not_not, selI_z, selB_z, selS_z, selN_z, selL_z, selI_s, selB_s, selS_s, selN_s, selL_s, Int.toNat_natCast, Nat.mul_one, Nat.zero_add, Nat.div_one, List.drop_zero, Nat.zero_mul, Nat.le_refl, Bool.not_eq_true', Bool.not_eq_false', Bool.false_eq_true, Bool.true_eq_false, not_true_eq_false, not_false_eq_true, false_imp_iff, true_imp_iff, if_true, if_false, sig, sigF, sigW, sigR, sigO]
  refine ⟨rd_in hL hp0 (by omega), ?_⟩
  rintro ys ⟨p1, rs, rfl, q1, q2, s, rfl, hs⟩
  simp only [F_daddr_dword, s_dword, Tree.holds, ltI_t, ltI_f, leI_t, leI_f, all_cons, all_nil, and_true, true_and, forall_eq, decide_eq_true_eq, decide_eq_false_iff_not, beq_iff_eq, beq_eq_false_iff_ne, bne_iff_ne, bne_eq_false_iff_eq, ne_eq, Decidable.not_not, selI_z, selB_z, selS_z, selN_z, selL_z, selI_s, selB_s, selS_s, selN_s, selL_s, Int.toNat_natCast, Nat.mul_one, Nat.zero_add, Nat.div_one, List.drop_zero, Nat.zero_mul, Nat.le_refl, Bool.not_eq_true', Bool.not_eq_false', Bool.false_eq_true, Bool.true_eq_false, not_true_eq_false, not_false_eq_true, false_imp_iff, true_imp_iff, if_true, if_false, sig, sigF, sigW, sigR, sigO, rdB_z]
  rw [rdN_z] at q1 q2
  refine ⟨rd_in hL (by omega) (by omega), ?_⟩
  rintro ys ⟨p2, rs, rfl, q3, q4, u, rfl, hu⟩
  simp only [F_daddr_dword, s_dword, Tree.holds, ltI_t, ltI_f, leI_t, leI_f, all_cons, all_nil, and_true, true_and, forall_eq, decide_eq_true_eq, decide_eq_false_iff_not, beq_iff_eq, beq_eq_false_iff_ne, bne_iff_ne, bne_eq_false_iff_eq, ne_eq, Decidable.not_not, selI_z, selB_z, selS_z, selN_z, selL_z, selI_s, selB_s, selS_s, selN_s, selL_s, Int.toNat_natCast, Nat.mul_one, Nat.zero_add, Nat.div_one, List.drop_zero, Nat.zero_mul, Nat.le_refl, Bool.not_eq_true', Bool.not_eq_false', Bool.false_eq_true, Bool.true_eq_false, not_true_eq_false, not_false_eq_true, false_imp_iff, true_imp_iff, if_true, if_false, sig, sigF, sigW, sigR, sigO, rdB_z]
  rw [rdN_z] at q3 q4
  exact ⟨p2, _, rfl, by rw [rdN_z]; omega, by rw [rdN_z]; omega, s, u, rfl, hs, hu⟩
theorem headD_len (h : HM) : (headD h).length = 2 := rfl
theorem headsD_len (hs : List HM) : (headsD hs).length = hs.length * 2 := flatD_len headD_len hs
theorem headsD_take (hs : List HM) : List.take (hs.length * 2) (headsD hs) = headsD hs := List.take_of_length_le (by rw [headsD_len]; omega)
theorem headsD_push (hs : List HM) (h : HM) : headsD (hs ++ [h]) = headsD hs ++ [.str h.1, .str h.2] := by unfold headsD; rw [flatD_append, flatD_one]; rfl
theorem headsD_scal (hs : List HM) : scal (headsD hs) := by
  intro d hd
  obtain ⟨h, _, hd⟩ := List.mem_flatMap.mp hd
  rcases List.mem_cons.mp hd with rfl | hd
  · rfl
  · obtain rfl : d = .str h.2 := by simpa using hd
    rfl
theorem heads_at {hs : List HM} {i : Nat} {h : HM} (hi : hs[i]? = some h) : (headsD hs)[i * 2]? = some (.str h.1) ∧ (headsD hs)[i * 2 + 1]? = some (.str h.2) :=
  ⟨by rw [show (headsD hs)[i * 2]? = (headsD hs)[i * 2 + 0]? from rfl]; exact flatD_at headD_len hi (by omega), flatD_at headD_len hi (by omega)⟩
theorem word_small {s : ByteArray} (h : wOk s) : s.size ≤ 10 := by
  have := (word_len h).2
  simpa using this
theorem line_small {s : ByteArray} (h : lOk s) : s.size ≤ 60 := by
  have h1 : lineB s.data.toList = true := h
  unfold lineB at h1
  simp only [Bool.and_eq_true, decide_eq_true_eq] at h1
  simpa using h1.1.1
theorem ok_dheads : FnOk Try.prog 37 s_dheads := by
  refine fnOkR (fn := Try.f37) (F := F_dheads) (hs := hs_dheads) (tab_cons ok_dline (tab_cons ok_dpick (tab_cons ok_dodd (tab_cons ok_dword tab_nil)))) mixed rfl rfl rfl (by kernel_rfl) [.int .i64] (by kernel_rfl) (by simp [hs_dheads, shapeW]) ?_
  rintro r n ⟨hr, hn⟩
  obtain ⟨L, p, rfl, hL, hp0, hp1⟩ := rd_split hr
  obtain rfl : n = 0 := hn
  refine ⟨fun h ys => h = 0 ∧ ∃ (q : Int) (k : Nat) (hs : List HM), ys = [.int .i64 0, .int .i64 (0 : Nat), .int .i64 (hs.length : Nat), .int .i64 k, .list 59 0 (rdL L q), .list 68 0 (headsD hs)] ∧ hs.length + k ≤ 4 ∧ (∀ x ∈ hs, hOk x) ∧ p ≤ q ∧ q ≤ p + 1 + 3 * hs.length, fun h ys => (selI ys 3).toNat, ?_, ?_⟩
  · rw [t_dheads]
    simp only [F_dheads_dline, F_dheads_dpick, F_dheads_dodd, F_dheads_dword, s_dline, s_dpick, s_dodd, s_dword, Tree.holds, ltI_t, ltI_f, leI_t, leI_f, all_cons, all_nil, and_true, true_and, forall_eq, decide_eq_true_eq, decide_eq_false_iff_not, beq_iff_eq, beq_eq_false_iff_ne, bne_iff_ne, bne_eq_false_iff_eq, ne_eq, Decidable.not_not, selI_z, selB_z, selS_z, selN_z, selL_z, selI_s, selB_s, selS_s, selN_s, selL_s, Int.toNat_natCast, Nat.mul_one, Nat.zero_add, Nat.div_one, List.drop_zero, Nat.zero_mul, Nat.le_refl, Bool.not_eq_true', Bool.not_eq_false', Bool.false_eq_true, Bool.true_eq_false, not_true_eq_false, not_false_eq_true, false_imp_iff, true_imp_iff, if_true, if_false, sig, sigF, sigW, sigR, sigO]
    refine ⟨⟨rd_in hL hp0 (by omega), by omega, by omega⟩, ?_⟩
    rintro ys ⟨p1, rs, rfl, q1, q2, x, rfl, x0, x1⟩
    rw [rdN_z] at q1 q2
    simp only [F_dheads_dline, F_dheads_dpick, F_dheads_dodd, F_dheads_dword, s_dline, s_dpick, s_dodd, s_dword, Tree.holds, ltI_t, ltI_f, leI_t, leI_f, all_cons, all_nil, and_true, true_and, forall_eq, decide_eq_true_eq, decide_eq_false_iff_not, beq_iff_eq, beq_eq_false_iff_ne, bne_iff_ne, bne_eq_false_iff_eq, ne_eq, Decidable.not_not, selI_z, selB_z, selS_z, selN_z, selL_z, selI_s, selB_s, selS_s, selN_s, selL_s, Int.toNat_natCast, Nat.mul_one, Nat.zero_add, Nat.div_one, List.drop_zero, Nat.zero_mul, Nat.le_refl, Bool.not_eq_true', Bool.not_eq_false', Bool.false_eq_true, Bool.true_eq_false, not_true_eq_false, not_false_eq_true, false_imp_iff, true_imp_iff, if_true, if_false, sig, sigF, sigW, sigR, sigO, rdB_z]
    exact ⟨p1, x.toNat, [], by rw [Int.toNat_of_nonneg x0]; rfl, by simp; omega, by simp, by omega, by simp; omega⟩
  · rintro h ys ⟨rfl, q, k, hs, rfl, h1, h2, h3, h4⟩
    rw [t_dheads0]
    simp only [F_dheads_dline, F_dheads_dpick, F_dheads_dodd, F_dheads_dword, s_dline, s_dpick, s_dodd, s_dword, Tree.holds, ltI_t, ltI_f, leI_t, leI_f, all_cons, all_nil, and_true, true_and, forall_eq, decide_eq_true_eq, decide_eq_false_iff_not, beq_iff_eq, beq_eq_false_iff_ne, bne_iff_ne, bne_eq_false_iff_eq, ne_eq, Decidable.not_not, selI_z, selB_z, selS_z, selN_z, selL_z, selI_s, selB_s, selS_s, selN_s, selL_s, Int.toNat_natCast, Nat.mul_one, Nat.zero_add, Nat.div_one, List.drop_zero, Nat.zero_mul, Nat.le_refl, Bool.not_eq_true', Bool.not_eq_false', Bool.false_eq_true, Bool.true_eq_false, not_true_eq_false, not_false_eq_true, false_imp_iff, true_imp_iff, if_true, if_false, sig, sigF, sigW, sigR, sigO, headsD_len, headsD_take]
    refine ⟨fun hk => ⟨⟨rd_in hL (by omega) (by omega), by omega, by omega⟩, ?_⟩, fun hk => ⟨⟨rd_in hL (by omega) (by omega), by omega, by omega⟩, ?_⟩⟩
    · rintro ys ⟨p1, rs, rfl, a1, a2, x, rfl, x0, x1⟩
      rw [rdN_z] at a1 a2
      simp only [F_dheads_dline, F_dheads_dpick, F_dheads_dodd, F_dheads_dword, s_dline, s_dpick, s_dodd, s_dword, Tree.holds, ltI_t, ltI_f, leI_t, leI_f, all_cons, all_nil, and_true, true_and, forall_eq, decide_eq_true_eq, decide_eq_false_iff_not, beq_iff_eq, beq_eq_false_iff_ne, bne_iff_ne, bne_eq_false_iff_eq, ne_eq, Decidable.not_not, selI_z, selB_z, selS_z, selN_z, selL_z, selI_s, selB_s, selS_s, selN_s, selL_s, Int.toNat_natCast, Nat.mul_one, Nat.zero_add, Nat.div_one, List.drop_zero, Nat.zero_mul, Nat.le_refl, Bool.not_eq_true', Bool.not_eq_false', Bool.false_eq_true, Bool.true_eq_false, not_true_eq_false, not_false_eq_true, false_imp_iff, true_imp_iff, if_true, if_false, sig, sigF, sigW, sigR, sigO, rdB_z, headsD_len, headsD_take]
      generalize hls : (D.str ⟨#[118, 105, 97]⟩ :: _ : List D) = ls
      obtain ⟨s, g1, g2⟩ := pick_str (ls := ls) (n := 5) (fun s => wordB s.data.toList) x0 x1 (by rw [← hls]; rfl) (by rw [← hls]; kernel_rfl)
      rw [g1, sel_str g1]
      refine ⟨⟨x0, x1⟩, rfl, rd_in hL (by omega) (by omega), ?_⟩
      rintro ys ⟨p2, rs, rfl, a3, a4, u, rfl, hu⟩
      rw [rdN_z] at a3 a4
      simp only [F_dheads_dline, F_dheads_dpick, F_dheads_dodd, F_dheads_dword, s_dline, s_dpick, s_dodd, s_dword, Tree.holds, ltI_t, ltI_f, leI_t, leI_f, all_cons, all_nil, and_true, true_and, forall_eq, decide_eq_true_eq, decide_eq_false_iff_not, beq_iff_eq, beq_eq_false_iff_ne, bne_iff_ne, bne_eq_false_iff_eq, ne_eq, Decidable.not_not, selI_z, selB_z, selS_z, selN_z, selL_z, selI_s, selB_s, selS_s, selN_s, selL_s, Int.toNat_natCast, Nat.mul_one, Nat.zero_add, Nat.div_one, List.drop_zero, Nat.zero_mul, Nat.le_refl, Bool.not_eq_true', Bool.not_eq_false', Bool.false_eq_true, Bool.true_eq_false, not_true_eq_false, not_false_eq_true, false_imp_iff, true_imp_iff, if_true, if_false, sig, sigF, sigW, sigR, sigO, rdB_z, headsD_len, headsD_take]
      refine ⟨by omega, by unfold inK; omega, ⟨p2, k - 1, hs ++ [(s, u)], ?_, by simp; omega, fun y hy => ?_, by omega, by simp; omega⟩, by omega⟩
      · rw [headsD_push, show (k : Int) - 1 = ((k - 1 : Nat) : Int) by omega]
        simp
        rfl
      · rcases List.mem_append.mp hy with hy | hy
        · exact h2 y hy
        · simp at hy; subst hy; exact ⟨g2, hu⟩
    · rintro ys ⟨p1, rs, rfl, a1, a2, b, rfl, hb⟩
      subst hb
      rw [rdN_z] at a1 a2
      simp only [F_dheads_dline, F_dheads_dpick, F_dheads_dodd, F_dheads_dword, s_dline, s_dpick, s_dodd, s_dword, Tree.holds, ltI_t, ltI_f, leI_t, leI_f, all_cons, all_nil, and_true, true_and, forall_eq, decide_eq_true_eq, decide_eq_false_iff_not, beq_iff_eq, beq_eq_false_iff_ne, bne_iff_ne, bne_eq_false_iff_eq, ne_eq, Decidable.not_not, selI_z, selB_z, selS_z, selN_z, selL_z, selI_s, selB_s, selS_s, selN_s, selL_s, Int.toNat_natCast, Nat.mul_one, Nat.zero_add, Nat.div_one, List.drop_zero, Nat.zero_mul, Nat.le_refl, Bool.not_eq_true', Bool.not_eq_false', Bool.false_eq_true, Bool.true_eq_false, not_true_eq_false, not_false_eq_true, false_imp_iff, true_imp_iff, if_true, if_false, sig, sigF, sigW, sigR, sigO, rdB_z, headsD_len, headsD_take]
      exact ⟨headsD_scal hs, p1, _, rfl, by rw [rdN_z]; omega, by rw [rdN_z]; omega, hs, rfl, by omega, h2⟩
theorem word_max {s : ByteArray} (h : wOk s) : s.size ≤ maxLen := by have := word_small h; unfold maxLen; omega
theorem line_max {s : ByteArray} (h : lOk s) : s.size ≤ maxLen := by have := line_small h; unfold maxLen; omega
theorem ok_shv : FnOk Try.prog 42 s_shv := by
  refine fnOk (fn := Try.f42) (F := F_shv) (hs := hs_shv) (tab_cons ok_sword (tab_cons ok_sline tab_nil)) mixed rfl rfl rfl [.list 68] (by kernel_rfl) (by simp) ?_
  rintro n l ⟨hs, e, h1, h2⟩
  simp only [List.cons.injEq, D.list.injEq, true_and, and_true] at e
  obtain ⟨rfl, rfl⟩ := e
  refine ⟨fun h ys => h = 0 ∧ ∃ k : Nat, ys = [.list 68 hs.length (headsD hs), .int .i64 k] ∧ k ≤ hs.length, fun h ys => hs.length - (selI ys 1).toNat, ?_, ?_⟩
  · rw [t_shv]
    simp only [F_shv_sword, F_shv_sline, s_sword, s_sline, Tree.holds, ltI_t, ltI_f, leI_t, leI_f, all_cons, all_nil, and_true, true_and, forall_eq, decide_eq_true_eq, decide_eq_false_iff_not, beq_iff_eq, beq_eq_false_iff_ne, bne_iff_ne, bne_eq_false_iff_eq, ne_eq, Decidable.not_not, selI_z, selB_z, selS_z, selN_z, selL_z, selI_s, selB_s, selS_s, selN_s, selL_s, Int.toNat_natCast, Nat.mul_one, Nat.zero_add, Nat.div_one, List.drop_zero, Nat.zero_mul, Nat.le_refl, Bool.not_eq_true', Bool.not_eq_false', Bool.false_eq_true, Bool.true_eq_false, not_true_eq_false, not_false_eq_true, false_imp_iff, true_imp_iff, if_true, if_false, sig, sigF, sigW, sigR, sigO]
    exact ⟨0, rfl, by omega⟩
  · rintro h ys ⟨rfl, k, rfl, hk⟩
    rw [t_shv0]
    simp only [F_shv_sword, F_shv_sline, s_sword, s_sline, Tree.holds, ltI_t, ltI_f, leI_t, leI_f, all_cons, all_nil, and_true, true_and, forall_eq, decide_eq_true_eq, decide_eq_false_iff_not, beq_iff_eq, beq_eq_false_iff_ne, bne_iff_ne, bne_eq_false_iff_eq, ne_eq, Decidable.not_not, selI_z, selB_z, selS_z, selN_z, selL_z, selI_s, selB_s, selS_s, selN_s, selL_s, Int.toNat_natCast, Nat.mul_one, Nat.zero_add, Nat.div_one, List.drop_zero, Nat.zero_mul, Nat.le_refl, Bool.not_eq_true', Bool.not_eq_false', Bool.false_eq_true, Bool.true_eq_false, not_true_eq_false, not_false_eq_true, false_imp_iff, true_imp_iff, if_true, if_false, sig, sigF, sigW, sigR, sigO]
    refine ⟨fun hlt => ?_, fun hlt => ret_bool' (by rw [leI_t]; omega)⟩
    have hx : hs[k]? = some hs[k] := List.getElem?_eq_getElem (by omega)
    obtain ⟨c0, c1⟩ := heads_at hx
    obtain ⟨w0, w1⟩ := h2 _ (List.getElem_mem (by omega : k < hs.length))
    rw [c0, c1, selS_of c0, selS_of c1, sel_str c0, sel_str c1]
    refine ⟨by omega, rfl, word_max w0, fun h => ?_, fun _ => ⟨by omega, rfl, line_max w1, fun h => ?_, fun _ => ⟨by unfold inK; omega, ⟨k + 1, rfl, by omega⟩, by omega⟩⟩⟩
    · rw [show wordB _ = true from w0] at h; cases h
    · rw [show lineB _ = true from w1] at h; cases h
theorem ok_satx : FnOk Try.prog 33 s_satx := by
  refine fnOk (fn := Try.f33) (F := F_satx) (hs := hs_satx) (tab_cons ok_saddr tab_nil) mixed rfl rfl rfl [.str, .str] (by kernel_rfl) (by simp) ?_
  rintro a b ⟨ha, hb⟩
  refine ⟨fun _ _ => False, fun _ _ => 0, ?_, fun _ _ h => h.elim⟩
  rw [t_satx]
  simp only [F_satx_saddr, s_saddr, Tree.holds, ltI_t, ltI_f, leI_t, leI_f, all_cons, all_nil, and_true, true_and, forall_eq, decide_eq_true_eq, decide_eq_false_iff_not, beq_iff_eq, beq_eq_false_iff_ne, bne_iff_ne, bne_eq_false_iff_eq, ne_eq, Decidable.not_not, selI_z, selB_z, selS_z, selN_z, selL_z, selI_s, selB_s, selS_s, selN_s, selL_s, Int.toNat_natCast, Nat.mul_one, Nat.zero_add, Nat.div_one, List.drop_zero, Nat.zero_mul, Nat.le_refl, Bool.not_eq_true', Bool.not_eq_false', Bool.false_eq_true, Bool.true_eq_false, not_true_eq_false, not_false_eq_true, false_imp_iff, true_imp_iff, if_true, if_false, sig, sigF, sigW, sigR, sigO, ByteArray.size_append]
  have ha' : a.size ≤ 20 := ha
  have hb' : b.size ≤ 20 := hb
  have e4 : (⟨#[115, 105, 112, 58]⟩ : ByteArray).size = 4 := rfl
  have e1 : (⟨#[64]⟩ : ByteArray).size = 1 := rfl
  refine ⟨⟨by unfold maxLen; omega, by unfold maxLen; omega⟩, fun h => ⟨⟨#[]⟩, rfl, by show 0 ≤ 60; omega⟩, fun _ => ⟨by omega, by omega, by omega, _, rfl, ?_⟩⟩
  simp only [ByteArray.size_append]
  omega
theorem textsD_len (ls : List ByteArray) : (textsD ls).length = ls.length := by simp [textsD]
theorem textsD_take (ls : List ByteArray) : List.take ls.length (textsD ls) = textsD ls := List.take_of_length_le (by rw [textsD_len]; omega)
theorem textsD_push (ls : List ByteArray) (s : ByteArray) : textsD (ls ++ [s]) = textsD ls ++ [.str s] := by simp [textsD]
theorem textsD_scal (ls : List ByteArray) : scal (textsD ls) := by
  intro d hd
  obtain ⟨s, _, rfl⟩ := List.mem_map.mp hd
  rfl
theorem ok_shl : FnOk Try.prog 35 s_shl := by
  refine fnOk (fn := Try.f35) (F := F_shl) (hs := hs_shl) (tab_cons ok_shv tab_nil) mixed rfl rfl rfl [.list 68] (by kernel_rfl) (by simp) ?_
  rintro n l ⟨hs, e, h1, h2⟩
  simp only [List.cons.injEq, D.list.injEq, true_and, and_true] at e
  obtain ⟨rfl, rfl⟩ := e
  refine ⟨fun h ys => h = 0 ∧ ∃ (k : Nat) (ls : List ByteArray), ys = [.list 68 hs.length (headsD hs), .int .i64 (0 : Nat), .int .i64 (ls.length : Nat), .int .i64 k, .list 9 0 (textsD ls)] ∧ k ≤ hs.length ∧ ls.length = k ∧ ∀ s ∈ ls, s.size ≤ 100, fun h ys => hs.length - (selI ys 3).toNat, ?_, ?_⟩
  · rw [t_shl]
    simp only [F_shl_shv, s_shv, Tree.holds, ltI_t, ltI_f, leI_t, leI_f, all_cons, all_nil, and_true, true_and, forall_eq, decide_eq_true_eq, decide_eq_false_iff_not, beq_iff_eq, beq_eq_false_iff_ne, bne_iff_ne, bne_eq_false_iff_eq, ne_eq, Decidable.not_not, selI_z, selB_z, selS_z, selN_z, selL_z, selI_s, selB_s, selS_s, selN_s, selL_s, Int.toNat_natCast, Nat.mul_one, Nat.zero_add, Nat.div_one, List.drop_zero, Nat.zero_mul, Nat.le_refl, Bool.not_eq_true', Bool.not_eq_false', Bool.false_eq_true, Bool.true_eq_false, not_true_eq_false, not_false_eq_true, false_imp_iff, true_imp_iff, if_true, if_false, sig, sigF, sigW, sigR, sigO]
    exact ⟨0, [], rfl, by omega, rfl, by simp⟩
  · rintro h ys ⟨rfl, k, ls, rfl, hk, hl, hsz⟩
    rw [t_shl0]
    simp only [F_shl_shv, s_shv, Tree.holds, ltI_t, ltI_f, leI_t, leI_f, all_cons, all_nil, and_true, true_and, forall_eq, decide_eq_true_eq, decide_eq_false_iff_not, beq_iff_eq, beq_eq_false_iff_ne, bne_iff_ne, bne_eq_false_iff_eq, ne_eq, Decidable.not_not, selI_z, selB_z, selS_z, selN_z, selL_z, selI_s, selB_s, selS_s, selN_s, selL_s, Int.toNat_natCast, Nat.mul_one, Nat.zero_add, Nat.div_one, List.drop_zero, Nat.zero_mul, Nat.le_refl, Bool.not_eq_true', Bool.not_eq_false', Bool.false_eq_true, Bool.true_eq_false, not_true_eq_false, not_false_eq_true, false_imp_iff, true_imp_iff, if_true, if_false, sig, sigF, sigW, sigR, sigO, textsD_len, textsD_take, ByteArray.size_append]
    refine ⟨fun hlt => ?_, fun hlt => ⟨textsD_scal ls, ls, rfl, by omega, hsz⟩⟩
    have hx : hs[k]? = some hs[k] := List.getElem?_eq_getElem (by omega)
    obtain ⟨c0, c1⟩ := heads_at hx
    obtain ⟨w0, w1⟩ := h2 _ (List.getElem_mem (by omega : k < hs.length))
    rw [c0, c1, selS_of c0, selS_of c1, sel_str c0, sel_str c1]
    have e2 : (⟨#[58, 32]⟩ : ByteArray).size = 2 := rfl
    have s1 := word_small w0
    have s2 := line_small w1
    refine ⟨⟨hs, rfl, h1, h2⟩, by omega, rfl, by omega, by omega, rfl, by omega, by omega, by unfold inK; omega, ⟨k + 1, ls ++ [hs[k].1 ++ ⟨#[58, 32]⟩ ++ hs[k].2], ?_, by omega, by simp [hl], fun s hs' => ?_⟩, by omega⟩
    · rw [textsD_push]
      simp
    · rcases List.mem_append.mp hs' with h | h
      · exact hsz s h
      · obtain rfl : s = _ := by simpa using h
        simp only [ByteArray.size_append]
        show _ + 2 + _ ≤ 100
        omega
theorem ok_smv : FnOk Try.prog 26 s_smv := by
  refine fnOk (fn := Try.f26) (F := F_smv) (hs := hs_smv) (tab_cons ok_sword (tab_cons ok_saddr (tab_cons ok_shv (tab_cons ok_sline (tab_cons ok_sin tab_nil))))) mixed rfl rfl rfl [.str, .str, .str, .int .i64, .list 68, .list 9] (by kernel_rfl) (by simp) ?_
  rintro a u h c nh lh nb lb ⟨a', u', h', c', hs, bd, e, hok⟩
  simp only [msgD, List.cons.injEq, D.list.injEq, D.str.injEq, D.int.injEq, true_and, and_true] at e
  obtain ⟨rfl, rfl, rfl, rfl, ⟨rfl, rfl⟩, rfl, rfl⟩ := e
  obtain ⟨hcase, hn, hh, hbn, hb⟩ := hok
  refine ⟨fun h9 ys => h9 = 0 ∧ ∃ (k : Nat) (r s : Bool), ys = [.bool r, .bool s, .int .i64 k, .str a, .str u, .str h, .int .i64 c, .list 68 hs.length (headsD hs), .list 9 bd.length (textsD bd)] ∧ k ≤ bd.length ∧ (r = true ∨ s = true), fun h9 ys => bd.length - (selI ys 2).toNat, ?_, ?_⟩
  · rw [t_smv]
    simp only [F_smv_sword, F_smv_saddr, F_smv_shv, F_smv_sline, F_smv_sin, s_sword, s_saddr, s_shv, s_sline, s_sin, Tree.holds, ltI_t, ltI_f, leI_t, leI_f, all_cons, all_nil, and_true, true_and, forall_eq, decide_eq_true_eq, decide_eq_false_iff_not, beq_iff_eq, beq_eq_false_iff_ne, bne_iff_ne, bne_eq_false_iff_eq, ne_eq, Decidable.not_not, selI_z, selB_z, selS_z, selN_z, selL_z, selI_s, selB_s, selS_s, selN_s, selL_s, Int.toNat_natCast, Nat.mul_one, Nat.zero_add, Nat.div_one, List.drop_zero, Nat.zero_mul, Nat.le_refl, Bool.not_eq_true', Bool.not_eq_false', Bool.false_eq_true, Bool.true_eq_false, not_true_eq_false, not_false_eq_true, false_imp_iff, true_imp_iff, if_true, if_false, sig, sigF, sigW, sigR, sigO, ByteArray.toList_eq]
    have go : ∀ r s : Bool, (r = true ∨ s = true) → ∃ (k : Nat) (r' s' : Bool), [D.bool r, .bool s, .int .i64 0, .str a, .str u, .str h, .int .i64 c, .list 68 hs.length (headsD hs), .list 9 bd.length (textsD bd)] = [D.bool r', .bool s', .int .i64 k, .str a, .str u, .str h, .int .i64 c, .list 68 hs.length (headsD hs), .list 9 bd.length (textsD bd)] ∧ k ≤ bd.length ∧ (r' = true ∨ s' = true) := fun r s h9 => ⟨0, r, s, rfl, by omega, h9⟩
    rcases hcase with ⟨wa, na, rfl, wu, wh⟩ | ⟨ea, c0, c1, eu, eh⟩
    · have hne : a.data.toList ≠ [] := fun e => by
        have : wordB a.data.toList = true := wa
        rw [e] at this; cases this
      refine ⟨word_max wa, fun _ => ⟨fun _ => ⟨fun _ => ⟨⟨word_max wu, word_max wh⟩, fun h9 => absurd h9 hne, fun _ => go _ _ (.inl ?_)⟩, fun h9 => absurd rfl h9⟩, fun h9 => absurd h9 na⟩, fun h9 => ?_⟩
      · rw [show wordB _ = true from wu, show wordB _ = true from wh]; rfl
      · rw [show wordB _ = true from wa] at h9; cases h9
    · have hz : a.size = 0 := by
        have : a.data.toList.length = 0 := by rw [ea]; rfl
        simpa using this
      refine ⟨by omega, fun hw => ?_, fun _ => ⟨fun _ => ⟨fun _ => go _ _ (.inr (by rw [eu, eh]; rfl)), fun h9 => absurd ⟨c0, c1⟩ (inB_no.mp h9)⟩, fun h9 => absurd ea h9⟩⟩
      rw [ea] at hw; cases hw
  · rintro h9 ys ⟨rfl, k, r, s, rfl, hk, hrs⟩
    rw [t_smv0]
    simp only [F_smv_sword, F_smv_saddr, F_smv_shv, F_smv_sline, F_smv_sin, s_sword, s_saddr, s_shv, s_sline, s_sin, Tree.holds, ltI_t, ltI_f, leI_t, leI_f, all_cons, all_nil, and_true, true_and, forall_eq, decide_eq_true_eq, decide_eq_false_iff_not, beq_iff_eq, beq_eq_false_iff_ne, bne_iff_ne, bne_eq_false_iff_eq, ne_eq, Decidable.not_not, selI_z, selB_z, selS_z, selN_z, selL_z, selI_s, selB_s, selS_s, selN_s, selL_s, Int.toNat_natCast, Nat.mul_one, Nat.zero_add, Nat.div_one, List.drop_zero, Nat.zero_mul, Nat.le_refl, Bool.not_eq_true', Bool.not_eq_false', Bool.false_eq_true, Bool.true_eq_false, not_true_eq_false, not_false_eq_true, false_imp_iff, true_imp_iff, if_true, if_false, sig, sigF, sigW, sigR, sigO, ByteArray.toList_eq]
    have hpre : ∃ hs_1 : List HM, [D.list 68 hs.length (headsD hs)] = [.list 68 hs_1.length (headsD hs_1)] ∧ hs_1.length ≤ 8 ∧ ∀ x ∈ hs_1, hOk x := ⟨hs, rfl, hn, hh⟩
    refine ⟨fun hlt => ?_, fun hlt => ?_⟩
    · have hx : (textsD bd)[k]? = some (.str bd[k]) := by unfold textsD; rw [List.getElem?_map, List.getElem?_eq_getElem (by omega)]; rfl
      obtain ⟨b1, b2⟩ := hb _ (List.getElem_mem (by omega : k < bd.length))
      rw [hx, selS_of hx, sel_str hx]
      refine ⟨by omega, rfl, line_max b1, fun h8 => ?_, fun _ => ⟨by omega, rfl, fun h8 => absurd h8 b2, fun _ => ⟨by unfold inK; omega, ⟨k + 1, r, s, rfl, by omega, hrs⟩, by omega⟩⟩⟩
      rw [show lineB _ = true from b1] at h8; cases h8
    · have hle : leI (bd.length : Int) 8 = true := by rw [leI_t]; omega
      rw [hle]
      refine ⟨fun _ => ⟨hpre, rfl⟩, fun hr => ⟨fun _ => ⟨hpre, rfl⟩, fun hs9 => ?_⟩⟩
      rcases hrs with h8 | h8
      · rw [h8] at hr; cases hr
      · rw [h8] at hs9; cases hs9
theorem lines_all {f : ByteArray} {ls bd : List ByteArray} (hf : f.size ≤ 100) (h1 : ls.length ≤ 8) (h2 : ∀ s ∈ ls, s.size ≤ 100) (h3 : bd.length ≤ 8) (h4 : ∀ s ∈ bd, s.size ≤ 100) :
    (ls.length ≤ (textsD ls).length ∧ 1 + ls.length ≤ 1048576) ∧
    (1 + ls.length ≤ (List.take 1 [D.str f] ++ List.take ls.length (textsD ls)).length ∧ 1 + ls.length + 1 ≤ 1048576) ∧
    (1 + ls.length + 1 ≤ (List.take (1 + ls.length) (List.take 1 [D.str f] ++ List.take ls.length (textsD ls)) ++ [D.str ⟨#[]⟩]).length ∧ 1 + ls.length + 1 + bd.length ≤ 1048576) ∧
    (1 + ls.length + 1 + bd.length ≤ (List.take (1 + ls.length + 1) (List.take (1 + ls.length) (List.take 1 [D.str f] ++ List.take ls.length (textsD ls)) ++ [D.str ⟨#[]⟩]) ++ textsD bd).length ∧
      scal (List.take (1 + ls.length + 1 + bd.length) (List.take (1 + ls.length + 1) (List.take (1 + ls.length) (List.take 1 [D.str f] ++ List.take ls.length (textsD ls)) ++ [D.str ⟨#[]⟩]) ++ textsD bd))) ∧
    ∃ out : List ByteArray, [D.list 9 (1 + ls.length + 1 + bd.length) (List.take (1 + ls.length + 1 + bd.length) (List.take (1 + ls.length + 1) (List.take (1 + ls.length) (List.take 1 [D.str f] ++ List.take ls.length (textsD ls)) ++ [D.str ⟨#[]⟩]) ++ textsD bd))] = [D.list 9 out.length (textsD out)] ∧ 1 ≤ out.length ∧ out.length ≤ 20 ∧ ∀ s ∈ out, s.size ≤ 100 := by
  have x1 : List.take 1 [D.str f] ++ List.take ls.length (textsD ls) = textsD ([f] ++ ls) := by rw [textsD_take]; simp [textsD]
  rw [x1]
  have x2 : List.take (1 + ls.length) (textsD ([f] ++ ls)) = textsD ([f] ++ ls) := List.take_of_length_le (by rw [textsD_len]; simp; omega)
  rw [x2]
  have x3 : textsD ([f] ++ ls) ++ [D.str ⟨#[]⟩] = textsD ([f] ++ ls ++ [⟨#[]⟩]) := by simp [textsD]
  rw [x3]
  have x4 : List.take (1 + ls.length + 1) (textsD ([f] ++ ls ++ [⟨#[]⟩])) = textsD ([f] ++ ls ++ [⟨#[]⟩]) := List.take_of_length_le (by rw [textsD_len]; simp; omega)
  rw [x4]
  have x5 : textsD ([f] ++ ls ++ [⟨#[]⟩]) ++ textsD bd = textsD ([f] ++ ls ++ [⟨#[]⟩] ++ bd) := by simp [textsD]
  rw [x5]
  have x6 : List.take (1 + ls.length + 1 + bd.length) (textsD ([f] ++ ls ++ [⟨#[]⟩] ++ bd)) = textsD ([f] ++ ls ++ [⟨#[]⟩] ++ bd) := List.take_of_length_le (by rw [textsD_len]; simp; omega)
  rw [x6]
  have hl : ([f] ++ ls ++ [⟨#[]⟩] ++ bd : List ByteArray).length = 1 + ls.length + 1 + bd.length := by simp; omega
  refine ⟨⟨by rw [textsD_len]; omega, by omega⟩, ⟨by rw [textsD_len]; simp; omega, by omega⟩, ⟨by rw [textsD_len]; simp; omega, by omega⟩, ⟨by rw [textsD_len, hl]; omega, textsD_scal _⟩, _, by rw [hl], by omega, by omega, fun s hs => ?_⟩
  simp only [List.mem_append, List.mem_singleton] at hs
  rcases hs with ((rfl | hs) | rfl) | hs
  · exact hf
  · exact h2 s hs
  · show 0 ≤ 100; omega
  · exact h4 s hs
theorem textS_small (n : Int) : (textS n).size ≤ 10 := by
  have e : (textS n).size = (textN n).length := rfl
  rw [e]
  unfold textN
  split
  · rename_i h
    have := numT_len7 n.toNat (by omega)
    omega
  · show 0 ≤ 10; omega
theorem ok_sml : FnOk Try.prog 13 s_sml := by
  refine fnOk (fn := Try.f13) (F := F_sml) (hs := hs_sml) (tab_cons ok_smv (tab_cons ok_satx (tab_cons ok_snum (tab_cons ok_shl tab_nil)))) mixed rfl rfl rfl [.str, .str, .str, .int .i64, .list 68, .list 9] (by kernel_rfl) (by simp) ?_
  rintro a u h c nh lh nb lb ⟨a', u', h', c', hs, bd, e, hok⟩
  simp only [msgD, List.cons.injEq, D.list.injEq, D.str.injEq, D.int.injEq, true_and, and_true] at e
  obtain ⟨rfl, rfl, rfl, rfl, ⟨rfl, rfl⟩, rfl, rfl⟩ := e
  have small : a.size ≤ 20 ∧ u.size ≤ 20 ∧ h.size ≤ 20 := by
    rcases hok.1 with ⟨wa, na, _, wu, wh⟩ | ⟨ea, c0, c1, eu, eh⟩
    · have := word_small wa
      have := word_small wu
      have := word_small wh
      omega
    · have ha : a.data.toList.length = 0 := by rw [ea]; rfl
      have hu : u.data.toList.length = 0 := by rw [eu]; rfl
      have hh : h.data.toList.length = 0 := by rw [eh]; rfl
      have ha' : a.size = 0 := by simpa using ha
      have hu' : u.size = 0 := by simpa using hu
      have hh' : h.size = 0 := by simpa using hh
      omega
  have hbd : ∀ s ∈ bd, s.size ≤ 100 := fun s hs' => by have := line_small (hok.2.2.2.2 s hs').1; omega
  have hpre : ∃ hs_1 : List HM, [D.list 68 hs.length (headsD hs)] = [.list 68 hs_1.length (headsD hs_1)] ∧ hs_1.length ≤ 8 ∧ ∀ x ∈ hs_1, hOk x := ⟨hs, rfl, hok.2.1, hok.2.2.1⟩
  have e1 : (⟨#[32]⟩ : ByteArray).size = 1 := rfl
  have e7 : (⟨#[97, 110, 115, 119, 101, 114, 32]⟩ : ByteArray).size = 7 := rfl
  refine ⟨fun h9 ys => False, fun h9 ys => 0, ?_, fun _ _ h => h.elim⟩
  rw [t_sml]
  simp only [F_sml_smv, F_sml_satx, F_sml_snum, F_sml_shl, s_smv, s_satx, s_snum, s_shl, Tree.holds, ltI_t, ltI_f, leI_t, leI_f, all_cons, all_nil, and_true, true_and, forall_eq, decide_eq_true_eq, decide_eq_false_iff_not, beq_iff_eq, beq_eq_false_iff_ne, bne_iff_ne, bne_eq_false_iff_eq, ne_eq, Decidable.not_not, selI_z, selB_z, selS_z, selN_z, selL_z, selI_s, selB_s, selS_s, selN_s, selL_s, Int.toNat_natCast, Nat.mul_one, Nat.zero_add, Nat.div_one, List.drop_zero, Nat.zero_mul, Nat.le_refl, Bool.not_eq_true', Bool.not_eq_false', Bool.false_eq_true, Bool.true_eq_false, not_true_eq_false, not_false_eq_true, false_imp_iff, true_imp_iff, if_true, if_false, sig, sigF, sigW, sigR, sigO, ByteArray.toList_eq]
  refine ⟨⟨a, u, h, c, hs, bd, rfl, hok⟩, by omega, ⟨small.2.1, small.2.2⟩, ?_⟩
  rintro ys ⟨tx, rfl, htx⟩
  simp only [F_sml_smv, F_sml_satx, F_sml_snum, F_sml_shl, s_smv, s_satx, s_snum, s_shl, Tree.holds, ltI_t, ltI_f, leI_t, leI_f, all_cons, all_nil, and_true, true_and, forall_eq, decide_eq_true_eq, decide_eq_false_iff_not, beq_iff_eq, beq_eq_false_iff_ne, bne_iff_ne, bne_eq_false_iff_eq, ne_eq, Decidable.not_not, selI_z, selB_z, selS_z, selN_z, selL_z, selI_s, selB_s, selS_s, selN_s, selL_s, Int.toNat_natCast, Nat.mul_one, Nat.zero_add, Nat.div_one, List.drop_zero, Nat.zero_mul, Nat.le_refl, Bool.not_eq_true', Bool.not_eq_false', Bool.false_eq_true, Bool.true_eq_false, not_true_eq_false, not_false_eq_true, false_imp_iff, true_imp_iff, if_true, if_false, sig, sigF, sigW, sigR, sigO, ByteArray.toList_eq]
  have ts := textS_small c
  refine ⟨by simp only [ByteArray.size_append]; omega, fun ha => ⟨by omega, hpre, ?_⟩, fun ha => ⟨hpre, ?_⟩⟩
  · rintro ys ⟨ls, rfl, l1, l2⟩
    simp only [F_sml_smv, F_sml_satx, F_sml_snum, F_sml_shl, s_smv, s_satx, s_snum, s_shl, Tree.holds, ltI_t, ltI_f, leI_t, leI_f, all_cons, all_nil, and_true, true_and, forall_eq, decide_eq_true_eq, decide_eq_false_iff_not, beq_iff_eq, beq_eq_false_iff_ne, bne_iff_ne, bne_eq_false_iff_eq, ne_eq, Decidable.not_not, selI_z, selB_z, selS_z, selN_z, selL_z, selI_s, selB_s, selS_s, selN_s, selL_s, Int.toNat_natCast, Nat.mul_one, Nat.zero_add, Nat.div_one, List.drop_zero, Nat.zero_mul, Nat.le_refl, Bool.not_eq_true', Bool.not_eq_false', Bool.false_eq_true, Bool.true_eq_false, not_true_eq_false, not_false_eq_true, false_imp_iff, true_imp_iff, if_true, if_false, sig, sigF, sigW, sigR, sigO]
    exact lines_all (by simp only [ByteArray.size_append]; omega) l1 l2 hok.2.2.2.1 hbd
  · rintro ys ⟨ls, rfl, l1, l2⟩
    simp only [F_sml_smv, F_sml_satx, F_sml_snum, F_sml_shl, s_smv, s_satx, s_snum, s_shl, Tree.holds, ltI_t, ltI_f, leI_t, leI_f, all_cons, all_nil, and_true, true_and, forall_eq, decide_eq_true_eq, decide_eq_false_iff_not, beq_iff_eq, beq_eq_false_iff_ne, bne_iff_ne, bne_eq_false_iff_eq, ne_eq, Decidable.not_not, selI_z, selB_z, selS_z, selN_z, selL_z, selI_s, selB_s, selS_s, selN_s, selL_s, Int.toNat_natCast, Nat.mul_one, Nat.zero_add, Nat.div_one, List.drop_zero, Nat.zero_mul, Nat.le_refl, Bool.not_eq_true', Bool.not_eq_false', Bool.false_eq_true, Bool.true_eq_false, not_true_eq_false, not_false_eq_true, false_imp_iff, true_imp_iff, if_true, if_false, sig, sigF, sigW, sigR, sigO]
    exact lines_all (by simp only [ByteArray.size_append]; omega) l1 l2 hok.2.2.2.1 hbd
theorem codes_ok : ∀ d ∈ [D.int .i64 100, .int .i64 180, .int .i64 200, .int .i64 404, .int .i64 699], ∃ z : Int, d = .int .i64 z ∧ 100 ≤ z ∧ z ≤ 699 := by
  intro d hd
  simp only [List.mem_cons, List.not_mem_nil, or_false] at hd
  rcases hd with rfl | rfl | rfl | rfl | rfl <;> exact ⟨_, rfl, by omega, by omega⟩
theorem ok_dmsg : FnOk Try.prog 14 s_dmsg := by
  refine fnOkR (fn := Try.f14) (F := F_dmsg) (hs := hs_dmsg) (tab_cons ok_daddr (tab_cons ok_dheads (tab_cons ok_dpick (tab_cons ok_dodd tab_nil)))) mixed rfl rfl rfl (by kernel_rfl) [.int .i64] (by kernel_rfl) (by simp [hs_dmsg, shapeW]) ?_
  rintro r n ⟨hr, hn⟩
  obtain ⟨L, p, rfl, hL, hp0, hp1⟩ := rd_split hr
  obtain rfl : n = 0 := hn
  refine ⟨fun h ys => h = 0 ∧ ∃ (q : Int) (k : Nat) (a u hh : ByteArray) (c : Int) (hs : List HM) (bd : List ByteArray), ys = [.int .i64 0, .int .i64 k, .list 59 0 (rdL L q), .str ⟨#[]⟩, .str ⟨#[]⟩, .str ⟨#[]⟩, .int .i64 0, .int .i64 (0 : Nat), .int .i64 (0 : Nat), .int .i64 (0 : Nat), .int .i64 (0 : Nat), .str a, .str u, .str hh, .int .i64 c, .int .i64 (0 : Nat), .int .i64 (hs.length : Nat), .int .i64 (0 : Nat), .int .i64 (bd.length : Nat), .list 68 0 (headsD hs), .list 68 0 [], .list 9 0 [], .list 9 0 (textsD bd)] ∧ okM a u hh c hs bd ∧ bd.length + k ≤ 3 ∧ p ≤ q ∧ q ≤ p + 48 + bd.length, fun h ys => (selI ys 1).toNat, ?_, ?_⟩
  · rw [t_dmsg]
    simp only [F_dmsg_daddr, F_dmsg_dheads, F_dmsg_dpick, F_dmsg_dodd, s_daddr, s_dheads, s_dpick, s_dodd, Tree.holds, ltI_t, ltI_f, leI_t, leI_f, all_cons, all_nil, and_true, true_and, forall_eq, decide_eq_true_eq, decide_eq_false_iff_not, beq_iff_eq, beq_eq_false_iff_ne, bne_iff_ne, bne_eq_false_iff_eq, ne_eq, Decidable.not_not, selI_z, selB_z, selS_z, selN_z, selL_z, selI_s, selB_s, selS_s, selN_s, selL_s, Int.toNat_natCast, Nat.mul_one, Nat.zero_add, Nat.div_one, List.drop_zero, Nat.zero_mul, Nat.le_refl, Bool.not_eq_true', Bool.not_eq_false', Bool.false_eq_true, Bool.true_eq_false, not_true_eq_false, not_false_eq_true, false_imp_iff, true_imp_iff, if_true, if_false, sig, sigF, sigW, sigR, sigO]
    refine ⟨⟨rd_in hL hp0 (by omega), by omega, by omega⟩, ?_⟩
    rintro ys ⟨p1, rs, rfl, q1, q2, x, rfl, x0, x1⟩
    rw [rdN_z] at q1 q2
    simp only [F_dmsg_daddr, F_dmsg_dheads, F_dmsg_dpick, F_dmsg_dodd, s_daddr, s_dheads, s_dpick, s_dodd, Tree.holds, ltI_t, ltI_f, leI_t, leI_f, all_cons, all_nil, and_true, true_and, forall_eq, decide_eq_true_eq, decide_eq_false_iff_not, beq_iff_eq, beq_eq_false_iff_ne, bne_iff_ne, bne_eq_false_iff_eq, ne_eq, Decidable.not_not, selI_z, selB_z, selS_z, selN_z, selL_z, selI_s, selB_s, selS_s, selN_s, selL_s, Int.toNat_natCast, Nat.mul_one, Nat.zero_add, Nat.div_one, List.drop_zero, Nat.zero_mul, Nat.le_refl, Bool.not_eq_true', Bool.not_eq_false', Bool.false_eq_true, Bool.true_eq_false, not_true_eq_false, not_false_eq_true, false_imp_iff, true_imp_iff, if_true, if_false, sig, sigF, sigW, sigR, sigO, rdB_z]
    generalize hls : (D.str ⟨#[105, 110, 118, 105, 116, 101]⟩ :: _ : List D) = ls
    obtain ⟨s, g1, g2⟩ := pick_str (ls := ls) (n := 3) (fun s => wordB s.data.toList && (s.data.toList != [97, 110, 115, 119, 101, 114])) x0 x1 (by rw [← hls]; rfl) (by rw [← hls]; kernel_rfl)
    simp only [Bool.and_eq_true, bne_iff_ne, ne_eq] at g2
    rw [g1, sel_str g1, selS_of g1]
    refine ⟨⟨x0, x1⟩, rfl, rd_in hL (by omega) (by omega), ?_⟩
    rintro ys ⟨p2, rs, rfl, q3, q4, u, v, rfl, hu, hv⟩
    rw [rdN_z] at q3 q4
    simp only [F_dmsg_daddr, F_dmsg_dheads, F_dmsg_dpick, F_dmsg_dodd, s_daddr, s_dheads, s_dpick, s_dodd, Tree.holds, ltI_t, ltI_f, leI_t, leI_f, all_cons, all_nil, and_true, true_and, forall_eq, decide_eq_true_eq, decide_eq_false_iff_not, beq_iff_eq, beq_eq_false_iff_ne, bne_iff_ne, bne_eq_false_iff_eq, ne_eq, Decidable.not_not, selI_z, selB_z, selS_z, selN_z, selL_z, selI_s, selB_s, selS_s, selN_s, selL_s, Int.toNat_natCast, Nat.mul_one, Nat.zero_add, Nat.div_one, List.drop_zero, Nat.zero_mul, Nat.le_refl, Bool.not_eq_true', Bool.not_eq_false', Bool.false_eq_true, Bool.true_eq_false, not_true_eq_false, not_false_eq_true, false_imp_iff, true_imp_iff, if_true, if_false, sig, sigF, sigW, sigR, sigO, rdB_z]
    refine ⟨rd_in hL (by omega) (by omega), ?_⟩
    rintro ys ⟨p3, rs, rfl, q5, q6, hs, rfl, hl, hh⟩
    rw [rdN_z] at q5 q6
    simp only [F_dmsg_daddr, F_dmsg_dheads, F_dmsg_dpick, F_dmsg_dodd, s_daddr, s_dheads, s_dpick, s_dodd, Tree.holds, ltI_t, ltI_f, leI_t, leI_f, all_cons, all_nil, and_true, true_and, forall_eq, decide_eq_true_eq, decide_eq_false_iff_not, beq_iff_eq, beq_eq_false_iff_ne, bne_iff_ne, bne_eq_false_iff_eq, ne_eq, Decidable.not_not, selI_z, selB_z, selS_z, selN_z, selL_z, selI_s, selB_s, selS_s, selN_s, selL_s, Int.toNat_natCast, Nat.mul_one, Nat.zero_add, Nat.div_one, List.drop_zero, Nat.zero_mul, Nat.le_refl, Bool.not_eq_true', Bool.not_eq_false', Bool.false_eq_true, Bool.true_eq_false, not_true_eq_false, not_false_eq_true, false_imp_iff, true_imp_iff, if_true, if_false, sig, sigF, sigW, sigR, sigO, rdB_z]
    refine ⟨⟨rd_in hL (by omega) (by omega), by omega, by omega⟩, ?_⟩
    rintro ys ⟨p4, rs, rfl, q7, q8, y, rfl, y0, y1⟩
    rw [rdN_z] at q7 q8
    simp only [F_dmsg_daddr, F_dmsg_dheads, F_dmsg_dpick, F_dmsg_dodd, s_daddr, s_dheads, s_dpick, s_dodd, Tree.holds, ltI_t, ltI_f, leI_t, leI_f, all_cons, all_nil, and_true, true_and, forall_eq, decide_eq_true_eq, decide_eq_false_iff_not, beq_iff_eq, beq_eq_false_iff_ne, bne_iff_ne, bne_eq_false_iff_eq, ne_eq, Decidable.not_not, selI_z, selB_z, selS_z, selN_z, selL_z, selI_s, selB_s, selS_s, selN_s, selL_s, Int.toNat_natCast, Nat.mul_one, Nat.zero_add, Nat.div_one, List.drop_zero, Nat.zero_mul, Nat.le_refl, Bool.not_eq_true', Bool.not_eq_false', Bool.false_eq_true, Bool.true_eq_false, not_true_eq_false, not_false_eq_true, false_imp_iff, true_imp_iff, if_true, if_false, sig, sigF, sigW, sigR, sigO, rdB_z]
    refine ⟨fun hy => ⟨⟨rd_in hL (by omega) (by omega), by omega, by omega⟩, ?_⟩, fun hy => ⟨⟨rd_in hL (by omega) (by omega), by omega, by omega⟩, ?_⟩⟩
    · rintro ys ⟨p5, rs, rfl, q9, q10, z, rfl, z0, z1⟩
      rw [rdN_z] at q9 q10
      simp only [F_dmsg_daddr, F_dmsg_dheads, F_dmsg_dpick, F_dmsg_dodd, s_daddr, s_dheads, s_dpick, s_dodd, Tree.holds, ltI_t, ltI_f, leI_t, leI_f, all_cons, all_nil, and_true, true_and, forall_eq, decide_eq_true_eq, decide_eq_false_iff_not, beq_iff_eq, beq_eq_false_iff_ne, bne_iff_ne, bne_eq_false_iff_eq, ne_eq, Decidable.not_not, selI_z, selB_z, selS_z, selN_z, selL_z, selI_s, selB_s, selS_s, selN_s, selL_s, Int.toNat_natCast, Nat.mul_one, Nat.zero_add, Nat.div_one, List.drop_zero, Nat.zero_mul, Nat.le_refl, Bool.not_eq_true', Bool.not_eq_false', Bool.false_eq_true, Bool.true_eq_false, not_true_eq_false, not_false_eq_true, false_imp_iff, true_imp_iff, if_true, if_false, sig, sigF, sigW, sigR, sigO, rdB_z]
      obtain ⟨c, h1, h2, h3⟩ := pick_int (n := 5) z0 z1 rfl codes_ok
      rw [h1, sel_int h1, selI_of h1]
      refine ⟨⟨z0, z1⟩, rfl, ⟨rd_in hL (by omega) (by omega), by omega, by omega⟩, ?_⟩
      rintro ys ⟨p6, rs, rfl, q11, q12, k, rfl, k0, k1⟩
      rw [rdN_z] at q11 q12
      simp only [F_dmsg_daddr, F_dmsg_dheads, F_dmsg_dpick, F_dmsg_dodd, s_daddr, s_dheads, s_dpick, s_dodd, Tree.holds, ltI_t, ltI_f, leI_t, leI_f, all_cons, all_nil, and_true, true_and, forall_eq, decide_eq_true_eq, decide_eq_false_iff_not, beq_iff_eq, beq_eq_false_iff_ne, bne_iff_ne, bne_eq_false_iff_eq, ne_eq, Decidable.not_not, selI_z, selB_z, selS_z, selN_z, selL_z, selI_s, selB_s, selS_s, selN_s, selL_s, Int.toNat_natCast, Nat.mul_one, Nat.zero_add, Nat.div_one, List.drop_zero, Nat.zero_mul, Nat.le_refl, Bool.not_eq_true', Bool.not_eq_false', Bool.false_eq_true, Bool.true_eq_false, not_true_eq_false, not_false_eq_true, false_imp_iff, true_imp_iff, if_true, if_false, sig, sigF, sigW, sigR, sigO, rdB_z]
      exact ⟨p6, k.toNat, ⟨#[]⟩, ⟨#[]⟩, ⟨#[]⟩, c, hs, [], by rw [Int.toNat_of_nonneg k0]; rfl, ⟨.inr ⟨rfl, h2, h3, rfl, rfl⟩, by omega, hh, by simp, by simp⟩, by simp; omega, by omega, by simp; omega⟩
    · rintro ys ⟨p6, rs, rfl, q11, q12, k, rfl, k0, k1⟩
      rw [rdN_z] at q11 q12
      simp only [F_dmsg_daddr, F_dmsg_dheads, F_dmsg_dpick, F_dmsg_dodd, s_daddr, s_dheads, s_dpick, s_dodd, Tree.holds, ltI_t, ltI_f, leI_t, leI_f, all_cons, all_nil, and_true, true_and, forall_eq, decide_eq_true_eq, decide_eq_false_iff_not, beq_iff_eq, beq_eq_false_iff_ne, bne_iff_ne, bne_eq_false_iff_eq, ne_eq, Decidable.not_not, selI_z, selB_z, selS_z, selN_z, selL_z, selI_s, selB_s, selS_s, selN_s, selL_s, Int.toNat_natCast, Nat.mul_one, Nat.zero_add, Nat.div_one, List.drop_zero, Nat.zero_mul, Nat.le_refl, Bool.not_eq_true', Bool.not_eq_false', Bool.false_eq_true, Bool.true_eq_false, not_true_eq_false, not_false_eq_true, false_imp_iff, true_imp_iff, if_true, if_false, sig, sigF, sigW, sigR, sigO, rdB_z]
      exact ⟨p6, k.toNat, s, u, v, 0, hs, [], by rw [Int.toNat_of_nonneg k0]; rfl, ⟨.inl ⟨g2.1, g2.2, rfl, hu, hv⟩, by omega, hh, by simp, by simp⟩, by simp; omega, by omega, by simp; omega⟩
  · rintro h ys ⟨rfl, q, k, a, u, hh, c, hs, bd, rfl, hok, h1, h2, h3⟩
    rw [t_dmsg0]
    simp only [F_dmsg_daddr, F_dmsg_dheads, F_dmsg_dpick, F_dmsg_dodd, s_daddr, s_dheads, s_dpick, s_dodd, Tree.holds, ltI_t, ltI_f, leI_t, leI_f, all_cons, all_nil, and_true, true_and, forall_eq, decide_eq_true_eq, decide_eq_false_iff_not, beq_iff_eq, beq_eq_false_iff_ne, bne_iff_ne, bne_eq_false_iff_eq, ne_eq, Decidable.not_not, selI_z, selB_z, selS_z, selN_z, selL_z, selI_s, selB_s, selS_s, selN_s, selL_s, Int.toNat_natCast, Nat.mul_one, Nat.zero_add, Nat.div_one, List.drop_zero, Nat.zero_mul, Nat.le_refl, Bool.not_eq_true', Bool.not_eq_false', Bool.false_eq_true, Bool.true_eq_false, not_true_eq_false, not_false_eq_true, false_imp_iff, true_imp_iff, if_true, if_false, sig, sigF, sigW, sigR, sigO, headsD_len, headsD_take, textsD_len, textsD_take]
    refine ⟨fun hk => ⟨⟨rd_in hL (by omega) (by omega), by omega, by omega⟩, ?_⟩, fun hk => ⟨⟨rd_in hL (by omega) (by omega), by omega, by omega⟩, ?_⟩⟩
    · rintro ys ⟨p1, rs, rfl, a1, a2, x, rfl, x0, x1⟩
      rw [rdN_z] at a1 a2
      simp only [F_dmsg_daddr, F_dmsg_dheads, F_dmsg_dpick, F_dmsg_dodd, s_daddr, s_dheads, s_dpick, s_dodd, Tree.holds, ltI_t, ltI_f, leI_t, leI_f, all_cons, all_nil, and_true, true_and, forall_eq, decide_eq_true_eq, decide_eq_false_iff_not, beq_iff_eq, beq_eq_false_iff_ne, bne_iff_ne, bne_eq_false_iff_eq, ne_eq, Decidable.not_not, selI_z, selB_z, selS_z, selN_z, selL_z, selI_s, selB_s, selS_s, selN_s, selL_s, Int.toNat_natCast, Nat.mul_one, Nat.zero_add, Nat.div_one, List.drop_zero, Nat.zero_mul, Nat.le_refl, Bool.not_eq_true', Bool.not_eq_false', Bool.false_eq_true, Bool.true_eq_false, not_true_eq_false, not_false_eq_true, false_imp_iff, true_imp_iff, if_true, if_false, sig, sigF, sigW, sigR, sigO, rdB_z, headsD_len, headsD_take, textsD_len, textsD_take]
      generalize hls : (D.str ⟨#[97, 117, 100, 105, 111, 32, 53, 48, 48, 48]⟩ :: _ : List D) = ls
      obtain ⟨s, g1, g2⟩ := pick_str (ls := ls) (n := 3) (fun s => lineB s.data.toList && (s.data.toList != [])) x0 x1 (by rw [← hls]; rfl) (by rw [← hls]; kernel_rfl)
      simp only [Bool.and_eq_true, bne_iff_ne, ne_eq] at g2
      rw [g1, sel_str g1]
      refine ⟨⟨x0, x1⟩, rfl, by omega, by unfold inK; omega, ⟨p1, k - 1, a, u, hh, c, hs, bd ++ [s], ?_, ⟨hok.1, hok.2.1, hok.2.2.1, by simp; omega, fun y hy => ?_⟩, by simp; omega, by omega, by simp; omega⟩, by omega⟩
      · rw [textsD_push, show (k : Int) - 1 = ((k - 1 : Nat) : Int) by omega]
        simp
      · rcases List.mem_append.mp hy with hy | hy
        · exact hok.2.2.2.2 y hy
        · obtain rfl : y = s := by simpa using hy
          exact g2
    · rintro ys ⟨p1, rs, rfl, a1, a2, b, rfl, hb⟩
      subst hb
      rw [rdN_z] at a1 a2
      simp only [F_dmsg_daddr, F_dmsg_dheads, F_dmsg_dpick, F_dmsg_dodd, s_daddr, s_dheads, s_dpick, s_dodd, Tree.holds, ltI_t, ltI_f, leI_t, leI_f, all_cons, all_nil, and_true, true_and, forall_eq, decide_eq_true_eq, decide_eq_false_iff_not, beq_iff_eq, beq_eq_false_iff_ne, bne_iff_ne, bne_eq_false_iff_eq, ne_eq, Decidable.not_not, selI_z, selB_z, selS_z, selN_z, selL_z, selI_s, selB_s, selS_s, selN_s, selL_s, Int.toNat_natCast, Nat.mul_one, Nat.zero_add, Nat.div_one, List.drop_zero, Nat.zero_mul, Nat.le_refl, Bool.not_eq_true', Bool.not_eq_false', Bool.false_eq_true, Bool.true_eq_false, not_true_eq_false, not_false_eq_true, false_imp_iff, true_imp_iff, if_true, if_false, sig, sigF, sigW, sigR, sigO, rdB_z, headsD_len, headsD_take, textsD_len, textsD_take]
      exact ⟨p1, _, rfl, by rw [rdN_z]; omega, by rw [rdN_z]; omega, a, u, hh, c, hs, bd, rfl, hok⟩
/-- The lists that are handed out. -/
def smallD (ys : List D) : Prop := ∃ ls : List ByteArray, ys = [.list 9 ls.length (textsD ls)] ∧ ls.length ≤ 22 ∧ ∀ s ∈ ls, s.size ≤ 100
theorem drm_end {X : List D} {n : Nat} (out : List ByteArray) (hX : X = textsD out) (hn : n = out.length) (h1 : out.length ≤ 22) (h2 : ∀ s ∈ out, s.size ≤ 100) : (n ≤ X.length ∧ scal (List.take n X)) ∧ smallD [D.list 9 n (List.take n X)] := by
  subst hX
  subst hn
  rw [textsD_take]
  exact ⟨⟨by rw [textsD_len]; omega, textsD_scal _⟩, out, rfl, h1, h2⟩
theorem textsD_cons (s : ByteArray) (ls : List ByteArray) : textsD (s :: ls) = .str s :: textsD ls := rfl
theorem ok_drm : FnOk Try.prog 4 s_drm := by
  refine fnOk (fn := Try.f4) (F := F_drm) (hs := hs_drm) (tab_cons ok_dopen (tab_cons ok_dmsg (tab_cons ok_sml (tab_cons ok_dodd (tab_cons ok_dpick tab_nil))))) mixed rfl rfl rfl [.list 5] (by kernel_rfl) (by simp) ?_
  intro m bl hb
  refine ⟨fun h ys => False, fun h ys => 0, ?_, fun _ _ h => h.elim⟩
  rw [t_drm]
  simp only [F_drm_dopen, F_drm_dmsg, F_drm_sml, F_drm_dodd, F_drm_dpick, s_dopen, s_dmsg, s_sml, s_dodd, s_dpick, Tree.holds, ltI_t, ltI_f, leI_t, leI_f, all_cons, all_nil, and_true, true_and, forall_eq, decide_eq_true_eq, decide_eq_false_iff_not, beq_iff_eq, beq_eq_false_iff_ne, bne_iff_ne, bne_eq_false_iff_eq, ne_eq, Decidable.not_not, selI_z, selB_z, selS_z, selN_z, selL_z, selI_s, selB_s, selS_s, selN_s, selL_s, Int.toNat_natCast, Nat.mul_one, Nat.zero_add, Nat.div_one, List.drop_zero, Nat.zero_mul, Nat.le_refl, Bool.not_eq_true', Bool.not_eq_false', Bool.false_eq_true, Bool.true_eq_false, not_true_eq_false, not_false_eq_true, false_imp_iff, true_imp_iff, if_true, if_false, sig, sigF, sigW, sigR, sigO]
  refine ⟨hb, ?_⟩
  rintro ys ⟨L, hL, rfl⟩
  simp only [F_drm_dopen, F_drm_dmsg, F_drm_sml, F_drm_dodd, F_drm_dpick, s_dopen, s_dmsg, s_sml, s_dodd, s_dpick, Tree.holds, ltI_t, ltI_f, leI_t, leI_f, all_cons, all_nil, and_true, true_and, forall_eq, decide_eq_true_eq, decide_eq_false_iff_not, beq_iff_eq, beq_eq_false_iff_ne, bne_iff_ne, bne_eq_false_iff_eq, ne_eq, Decidable.not_not, selI_z, selB_z, selS_z, selN_z, selL_z, selI_s, selB_s, selS_s, selN_s, selL_s, Int.toNat_natCast, Nat.mul_one, Nat.zero_add, Nat.div_one, List.drop_zero, Nat.zero_mul, Nat.le_refl, Bool.not_eq_true', Bool.not_eq_false', Bool.false_eq_true, Bool.true_eq_false, not_true_eq_false, not_false_eq_true, false_imp_iff, true_imp_iff, if_true, if_false, sig, sigF, sigW, sigR, sigO]
  refine ⟨rd_in hL (by omega) (by omega), ?_⟩
  rintro ys ⟨p1, rs, rfl, q1, q2, a, u, h, c, hs, bd, rfl, hok⟩
  rw [rdN_z] at q1 q2
  simp only [F_drm_dopen, F_drm_dmsg, F_drm_sml, F_drm_dodd, F_drm_dpick, s_dopen, s_dmsg, s_sml, s_dodd, s_dpick, Tree.holds, ltI_t, ltI_f, leI_t, leI_f, all_cons, all_nil, and_true, true_and, forall_eq, decide_eq_true_eq, decide_eq_false_iff_not, beq_iff_eq, beq_eq_false_iff_ne, bne_iff_ne, bne_eq_false_iff_eq, ne_eq, Decidable.not_not, selI_z, selB_z, selS_z, selN_z, selL_z, selI_s, selB_s, selS_s, selN_s, selL_s, Int.toNat_natCast, Nat.mul_one, Nat.zero_add, Nat.div_one, List.drop_zero, Nat.zero_mul, Nat.le_refl, Bool.not_eq_true', Bool.not_eq_false', Bool.false_eq_true, Bool.true_eq_false, not_true_eq_false, not_false_eq_true, false_imp_iff, true_imp_iff, if_true, if_false, sig, sigF, sigW, sigR, sigO, rdB_z, msgD]
  refine ⟨⟨a, u, h, c, hs, bd, rfl, hok⟩, ?_⟩
  rintro ys ⟨ls, rfl, l1, l2, l3⟩
  simp only [F_drm_dopen, F_drm_dmsg, F_drm_sml, F_drm_dodd, F_drm_dpick, s_dopen, s_dmsg, s_sml, s_dodd, s_dpick, Tree.holds, ltI_t, ltI_f, leI_t, leI_f, all_cons, all_nil, and_true, true_and, forall_eq, decide_eq_true_eq, decide_eq_false_iff_not, beq_iff_eq, beq_eq_false_iff_ne, bne_iff_ne, bne_eq_false_iff_eq, ne_eq, Decidable.not_not, selI_z, selB_z, selS_z, selN_z, selL_z, selI_s, selB_s, selS_s, selN_s, selL_s, Int.toNat_natCast, Nat.mul_one, Nat.zero_add, Nat.div_one, List.drop_zero, Nat.zero_mul, Nat.le_refl, Bool.not_eq_true', Bool.not_eq_false', Bool.false_eq_true, Bool.true_eq_false, not_true_eq_false, not_false_eq_true, false_imp_iff, true_imp_iff, if_true, if_false, sig, sigF, sigW, sigR, sigO, rdB_z]
  refine ⟨⟨rd_in hL (by omega) (by omega), by omega, by omega⟩, ?_⟩
  rintro ys ⟨p2, rs, rfl, q3, q4, b, rfl, -⟩
  rw [rdN_z] at q3 q4
  simp only [F_drm_dopen, F_drm_dmsg, F_drm_sml, F_drm_dodd, F_drm_dpick, s_dopen, s_dmsg, s_sml, s_dodd, s_dpick, Tree.holds, ltI_t, ltI_f, leI_t, leI_f, all_cons, all_nil, and_true, true_and, forall_eq, decide_eq_true_eq, decide_eq_false_iff_not, beq_iff_eq, beq_eq_false_iff_ne, bne_iff_ne, bne_eq_false_iff_eq, ne_eq, Decidable.not_not, selI_z, selB_z, selS_z, selN_z, selL_z, selI_s, selB_s, selS_s, selN_s, selL_s, Int.toNat_natCast, Nat.mul_one, Nat.zero_add, Nat.div_one, List.drop_zero, Nat.zero_mul, Nat.le_refl, Bool.not_eq_true', Bool.not_eq_false', Bool.false_eq_true, Bool.true_eq_false, not_true_eq_false, not_false_eq_true, false_imp_iff, true_imp_iff, if_true, if_false, sig, sigF, sigW, sigR, sigO, rdB_z]
  match ls, l1, l2, l3 with
  | f :: t, l1, l2, l3 =>
  have f1 : f.size ≤ 100 := l3 f (by simp)
  have t1 : ∀ s ∈ t, s.size ≤ 100 := fun s hs => l3 s (by simp [hs])
  have t2 : t.length + 1 ≤ 20 := by simpa using l2
  refine ⟨fun _ => ⟨⟨rd_in hL (by omega) (by omega), by omega, by omega⟩, ?_⟩, fun _ => drm_end (f :: t) rfl rfl (by simp; omega) l3⟩
  rintro ys ⟨p3, rs, rfl, q5, q6, x, rfl, x0, x1⟩
  rw [rdN_z] at q5 q6
  simp only [F_drm_dopen, F_drm_dmsg, F_drm_sml, F_drm_dodd, F_drm_dpick, s_dopen, s_dmsg, s_sml, s_dodd, s_dpick, Tree.holds, ltI_t, ltI_f, leI_t, leI_f, all_cons, all_nil, and_true, true_and, forall_eq, decide_eq_true_eq, decide_eq_false_iff_not, beq_iff_eq, beq_eq_false_iff_ne, bne_iff_ne, bne_eq_false_iff_eq, ne_eq, Decidable.not_not, selI_z, selB_z, selS_z, selN_z, selL_z, selI_s, selB_s, selS_s, selN_s, selL_s, Int.toNat_natCast, Nat.mul_one, Nat.zero_add, Nat.div_one, List.drop_zero, Nat.zero_mul, Nat.le_refl, Bool.not_eq_true', Bool.not_eq_false', Bool.false_eq_true, Bool.true_eq_false, not_true_eq_false, not_false_eq_true, false_imp_iff, true_imp_iff, if_true, if_false, sig, sigF, sigW, sigR, sigO, rdB_z, textsD_cons, Option.getD_some, Option.getD_none]
  refine ⟨fun _ => ⟨⟨rd_in hL (by omega) (by omega), by omega, by omega⟩, ?_⟩, fun _ => ⟨fun _ => ?_, fun _ => ⟨fun _ => ?_, fun _ => ?_⟩⟩⟩
  · rintro ys ⟨p4, rs, rfl, q7, q8, y, rfl, y0, y1⟩
    simp only [F_drm_dopen, F_drm_dmsg, F_drm_sml, F_drm_dodd, F_drm_dpick, s_dopen, s_dmsg, s_sml, s_dodd, s_dpick, Tree.holds, ltI_t, ltI_f, leI_t, leI_f, all_cons, all_nil, and_true, true_and, forall_eq, decide_eq_true_eq, decide_eq_false_iff_not, beq_iff_eq, beq_eq_false_iff_ne, bne_iff_ne, bne_eq_false_iff_eq, ne_eq, Decidable.not_not, selI_z, selB_z, selS_z, selN_z, selL_z, selI_s, selB_s, selS_s, selN_s, selL_s, Int.toNat_natCast, Nat.mul_one, Nat.zero_add, Nat.div_one, List.drop_zero, Nat.zero_mul, Nat.le_refl, Bool.not_eq_true', Bool.not_eq_false', Bool.false_eq_true, Bool.true_eq_false, not_true_eq_false, not_false_eq_true, false_imp_iff, true_imp_iff, if_true, if_false, sig, sigF, sigW, sigR, sigO, rdB_z, textsD_cons]
    generalize hls : (D.str ⟨#[]⟩ :: D.str ⟨#[97, 110, 115, 119, 101, 114, 32, 57, 57]⟩ :: _ : List D) = ls
    obtain ⟨s, g1, g2⟩ := pick_str (ls := ls) (n := 8) (fun s => decide (s.size ≤ 100)) y0 y1 (by rw [← hls]; rfl) (by rw [← hls]; kernel_rfl)
    rw [g1, sel_str g1]
    refine ⟨⟨y0, y1⟩, rfl, (by simp), (by simp), drm_end (s :: t) (by simp [setL, textsD_cons]) (by simp) (by simp; omega) (fun z hz => ?_)⟩
    rcases List.mem_cons.mp hz with rfl | hz
    · exact of_decide_eq_true g2
    · exact t1 z hz
  · have e1 : List.take (f :: t).length (D.str f :: textsD t) = textsD (f :: t) := textsD_take (f :: t)
    rw [e1]
    refine ⟨⟨(by simp [textsD_len]), (by simp; omega)⟩, drm_end (f :: t ++ [⟨#[]⟩]) (by simp [textsD]) (by simp) (by simp; omega) (fun z hz => ?_)⟩
    rcases List.mem_append.mp hz with hz | hz
    · exact l3 z hz
    · obtain rfl : z = _ := by simpa using hz
      show 0 ≤ 100; omega
  · have e1 : (((f :: t).length : Int) - 1).toNat = t.length := by simp
    have e2 : List.drop (Int.toNat 1) (D.str f :: textsD t) = textsD t := rfl
    rw [e1, e2, textsD_take]
    have e3 := drm_end (n := t.length) t rfl rfl (by omega) t1
    rw [textsD_take] at e3
    exact ⟨⟨by omega, by simp; omega, by omega⟩, ⟨(by show 1 + t.length ≤ (D.str f :: textsD t).length; simp [textsD_len]; omega), e3.1.2⟩, e3.2⟩
  · have e1 : (((f :: t).length : Int) - 1).toNat = t.length := by simp
    have e2 : List.drop (Int.toNat 1) (D.str f :: textsD t) = textsD t := rfl
    have e0 : sel (D.str f :: textsD t) 0 Kd.str = D.str f := sel_str rfl
    rw [e1, e2, textsD_take, e0]
    have e4 : List.take 2 [D.str f, D.str ⟨#[98, 97, 100]⟩] ++ textsD t = textsD (f :: ⟨#[98, 97, 100]⟩ :: t) := rfl
    rw [e4]
    refine ⟨⟨by omega, by simp only [List.length_cons]; omega⟩, rfl, ⟨by omega, by simp only [List.length_cons]; omega, by omega⟩, ⟨(by show 1 + t.length ≤ (D.str f :: textsD t).length; simp [textsD_len]; omega), by omega⟩, drm_end (f :: ⟨#[98, 97, 100]⟩ :: t) rfl (by simp; omega) (by simp; omega) (fun z hz => ?_)⟩
    rcases List.mem_cons.mp hz with rfl | hz
    · exact f1
    · rcases List.mem_cons.mp hz with rfl | hz
      · show 3 ≤ 100; omega
      · exact t1 z hz
end Go.Proofs.Ytplcdadedpbkpaa.Mini
