/- Parts of the proof: ActDP. -/
import Derived.Test.YtdhjfbnlkecggaaGdActD
section
namespace Go.Proofs.Ytdhjfbnlkecggaa.Mini
open Go Go.RowKit
set_option linter.unusedVariables false
set_option linter.unusedSimpArgs false
set_option maxRecDepth 20000
theorem ok_dma : FnOk Try.prog 9 s_dma := by
  refine fnOk (fn := Try.f9) (F := F_dma) (hs := hs_dma) (tab_cons ok_dopen (tab_cons ok_droster (tab_cons ok_dwordn (tab_cons ok_dpick tab_nil)))) mixed rfl rfl rfl [.list 5] (by kernel_rfl) (by simp) ?_
  intro m bl hb
  refine ⟨fun h ys => False, fun h ys => 0, ?_, fun _ _ h => h.elim⟩
  rw [t_dma]
  simp only [F_dma_dopen, F_dma_droster, F_dma_dwordn, F_dma_dpick, s_dopen, s_droster, s_dwordn, s_dpick, Tree.holds, ltI_t, ltI_f, leI_t, leI_f, all_cons, all_nil, and_true, true_and, forall_eq, decide_eq_true_eq, decide_eq_false_iff_not, beq_iff_eq, beq_eq_false_iff_ne, bne_iff_ne, bne_eq_false_iff_eq, ne_eq, Decidable.not_not, selI_z, selB_z, selS_z, selN_z, selL_z, selI_s, selB_s, selS_s, selN_s, selL_s, Int.toNat_natCast, Nat.mul_one, Nat.zero_add, Nat.div_one, List.drop_zero, Nat.zero_mul, Nat.le_refl, Bool.not_eq_true', Bool.not_eq_false', Bool.false_eq_true, Bool.true_eq_false, not_true_eq_false, not_false_eq_true, false_imp_iff, true_imp_iff, if_true, if_false, sig, sigF, sigW, sigR, sigO, sigD, sigWD, List.map_cons, List.map_nil]
  refine ⟨hb, ?_⟩
  rintro ys ⟨L, hL, rfl⟩
  simp only [F_dma_dopen, F_dma_droster, F_dma_dwordn, F_dma_dpick, s_dopen, s_droster, s_dwordn, s_dpick, Tree.holds, ltI_t, ltI_f, leI_t, leI_f, all_cons, all_nil, and_true, true_and, forall_eq, decide_eq_true_eq, decide_eq_false_iff_not, beq_iff_eq, beq_eq_false_iff_ne, bne_iff_ne, bne_eq_false_iff_eq, ne_eq, Decidable.not_not, selI_z, selB_z, selS_z, selN_z, selL_z, selI_s, selB_s, selS_s, selN_s, selL_s, Int.toNat_natCast, Nat.mul_one, Nat.zero_add, Nat.div_one, List.drop_zero, Nat.zero_mul, Nat.le_refl, Bool.not_eq_true', Bool.not_eq_false', Bool.false_eq_true, Bool.true_eq_false, not_true_eq_false, not_false_eq_true, false_imp_iff, true_imp_iff, if_true, if_false, sig, sigF, sigW, sigR, sigO, sigD, sigWD, List.map_cons, List.map_nil]
  refine ⟨⟨rd_in hL (by omega) (by omega), by omega, by omega⟩, ?_⟩
  rintro ys ⟨p1, rs, rfl, q1, q2, l, rfl, hl⟩
  rw [rdN_z] at q1 q2
  simp only [F_dma_dopen, F_dma_droster, F_dma_dwordn, F_dma_dpick, s_dopen, s_droster, s_dwordn, s_dpick, Tree.holds, ltI_t, ltI_f, leI_t, leI_f, all_cons, all_nil, and_true, true_and, forall_eq, decide_eq_true_eq, decide_eq_false_iff_not, beq_iff_eq, beq_eq_false_iff_ne, bne_iff_ne, bne_eq_false_iff_eq, ne_eq, Decidable.not_not, selI_z, selB_z, selS_z, selN_z, selL_z, selI_s, selB_s, selS_s, selN_s, selL_s, Int.toNat_natCast, Nat.mul_one, Nat.zero_add, Nat.div_one, List.drop_zero, Nat.zero_mul, Nat.le_refl, Bool.not_eq_true', Bool.not_eq_false', Bool.false_eq_true, Bool.true_eq_false, not_true_eq_false, not_false_eq_true, false_imp_iff, true_imp_iff, if_true, if_false, sig, sigF, sigW, sigR, sigO, sigD, sigWD, List.map_cons, List.map_nil, rdB_z, rosD_take, rosD_len]
  have fin : ∀ (a b : ByteArray) (x y : Int), a.size ≤ 20 → b.size ≤ 20 → 0 ≤ x → x < 5 → 0 ≤ y → y < 14 → (¬(13 : Int) = 0 ∧ inK .i64 (y.tdiv 13)) ∧ inK .i64 (x - y.tdiv 13) ∧ ∃ (l_1 : List Per) (a_1 : ByteArray) (d : Int) (b_1 : ByteArray), [D.list 30 l.length (rosD l), .str a, .int .i64 (x - y.tdiv 13), .str b] = [.list 30 l_1.length (rosD l_1), .str a_1, .int .i64 d, .str b_1] ∧ drR l_1 ∧ a_1.size ≤ 20 ∧ b_1.size ≤ 20 ∧ -1 ≤ d ∧ d ≤ 4 := fun a b x y ha hb x0 x1 y0 y1 => by
    have e : y.tdiv 13 = y / 13 := Int.tdiv_eq_ediv_of_nonneg y0
    rw [e]
    exact ⟨⟨by omega, by unfold inK; omega⟩, by unfold inK; omega, l, a, _, b, rfl, hl, ha, hb, by omega, by omega⟩
  have h10 := hl.1
  refine ⟨⟨rd_in hL (by omega) (by omega), by omega, by omega⟩, ?_⟩
  rintro ys ⟨p2, rs, rfl, q3, q4, a, rfl, ha⟩
  rw [rdN_z] at q3 q4
  simp only [F_dma_dopen, F_dma_droster, F_dma_dwordn, F_dma_dpick, s_dopen, s_droster, s_dwordn, s_dpick, Tree.holds, ltI_t, ltI_f, leI_t, leI_f, all_cons, all_nil, and_true, true_and, forall_eq, decide_eq_true_eq, decide_eq_false_iff_not, beq_iff_eq, beq_eq_false_iff_ne, bne_iff_ne, bne_eq_false_iff_eq, ne_eq, Decidable.not_not, selI_z, selB_z, selS_z, selN_z, selL_z, selI_s, selB_s, selS_s, selN_s, selL_s, Int.toNat_natCast, Nat.mul_one, Nat.zero_add, Nat.div_one, List.drop_zero, Nat.zero_mul, Nat.le_refl, Bool.not_eq_true', Bool.not_eq_false', Bool.false_eq_true, Bool.true_eq_false, not_true_eq_false, not_false_eq_true, false_imp_iff, true_imp_iff, if_true, if_false, sig, sigF, sigW, sigR, sigO, sigD, sigWD, List.map_cons, List.map_nil, rdB_z]
  refine ⟨⟨rd_in hL (by omega) (by omega), by omega, by omega⟩, ?_⟩
  rintro ys ⟨p3, rs, rfl, q5, q6, b, rfl, hb'⟩
  rw [rdN_z] at q5 q6
  simp only [F_dma_dopen, F_dma_droster, F_dma_dwordn, F_dma_dpick, s_dopen, s_droster, s_dwordn, s_dpick, Tree.holds, ltI_t, ltI_f, leI_t, leI_f, all_cons, all_nil, and_true, true_and, forall_eq, decide_eq_true_eq, decide_eq_false_iff_not, beq_iff_eq, beq_eq_false_iff_ne, bne_iff_ne, bne_eq_false_iff_eq, ne_eq, Decidable.not_not, selI_z, selB_z, selS_z, selN_z, selL_z, selI_s, selB_s, selS_s, selN_s, selL_s, Int.toNat_natCast, Nat.mul_one, Nat.zero_add, Nat.div_one, List.drop_zero, Nat.zero_mul, Nat.le_refl, Bool.not_eq_true', Bool.not_eq_false', Bool.false_eq_true, Bool.true_eq_false, not_true_eq_false, not_false_eq_true, false_imp_iff, true_imp_iff, if_true, if_false, sig, sigF, sigW, sigR, sigO, sigD, sigWD, List.map_cons, List.map_nil, rdB_z]
  refine ⟨fun hz => ?_, fun _ => ?_⟩
  · refine ⟨⟨rd_in hL (by omega) (by omega), by omega, by omega⟩, ?_⟩
    rintro ys ⟨p4, rs, rfl, p4a, p4b, z, rfl, z0, z1⟩
    rw [rdN_z] at p4a p4b
    have z1 : z < 4 := z1
    try simp only [F_dma_dopen, F_dma_droster, F_dma_dwordn, F_dma_dpick, s_dopen, s_droster, s_dwordn, s_dpick, Tree.holds, ltI_t, ltI_f, leI_t, leI_f, all_cons, all_nil, and_true, true_and, forall_eq, decide_eq_true_eq, decide_eq_false_iff_not, beq_iff_eq, beq_eq_false_iff_ne, bne_iff_ne, bne_eq_false_iff_eq, ne_eq, Decidable.not_not, selI_z, selB_z, selS_z, selN_z, selL_z, selI_s, selB_s, selS_s, selN_s, selL_s, Int.toNat_natCast, Nat.mul_one, Nat.zero_add, Nat.div_one, List.drop_zero, Nat.zero_mul, Nat.le_refl, Bool.not_eq_true', Bool.not_eq_false', Bool.false_eq_true, Bool.true_eq_false, not_true_eq_false, not_false_eq_true, false_imp_iff, true_imp_iff, if_true, if_false, sig, sigF, sigW, sigR, sigO, sigD, sigWD, List.map_cons, List.map_nil, rdB_z]
    refine ⟨fun _ => ?_, fun _ => ?_⟩
    · refine ⟨⟨rd_in hL (by omega) (by omega), by omega, by omega⟩, ?_⟩
      rintro ys ⟨p5, rs, rfl, p5a, p5b, i, rfl, i0, i1⟩
      rw [rdN_z] at p5a p5b
      have i1 : i < l.length := i1
      try simp only [F_dma_dopen, F_dma_droster, F_dma_dwordn, F_dma_dpick, s_dopen, s_droster, s_dwordn, s_dpick, Tree.holds, ltI_t, ltI_f, leI_t, leI_f, all_cons, all_nil, and_true, true_and, forall_eq, decide_eq_true_eq, decide_eq_false_iff_not, beq_iff_eq, beq_eq_false_iff_ne, bne_iff_ne, bne_eq_false_iff_eq, ne_eq, Decidable.not_not, selI_z, selB_z, selS_z, selN_z, selL_z, selI_s, selB_s, selS_s, selN_s, selL_s, Int.toNat_natCast, Nat.mul_one, Nat.zero_add, Nat.div_one, List.drop_zero, Nat.zero_mul, Nat.le_refl, Bool.not_eq_true', Bool.not_eq_false', Bool.false_eq_true, Bool.true_eq_false, not_true_eq_false, not_false_eq_true, false_imp_iff, true_imp_iff, if_true, if_false, sig, sigF, sigW, sigR, sigO, sigD, sigWD, List.map_cons, List.map_nil, rdB_z]
      obtain ⟨p, g1, g2⟩ := ros_get (l := l) (i := i.toNat) (by omega)
      obtain ⟨c0, -⟩ := ros_cell g1
      simp only [sel_kstr]
      rw [selS_of c0]
      refine ⟨⟨by omega, by omega⟩, c0, ?_⟩
      refine ⟨⟨rd_in hL (by omega) (by omega), by omega, by omega⟩, ?_⟩
      rintro ys ⟨p6, rs, rfl, p6a, p6b, j, rfl, j0, j1⟩
      rw [rdN_z] at p6a p6b
      have j1 : j < l.length := j1
      try simp only [F_dma_dopen, F_dma_droster, F_dma_dwordn, F_dma_dpick, s_dopen, s_droster, s_dwordn, s_dpick, Tree.holds, ltI_t, ltI_f, leI_t, leI_f, all_cons, all_nil, and_true, true_and, forall_eq, decide_eq_true_eq, decide_eq_false_iff_not, beq_iff_eq, beq_eq_false_iff_ne, bne_iff_ne, bne_eq_false_iff_eq, ne_eq, Decidable.not_not, selI_z, selB_z, selS_z, selN_z, selL_z, selI_s, selB_s, selS_s, selN_s, selL_s, Int.toNat_natCast, Nat.mul_one, Nat.zero_add, Nat.div_one, List.drop_zero, Nat.zero_mul, Nat.le_refl, Bool.not_eq_true', Bool.not_eq_false', Bool.false_eq_true, Bool.true_eq_false, not_true_eq_false, not_false_eq_true, false_imp_iff, true_imp_iff, if_true, if_false, sig, sigF, sigW, sigR, sigO, sigD, sigWD, List.map_cons, List.map_nil, rdB_z]
      obtain ⟨q, k1, k2⟩ := ros_get (l := l) (i := j.toNat) (by omega)
      obtain ⟨d0, -⟩ := ros_cell k1
      rw [selS_of d0]
      refine ⟨⟨by omega, by omega⟩, d0, ?_⟩
      refine ⟨⟨rd_in hL (by omega) (by omega), by omega, by omega⟩, ?_⟩
      rintro ys ⟨p7, rs, rfl, p7a, p7b, x, rfl, x0, x1⟩
      rw [rdN_z] at p7a p7b
      have x1 : x < 5 := x1
      try simp only [F_dma_dopen, F_dma_droster, F_dma_dwordn, F_dma_dpick, s_dopen, s_droster, s_dwordn, s_dpick, Tree.holds, ltI_t, ltI_f, leI_t, leI_f, all_cons, all_nil, and_true, true_and, forall_eq, decide_eq_true_eq, decide_eq_false_iff_not, beq_iff_eq, beq_eq_false_iff_ne, bne_iff_ne, bne_eq_false_iff_eq, ne_eq, Decidable.not_not, selI_z, selB_z, selS_z, selN_z, selL_z, selI_s, selB_s, selS_s, selN_s, selL_s, Int.toNat_natCast, Nat.mul_one, Nat.zero_add, Nat.div_one, List.drop_zero, Nat.zero_mul, Nat.le_refl, Bool.not_eq_true', Bool.not_eq_false', Bool.false_eq_true, Bool.true_eq_false, not_true_eq_false, not_false_eq_true, false_imp_iff, true_imp_iff, if_true, if_false, sig, sigF, sigW, sigR, sigO, sigD, sigWD, List.map_cons, List.map_nil, rdB_z]
      refine ⟨⟨rd_in hL (by omega) (by omega), by omega, by omega⟩, ?_⟩
      rintro ys ⟨p8, rs, rfl, p8a, p8b, y, rfl, y0, y1⟩
      rw [rdN_z] at p8a p8b
      have y1 : y < 14 := y1
      try simp only [F_dma_dopen, F_dma_droster, F_dma_dwordn, F_dma_dpick, s_dopen, s_droster, s_dwordn, s_dpick, Tree.holds, ltI_t, ltI_f, leI_t, leI_f, all_cons, all_nil, and_true, true_and, forall_eq, decide_eq_true_eq, decide_eq_false_iff_not, beq_iff_eq, beq_eq_false_iff_ne, bne_iff_ne, bne_eq_false_iff_eq, ne_eq, Decidable.not_not, selI_z, selB_z, selS_z, selN_z, selL_z, selI_s, selB_s, selS_s, selN_s, selL_s, Int.toNat_natCast, Nat.mul_one, Nat.zero_add, Nat.div_one, List.drop_zero, Nat.zero_mul, Nat.le_refl, Bool.not_eq_true', Bool.not_eq_false', Bool.false_eq_true, Bool.true_eq_false, not_true_eq_false, not_false_eq_true, false_imp_iff, true_imp_iff, if_true, if_false, sig, sigF, sigW, sigR, sigO, sigD, sigWD, List.map_cons, List.map_nil, rdB_z]
      exact fin p.w q.w x y (hl.2 p g2) (hl.2 q k2) (by omega) (by omega) (by omega) (by omega)
    · refine ⟨⟨rd_in hL (by omega) (by omega), by omega, by omega⟩, ?_⟩
      rintro ys ⟨p7, rs, rfl, p7a, p7b, x, rfl, x0, x1⟩
      rw [rdN_z] at p7a p7b
      have x1 : x < 5 := x1
      try simp only [F_dma_dopen, F_dma_droster, F_dma_dwordn, F_dma_dpick, s_dopen, s_droster, s_dwordn, s_dpick, Tree.holds, ltI_t, ltI_f, leI_t, leI_f, all_cons, all_nil, and_true, true_and, forall_eq, decide_eq_true_eq, decide_eq_false_iff_not, beq_iff_eq, beq_eq_false_iff_ne, bne_iff_ne, bne_eq_false_iff_eq, ne_eq, Decidable.not_not, selI_z, selB_z, selS_z, selN_z, selL_z, selI_s, selB_s, selS_s, selN_s, selL_s, Int.toNat_natCast, Nat.mul_one, Nat.zero_add, Nat.div_one, List.drop_zero, Nat.zero_mul, Nat.le_refl, Bool.not_eq_true', Bool.not_eq_false', Bool.false_eq_true, Bool.true_eq_false, not_true_eq_false, not_false_eq_true, false_imp_iff, true_imp_iff, if_true, if_false, sig, sigF, sigW, sigR, sigO, sigD, sigWD, List.map_cons, List.map_nil, rdB_z]
      refine ⟨⟨rd_in hL (by omega) (by omega), by omega, by omega⟩, ?_⟩
      rintro ys ⟨p8, rs, rfl, p8a, p8b, y, rfl, y0, y1⟩
      rw [rdN_z] at p8a p8b
      have y1 : y < 14 := y1
      try simp only [F_dma_dopen, F_dma_droster, F_dma_dwordn, F_dma_dpick, s_dopen, s_droster, s_dwordn, s_dpick, Tree.holds, ltI_t, ltI_f, leI_t, leI_f, all_cons, all_nil, and_true, true_and, forall_eq, decide_eq_true_eq, decide_eq_false_iff_not, beq_iff_eq, beq_eq_false_iff_ne, bne_iff_ne, bne_eq_false_iff_eq, ne_eq, Decidable.not_not, selI_z, selB_z, selS_z, selN_z, selL_z, selI_s, selB_s, selS_s, selN_s, selL_s, Int.toNat_natCast, Nat.mul_one, Nat.zero_add, Nat.div_one, List.drop_zero, Nat.zero_mul, Nat.le_refl, Bool.not_eq_true', Bool.not_eq_false', Bool.false_eq_true, Bool.true_eq_false, not_true_eq_false, not_false_eq_true, false_imp_iff, true_imp_iff, if_true, if_false, sig, sigF, sigW, sigR, sigO, sigD, sigWD, List.map_cons, List.map_nil, rdB_z]
      exact fin a b x y ha hb' (by omega) (by omega) (by omega) (by omega)
  · refine ⟨⟨rd_in hL (by omega) (by omega), by omega, by omega⟩, ?_⟩
    rintro ys ⟨p7, rs, rfl, p7a, p7b, x, rfl, x0, x1⟩
    rw [rdN_z] at p7a p7b
    have x1 : x < 5 := x1
    try simp only [F_dma_dopen, F_dma_droster, F_dma_dwordn, F_dma_dpick, s_dopen, s_droster, s_dwordn, s_dpick, Tree.holds, ltI_t, ltI_f, leI_t, leI_f, all_cons, all_nil, and_true, true_and, forall_eq, decide_eq_true_eq, decide_eq_false_iff_not, beq_iff_eq, beq_eq_false_iff_ne, bne_iff_ne, bne_eq_false_iff_eq, ne_eq, Decidable.not_not, selI_z, selB_z, selS_z, selN_z, selL_z, selI_s, selB_s, selS_s, selN_s, selL_s, Int.toNat_natCast, Nat.mul_one, Nat.zero_add, Nat.div_one, List.drop_zero, Nat.zero_mul, Nat.le_refl, Bool.not_eq_true', Bool.not_eq_false', Bool.false_eq_true, Bool.true_eq_false, not_true_eq_false, not_false_eq_true, false_imp_iff, true_imp_iff, if_true, if_false, sig, sigF, sigW, sigR, sigO, sigD, sigWD, List.map_cons, List.map_nil, rdB_z]
    refine ⟨⟨rd_in hL (by omega) (by omega), by omega, by omega⟩, ?_⟩
    rintro ys ⟨p8, rs, rfl, p8a, p8b, y, rfl, y0, y1⟩
    rw [rdN_z] at p8a p8b
    have y1 : y < 14 := y1
    try simp only [F_dma_dopen, F_dma_droster, F_dma_dwordn, F_dma_dpick, s_dopen, s_droster, s_dwordn, s_dpick, Tree.holds, ltI_t, ltI_f, leI_t, leI_f, all_cons, all_nil, and_true, true_and, forall_eq, decide_eq_true_eq, decide_eq_false_iff_not, beq_iff_eq, beq_eq_false_iff_ne, bne_iff_ne, bne_eq_false_iff_eq, ne_eq, Decidable.not_not, selI_z, selB_z, selS_z, selN_z, selL_z, selI_s, selB_s, selS_s, selN_s, selL_s, Int.toNat_natCast, Nat.mul_one, Nat.zero_add, Nat.div_one, List.drop_zero, Nat.zero_mul, Nat.le_refl, Bool.not_eq_true', Bool.not_eq_false', Bool.false_eq_true, Bool.true_eq_false, not_true_eq_false, not_false_eq_true, false_imp_iff, true_imp_iff, if_true, if_false, sig, sigF, sigW, sigR, sigO, sigD, sigWD, List.map_cons, List.map_nil, rdB_z]
    exact fin a b x y ha hb' (by omega) (by omega) (by omega) (by omega)
theorem ok_dmp : FnOk Try.prog 17 s_dmp := by
  refine fnOk (fn := Try.f17) (F := F_dmp) (hs := hs_dmp) (tab_cons ok_dma tab_nil) mixed rfl rfl rfl [.list 5] (by kernel_rfl) (by simp) ?_
  intro m bl hb
  refine ⟨fun h ys => False, fun h ys => 0, ?_, fun _ _ h => h.elim⟩
  rw [t_dmp]
  simp only [F_dmp_dma, s_dma, Tree.holds, ltI_t, ltI_f, leI_t, leI_f, all_cons, all_nil, and_true, true_and, forall_eq, decide_eq_true_eq, decide_eq_false_iff_not, beq_iff_eq, beq_eq_false_iff_ne, bne_iff_ne, bne_eq_false_iff_eq, ne_eq, Decidable.not_not, selI_z, selB_z, selS_z, selN_z, selL_z, selI_s, selB_s, selS_s, selN_s, selL_s, Int.toNat_natCast, Nat.mul_one, Nat.zero_add, Nat.div_one, List.drop_zero, Nat.zero_mul, Nat.le_refl, Bool.not_eq_true', Bool.not_eq_false', Bool.false_eq_true, Bool.true_eq_false, not_true_eq_false, not_false_eq_true, false_imp_iff, true_imp_iff, if_true, if_false, sig, sigF, sigW, sigR, sigO, sigD, sigWD, List.map_cons, List.map_nil]
  refine ⟨hb, ?_⟩
  rintro ys ⟨l, a, d, b, rfl, hl, ha, hb, d0, d1⟩
  simp only [F_dmp_dma, s_dma, Tree.holds, ltI_t, ltI_f, leI_t, leI_f, all_cons, all_nil, and_true, true_and, forall_eq, decide_eq_true_eq, decide_eq_false_iff_not, beq_iff_eq, beq_eq_false_iff_ne, bne_iff_ne, bne_eq_false_iff_eq, ne_eq, Decidable.not_not, selI_z, selB_z, selS_z, selN_z, selL_z, selI_s, selB_s, selS_s, selN_s, selL_s, Int.toNat_natCast, Nat.mul_one, Nat.zero_add, Nat.div_one, List.drop_zero, Nat.zero_mul, Nat.le_refl, Bool.not_eq_true', Bool.not_eq_false', Bool.false_eq_true, Bool.true_eq_false, not_true_eq_false, not_false_eq_true, false_imp_iff, true_imp_iff, if_true, if_false, sig, sigF, sigW, sigR, sigO, sigD, sigWD, List.map_cons, List.map_nil, rosD_take, rosD_len]
  exact ⟨by omega, l, a, b, _, rfl, hl, ha, hb⟩
theorem ok_drp : FnOk Try.prog 24 s_drp := by
  refine fnOk (fn := Try.f24) (F := F_drp) (hs := hs_drp) (tab_cons ok_dma tab_nil) mixed rfl rfl rfl [.list 5] (by kernel_rfl) (by simp) ?_
  intro m bl hb
  refine ⟨fun h ys => False, fun h ys => 0, ?_, fun _ _ h => h.elim⟩
  rw [t_drp]
  simp only [F_drp_dma, s_dma, Tree.holds, ltI_t, ltI_f, leI_t, leI_f, all_cons, all_nil, and_true, true_and, forall_eq, decide_eq_true_eq, decide_eq_false_iff_not, beq_iff_eq, beq_eq_false_iff_ne, bne_iff_ne, bne_eq_false_iff_eq, ne_eq, Decidable.not_not, selI_z, selB_z, selS_z, selN_z, selL_z, selI_s, selB_s, selS_s, selN_s, selL_s, Int.toNat_natCast, Nat.mul_one, Nat.zero_add, Nat.div_one, List.drop_zero, Nat.zero_mul, Nat.le_refl, Bool.not_eq_true', Bool.not_eq_false', Bool.false_eq_true, Bool.true_eq_false, not_true_eq_false, not_false_eq_true, false_imp_iff, true_imp_iff, if_true, if_false, sig, sigF, sigW, sigR, sigO, sigD, sigWD, List.map_cons, List.map_nil]
  refine ⟨hb, ?_⟩
  rintro ys ⟨l, a, d, b, rfl, hl, ha, hb, d0, d1⟩
  simp only [F_drp_dma, s_dma, Tree.holds, ltI_t, ltI_f, leI_t, leI_f, all_cons, all_nil, and_true, true_and, forall_eq, decide_eq_true_eq, decide_eq_false_iff_not, beq_iff_eq, beq_eq_false_iff_ne, bne_iff_ne, bne_eq_false_iff_eq, ne_eq, Decidable.not_not, selI_z, selB_z, selS_z, selN_z, selL_z, selI_s, selB_s, selS_s, selN_s, selL_s, Int.toNat_natCast, Nat.mul_one, Nat.zero_add, Nat.div_one, List.drop_zero, Nat.zero_mul, Nat.le_refl, Bool.not_eq_true', Bool.not_eq_false', Bool.false_eq_true, Bool.true_eq_false, not_true_eq_false, not_false_eq_true, false_imp_iff, true_imp_iff, if_true, if_false, sig, sigF, sigW, sigR, sigO, sigD, sigWD, List.map_cons, List.map_nil, rosD_take, rosD_len]
  exact ⟨l, a, b, d, rfl, hl, ha, hb, d0, d1⟩
end Go.Proofs.Ytdhjfbnlkecggaa.Mini
end
