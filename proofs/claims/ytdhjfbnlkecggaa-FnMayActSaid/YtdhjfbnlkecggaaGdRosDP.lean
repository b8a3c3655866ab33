/- Parts of the proof: RosDP. -/
import Derived.Test.YtdhjfbnlkecggaaGdRosD
section
namespace Go.Proofs.Ytdhjfbnlkecggaa.Mini
open Go Go.RowKit
set_option linter.unusedVariables false
set_option linter.unusedSimpArgs false
set_option maxRecDepth 20000
theorem drR_sm {l : List Per} (h : drR l) : smR l := ⟨by have := h.1; omega, fun p hp => by have := h.2 p hp; omega⟩
theorem ok_dperson : FnOk Try.prog 46 s_dperson := by
  refine fnOkR (fn := Try.f46) (F := F_dperson) (hs := hs_dperson) (tab_cons ok_dodd (tab_cons ok_dpick (tab_cons ok_dwordn tab_nil))) mixed rfl rfl rfl (by kernel_rfl) [.int .i64] (by kernel_rfl) (by simp [hs_dperson, shapeW]) ?_
  rintro r n ⟨hr, hn0, hn1⟩
  obtain ⟨L, p, rfl, hL, hp0, hp1⟩ := rd_split hr
  have hn0 : 0 ≤ n := hn0
  have hn1 : n ≤ 1000 := hn1
  refine ⟨fun _ _ => False, fun _ _ => 0, ?_, fun _ _ h => h.elim⟩
  rw [t_dperson]
  simp only [F_dperson_dodd, F_dperson_dpick, F_dperson_dwordn, s_dodd, s_dpick, s_dwordn, Tree.holds, ltI_t, ltI_f, leI_t, leI_f, all_cons, all_nil, and_true, true_and, forall_eq, decide_eq_true_eq, decide_eq_false_iff_not, beq_iff_eq, beq_eq_false_iff_ne, bne_iff_ne, bne_eq_false_iff_eq, ne_eq, Decidable.not_not, selI_z, selB_z, selS_z, selN_z, selL_z, selI_s, selB_s, selS_s, selN_s, selL_s, Int.toNat_natCast, Nat.mul_one, Nat.zero_add, Nat.div_one, List.drop_zero, Nat.zero_mul, Nat.le_refl, Bool.not_eq_true', Bool.not_eq_false', Bool.false_eq_true, Bool.true_eq_false, not_true_eq_false, not_false_eq_true, false_imp_iff, true_imp_iff, if_true, if_false, sig, sigF, sigW, sigR, sigO, sigD, sigWD, List.map_cons, List.map_nil]
  refine ⟨⟨rd_in hL (by omega) (by omega), by omega, by omega⟩, ?_⟩
  rintro ys ⟨p1, rs, rfl, p1a, p1b, p1o, rfl, p1z⟩
  rw [rdN_z] at p1a p1b
  try simp only [F_dperson_dodd, F_dperson_dpick, F_dperson_dwordn, s_dodd, s_dpick, s_dwordn, Tree.holds, ltI_t, ltI_f, leI_t, leI_f, all_cons, all_nil, and_true, true_and, forall_eq, decide_eq_true_eq, decide_eq_false_iff_not, beq_iff_eq, beq_eq_false_iff_ne, bne_iff_ne, bne_eq_false_iff_eq, ne_eq, Decidable.not_not, selI_z, selB_z, selS_z, selN_z, selL_z, selI_s, selB_s, selS_s, selN_s, selL_s, Int.toNat_natCast, Nat.mul_one, Nat.zero_add, Nat.div_one, List.drop_zero, Nat.zero_mul, Nat.le_refl, Bool.not_eq_true', Bool.not_eq_false', Bool.false_eq_true, Bool.true_eq_false, not_true_eq_false, not_false_eq_true, false_imp_iff, true_imp_iff, if_true, if_false, sig, sigF, sigW, sigR, sigO, sigD, sigWD, List.map_cons, List.map_nil, rdB_z]
  have out : ∀ (q : Int) (x : Per), p ≤ q → q ≤ p + 8 → x.w.size ≤ 20 → rdOut [D.list 0 0 (rdL L p), D.int .i64 n] [D.list 0 0 (rdL L q), .str x.w, .int .i64 x.r, .bool x.m] 8 (fun rs => ∃ p : Per, rs = perD p ∧ p.w.size ≤ 20) :=
    fun q x a1 a2 a3 => ⟨q, _, rfl, (by rw [rdN_z]; omega), (by rw [rdN_z]; omega), x, rfl, a3⟩
  refine ⟨fun _ => ?_, fun _ => ?_⟩
  · refine ⟨⟨rd_in hL (by omega) (by omega), by omega, by omega⟩, ?_⟩
    rintro ys ⟨p2, rs, rfl, p2a, p2b, x, rfl, x0, x1⟩
    rw [rdN_z] at p2a p2b
    have x1 : x < 4 := x1
    try simp only [F_dperson_dodd, F_dperson_dpick, F_dperson_dwordn, s_dodd, s_dpick, s_dwordn, Tree.holds, ltI_t, ltI_f, leI_t, leI_f, all_cons, all_nil, and_true, true_and, forall_eq, decide_eq_true_eq, decide_eq_false_iff_not, beq_iff_eq, beq_eq_false_iff_ne, bne_iff_ne, bne_eq_false_iff_eq, ne_eq, Decidable.not_not, selI_z, selB_z, selS_z, selN_z, selL_z, selI_s, selB_s, selS_s, selN_s, selL_s, Int.toNat_natCast, Nat.mul_one, Nat.zero_add, Nat.div_one, List.drop_zero, Nat.zero_mul, Nat.le_refl, Bool.not_eq_true', Bool.not_eq_false', Bool.false_eq_true, Bool.true_eq_false, not_true_eq_false, not_false_eq_true, false_imp_iff, true_imp_iff, if_true, if_false, sig, sigF, sigW, sigR, sigO, sigD, sigWD, List.map_cons, List.map_nil, rdB_z]
    have hx : x = 0 ∨ x = 1 ∨ x = 2 ∨ x = 3 := by omega
    refine ⟨⟨x0, x1⟩, ?_⟩
    rcases hx with rfl | rfl | rfl | rfl
    · exact ⟨⟨rfl, rfl, rfl⟩, out p2 ⟨⟨#[]⟩, 0, false⟩ (by omega) (by omega) (by decide)⟩
    · exact ⟨⟨rfl, rfl, rfl⟩, out p2 ⟨⟨#[65]⟩, 0, false⟩ (by omega) (by omega) (by decide)⟩
    · exact ⟨⟨rfl, rfl, rfl⟩, out p2 ⟨⟨#[122, 122]⟩, -1, false⟩ (by omega) (by omega) (by decide)⟩
    · exact ⟨⟨rfl, rfl, rfl⟩, out p2 ⟨⟨#[122, 122]⟩, 3, false⟩ (by omega) (by omega) (by decide)⟩
  · refine ⟨⟨rd_in hL (by omega) (by omega), by omega, by omega⟩, ?_⟩
    rintro ys ⟨p2, rs, rfl, q1, q2, s, rfl, hs⟩
    rw [rdN_z] at q1 q2
    simp only [F_dperson_dodd, F_dperson_dpick, F_dperson_dwordn, s_dodd, s_dpick, s_dwordn, Tree.holds, ltI_t, ltI_f, leI_t, leI_f, all_cons, all_nil, and_true, true_and, forall_eq, decide_eq_true_eq, decide_eq_false_iff_not, beq_iff_eq, beq_eq_false_iff_ne, bne_iff_ne, bne_eq_false_iff_eq, ne_eq, Decidable.not_not, selI_z, selB_z, selS_z, selN_z, selL_z, selI_s, selB_s, selS_s, selN_s, selL_s, Int.toNat_natCast, Nat.mul_one, Nat.zero_add, Nat.div_one, List.drop_zero, Nat.zero_mul, Nat.le_refl, Bool.not_eq_true', Bool.not_eq_false', Bool.false_eq_true, Bool.true_eq_false, not_true_eq_false, not_false_eq_true, false_imp_iff, true_imp_iff, if_true, if_false, sig, sigF, sigW, sigR, sigO, sigD, sigWD, List.map_cons, List.map_nil, rdB_z]
    refine ⟨⟨rd_in hL (by omega) (by omega), by omega, by omega⟩, ?_⟩
    rintro ys ⟨p3, rs, rfl, p3a, p3b, x, rfl, x0, x1⟩
    rw [rdN_z] at p3a p3b
    have x1 : x < 3 := x1
    try simp only [F_dperson_dodd, F_dperson_dpick, F_dperson_dwordn, s_dodd, s_dpick, s_dwordn, Tree.holds, ltI_t, ltI_f, leI_t, leI_f, all_cons, all_nil, and_true, true_and, forall_eq, decide_eq_true_eq, decide_eq_false_iff_not, beq_iff_eq, beq_eq_false_iff_ne, bne_iff_ne, bne_eq_false_iff_eq, ne_eq, Decidable.not_not, selI_z, selB_z, selS_z, selN_z, selL_z, selI_s, selB_s, selS_s, selN_s, selL_s, Int.toNat_natCast, Nat.mul_one, Nat.zero_add, Nat.div_one, List.drop_zero, Nat.zero_mul, Nat.le_refl, Bool.not_eq_true', Bool.not_eq_false', Bool.false_eq_true, Bool.true_eq_false, not_true_eq_false, not_false_eq_true, false_imp_iff, true_imp_iff, if_true, if_false, sig, sigF, sigW, sigR, sigO, sigD, sigWD, List.map_cons, List.map_nil, rdB_z]
    refine ⟨⟨rd_in hL (by omega) (by omega), by omega, by omega⟩, ?_⟩
    rintro ys ⟨p4, rs, rfl, p4a, p4b, y, rfl, y0, y1⟩
    rw [rdN_z] at p4a p4b
    have y1 : y < 3 := y1
    try simp only [F_dperson_dodd, F_dperson_dpick, F_dperson_dwordn, s_dodd, s_dpick, s_dwordn, Tree.holds, ltI_t, ltI_f, leI_t, leI_f, all_cons, all_nil, and_true, true_and, forall_eq, decide_eq_true_eq, decide_eq_false_iff_not, beq_iff_eq, beq_eq_false_iff_ne, bne_iff_ne, bne_eq_false_iff_eq, ne_eq, Decidable.not_not, selI_z, selB_z, selS_z, selN_z, selL_z, selI_s, selB_s, selS_s, selN_s, selL_s, Int.toNat_natCast, Nat.mul_one, Nat.zero_add, Nat.div_one, List.drop_zero, Nat.zero_mul, Nat.le_refl, Bool.not_eq_true', Bool.not_eq_false', Bool.false_eq_true, Bool.true_eq_false, not_true_eq_false, not_false_eq_true, false_imp_iff, true_imp_iff, if_true, if_false, sig, sigF, sigW, sigR, sigO, sigD, sigWD, List.map_cons, List.map_nil, rdB_z]
    exact out p4 ⟨s, x, y == 0⟩ (by omega) (by omega) hs
theorem ok_droster : FnOk Try.prog 28 s_droster := by
  refine fnOkR (fn := Try.f28) (F := F_droster) (hs := hs_droster) (tab_cons ok_dpick (tab_cons ok_dodd (tab_cons ok_dperson (tab_cons ok_sjoin tab_nil)))) mixed rfl rfl rfl (by kernel_rfl) [.int .i64] (by kernel_rfl) (by simp [hs_droster, shapeW]) ?_
  rintro r n ⟨hr, hn0, hn1⟩
  obtain ⟨L, p, rfl, hL, hp0, hp1⟩ := rd_split hr
  have hn0 : 0 ≤ n := hn0
  have hn1 : n ≤ 1000 := hn1
  refine ⟨fun h ys => h = 0 ∧ ∃ (q : Int) (k : Nat) (l : List Per), ys = [.int .i64 n, .int .i64 (0 : Nat), .int .i64 (l.length : Nat), .int .i64 k, .list 64 0 (rdL L q), .list 30 0 (rosD l)] ∧ l.length + k ≤ 6 ∧ p ≤ q ∧ q ≤ p + 1 + 8 * (6 - k : Int) ∧ ∀ p ∈ l, p.w.size ≤ 20, fun h ys => (selI ys 3).toNat, ?_, ?_⟩
  · rw [t_droster]
    simp only [F_droster_dpick, F_droster_dodd, F_droster_dperson, F_droster_sjoin, s_dpick, s_dodd, s_dperson, s_sjoin, Tree.holds, ltI_t, ltI_f, leI_t, leI_f, all_cons, all_nil, and_true, true_and, forall_eq, decide_eq_true_eq, decide_eq_false_iff_not, beq_iff_eq, beq_eq_false_iff_ne, bne_iff_ne, bne_eq_false_iff_eq, ne_eq, Decidable.not_not, selI_z, selB_z, selS_z, selN_z, selL_z, selI_s, selB_s, selS_s, selN_s, selL_s, Int.toNat_natCast, Nat.mul_one, Nat.zero_add, Nat.div_one, List.drop_zero, Nat.zero_mul, Nat.le_refl, Bool.not_eq_true', Bool.not_eq_false', Bool.false_eq_true, Bool.true_eq_false, not_true_eq_false, not_false_eq_true, false_imp_iff, true_imp_iff, if_true, if_false, sig, sigF, sigW, sigR, sigO, sigD, sigWD, List.map_cons, List.map_nil]
    refine ⟨⟨rd_in hL (by omega) (by omega), by omega, by omega⟩, ?_⟩
    rintro ys ⟨p1, rs, rfl, p1a, p1b, x, rfl, x0, x1⟩
    rw [rdN_z] at p1a p1b
    have x1 : x < 7 := x1
    try simp only [F_droster_dpick, F_droster_dodd, F_droster_dperson, F_droster_sjoin, s_dpick, s_dodd, s_dperson, s_sjoin, Tree.holds, ltI_t, ltI_f, leI_t, leI_f, all_cons, all_nil, and_true, true_and, forall_eq, decide_eq_true_eq, decide_eq_false_iff_not, beq_iff_eq, beq_eq_false_iff_ne, bne_iff_ne, bne_eq_false_iff_eq, ne_eq, Decidable.not_not, selI_z, selB_z, selS_z, selN_z, selL_z, selI_s, selB_s, selS_s, selN_s, selL_s, Int.toNat_natCast, Nat.mul_one, Nat.zero_add, Nat.div_one, List.drop_zero, Nat.zero_mul, Nat.le_refl, Bool.not_eq_true', Bool.not_eq_false', Bool.false_eq_true, Bool.true_eq_false, not_true_eq_false, not_false_eq_true, false_imp_iff, true_imp_iff, if_true, if_false, sig, sigF, sigW, sigR, sigO, sigD, sigWD, List.map_cons, List.map_nil, rdB_z]
    exact ⟨p1, x.toNat, [], by rw [Int.toNat_of_nonneg x0]; rfl, by simp; omega, by omega, by omega, by simp⟩
  · rintro h' ys ⟨rfl, q, k, l, rfl, k6, q1, q2, hl⟩
    have out : ∀ (q' : Int) (l : List Per), p ≤ q' → q' ≤ p + 80 → l.length ≤ 10 → (∀ p ∈ l, p.w.size ≤ 20) →
        rdOut [D.list 0 0 (rdL L p), D.int .i64 n] [D.list 0 0 (rdL L q'), .list 30 l.length (rosD l)] 80 (fun rs => ∃ l : List Per, rs = [.list 30 l.length (rosD l)] ∧ drR l) :=
      fun q' l a1 a2 a3 a4 => ⟨q', _, rfl, (by rw [rdN_z]; omega), (by rw [rdN_z]; omega), l, rfl, a3, a4⟩
    have hll := rosD_len l
    rw [t_droster0]
    simp only [F_droster_dpick, F_droster_dodd, F_droster_dperson, F_droster_sjoin, s_dpick, s_dodd, s_dperson, s_sjoin, Tree.holds, ltI_t, ltI_f, leI_t, leI_f, all_cons, all_nil, and_true, true_and, forall_eq, decide_eq_true_eq, decide_eq_false_iff_not, beq_iff_eq, beq_eq_false_iff_ne, bne_iff_ne, bne_eq_false_iff_eq, ne_eq, Decidable.not_not, selI_z, selB_z, selS_z, selN_z, selL_z, selI_s, selB_s, selS_s, selN_s, selL_s, Int.toNat_natCast, Nat.mul_one, Nat.zero_add, Nat.div_one, List.drop_zero, Nat.zero_mul, Nat.le_refl, Bool.not_eq_true', Bool.not_eq_false', Bool.false_eq_true, Bool.true_eq_false, not_true_eq_false, not_false_eq_true, false_imp_iff, true_imp_iff, if_true, if_false, sig, sigF, sigW, sigR, sigO, sigD, sigWD, List.map_cons, List.map_nil, rosD_take]
    refine ⟨fun hk => ⟨⟨rd_in hL (by omega) (by omega), by omega, by omega⟩, ?_⟩, fun hk => ?_⟩
    · rintro ys ⟨p1, rs, rfl, a1, a2, x, rfl, hx⟩
      rw [rdN_z] at a1 a2
      have hu : unP (List.drop 1 (.list 30 l.length (rosD l) :: perD x)) = x := rfl
      have hu' : unP (List.drop 1 [.list 30 l.length (rosD l), .str x.w, .int .i64 x.r, .bool x.m]) = x := rfl
      have j1 := @join_len l x
      simp only [F_droster_dpick, F_droster_dodd, F_droster_dperson, F_droster_sjoin, s_dpick, s_dodd, s_dperson, s_sjoin, Tree.holds, ltI_t, ltI_f, leI_t, leI_f, all_cons, all_nil, and_true, true_and, forall_eq, decide_eq_true_eq, decide_eq_false_iff_not, beq_iff_eq, beq_eq_false_iff_ne, bne_iff_ne, bne_eq_false_iff_eq, ne_eq, Decidable.not_not, selI_z, selB_z, selS_z, selN_z, selL_z, selI_s, selB_s, selS_s, selN_s, selL_s, Int.toNat_natCast, Nat.mul_one, Nat.zero_add, Nat.div_one, List.drop_zero, Nat.zero_mul, Nat.le_refl, Bool.not_eq_true', Bool.not_eq_false', Bool.false_eq_true, Bool.true_eq_false, not_true_eq_false, not_false_eq_true, false_imp_iff, true_imp_iff, if_true, if_false, sig, sigF, sigW, sigR, sigO, sigD, sigWD, List.map_cons, List.map_nil, rdB_z, perD, hu', unR_ros, rosR, rosD_take, rosD_len]
      refine ⟨⟨l, x, rfl, ⟨by omega, fun p hp => by have := hl p hp; omega⟩, by omega⟩, by unfold inK; omega, ⟨p1, k - 1, (joinP l x).1, ?_, by omega, by omega, by omega, fun y hy => ?_⟩, by omega⟩
      · rw [show ((k - 1 : Nat) : Int) = k - 1 by omega]
      · rcases join_mem hy with h | rfl
        · exact hl y h
        · exact hx
    · refine ⟨⟨rd_in hL (by omega) (by omega), by omega, by omega⟩, ?_⟩
      rintro ys ⟨p1, rs, rfl, p1a, p1b, p1o, rfl, p1z⟩
      rw [rdN_z] at p1a p1b
      try simp only [F_droster_dpick, F_droster_dodd, F_droster_dperson, F_droster_sjoin, s_dpick, s_dodd, s_dperson, s_sjoin, Tree.holds, ltI_t, ltI_f, leI_t, leI_f, all_cons, all_nil, and_true, true_and, forall_eq, decide_eq_true_eq, decide_eq_false_iff_not, beq_iff_eq, beq_eq_false_iff_ne, bne_iff_ne, bne_eq_false_iff_eq, ne_eq, Decidable.not_not, selI_z, selB_z, selS_z, selN_z, selL_z, selI_s, selB_s, selS_s, selN_s, selL_s, Int.toNat_natCast, Nat.mul_one, Nat.zero_add, Nat.div_one, List.drop_zero, Nat.zero_mul, Nat.le_refl, Bool.not_eq_true', Bool.not_eq_false', Bool.false_eq_true, Bool.true_eq_false, not_true_eq_false, not_false_eq_true, false_imp_iff, true_imp_iff, if_true, if_false, sig, sigF, sigW, sigR, sigO, sigD, sigWD, List.map_cons, List.map_nil, rdB_z]
      refine ⟨fun _ => ⟨⟨rd_in hL (by omega) (by omega), by omega, by omega⟩, ?_⟩, fun _ => ?_⟩
      · rintro ys ⟨p2, rs, rfl, a1, a2, x, rfl, hx⟩
        rw [rdN_z] at a1 a2
        simp only [F_droster_dpick, F_droster_dodd, F_droster_dperson, F_droster_sjoin, s_dpick, s_dodd, s_dperson, s_sjoin, Tree.holds, ltI_t, ltI_f, leI_t, leI_f, all_cons, all_nil, and_true, true_and, forall_eq, decide_eq_true_eq, decide_eq_false_iff_not, beq_iff_eq, beq_eq_false_iff_ne, bne_iff_ne, bne_eq_false_iff_eq, ne_eq, Decidable.not_not, selI_z, selB_z, selS_z, selN_z, selL_z, selI_s, selB_s, selS_s, selN_s, selL_s, Int.toNat_natCast, Nat.mul_one, Nat.zero_add, Nat.div_one, List.drop_zero, Nat.zero_mul, Nat.le_refl, Bool.not_eq_true', Bool.not_eq_false', Bool.false_eq_true, Bool.true_eq_false, not_true_eq_false, not_false_eq_true, false_imp_iff, true_imp_iff, if_true, if_false, sig, sigF, sigW, sigR, sigO, sigD, sigWD, List.map_cons, List.map_nil, rdB_z, perD]
        show (_ ∧ _) ∧ ((l.length + 1) * 3 ≤ (rosD l ++ perD x).length ∧ scal (List.take ((l.length + 1) * 3) (rosD l ++ perD x))) ∧ rdOut [D.list 0 0 (rdL L p), D.int .i64 n] [D.list 0 0 (rdL L p2), .list 30 (l.length + 1) (List.take ((l.length + 1) * 3) (rosD l ++ perD x))] 80 _
        have e := rosD_take (l ++ [x])
        have e2 := rosD_len (l ++ [x])
        have e3 : (l ++ [x]).length = l.length + 1 := by simp
        rw [e3] at e e2
        rw [← rosD_push, e, ← e3]
        refine ⟨⟨by omega, by omega⟩, ⟨by omega, rosD_scal _⟩, out p2 _ (by omega) (by omega) (by omega) fun y hy => ?_⟩
        rcases List.mem_append.mp hy with h | h
        · exact hl y h
        · simp at h; subst h; exact hx
      · first | exact ⟨⟨by omega, rosD_scal _⟩, out p1 l (by omega) (by omega) (by omega) hl⟩ | exact ⟨rosD_scal _, out p1 l (by omega) (by omega) (by omega) hl⟩ | exact out p1 l (by omega) (by omega) (by omega) hl
end Go.Proofs.Ytdhjfbnlkecggaa.Mini
end
