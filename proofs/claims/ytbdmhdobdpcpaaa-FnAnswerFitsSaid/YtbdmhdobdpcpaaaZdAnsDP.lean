/- Parts of the proof: AnsDP. -/
import Derived.Test.YtbdmhdobdpcpaaaZdAnsD
import Derived.Test.YtbdmhdobdpcpaaaZdAnsT
section
namespace Go.Proofs.Ytbdmhdobdpcpaaa.Mini
open Go Go.RowKit
set_option linter.unusedVariables false
set_option linter.unusedSimpArgs false
set_option maxRecDepth 20000
theorem codeS_inj : ∀ a, a < 4 → ∀ b, b < 4 → codeS[a]? = codeS[b]? → a = b := by decide
theorem codeS_size : ∀ x ∈ codeS, x.size ≤ 20 := by decide
theorem nodup_snoc {α : Type} {l : List α} {a : α} (h : l.Nodup) (ha : a ∉ l) : (l ++ [a]).Nodup := by
  rw [List.nodup_append]
  exact ⟨h, by simp, fun x hx y hy => by simp at hy; subst hy; exact fun e => ha (e ▸ hx)⟩
theorem ok_dmedN : FnOk Try.prog 45 s_dmedN := by
  refine fnOkR (fn := Try.f45) (F := F_dmedN) (hs := hs_dmedN) (tab_cons ok_dpick (tab_cons ok_dodd tab_nil)) mixed rfl rfl rfl (by kernel_rfl) [.int .i64] (by kernel_rfl) (by simp [hs_dmedN, shapeW]) ?_
  rintro r n ⟨hr, hn⟩
  obtain ⟨L, p, rfl, hL, hp0, hp1⟩ := rd_split hr
  obtain rfl : n = 0 := hn
  refine ⟨fun h ys => h = 0 ∧ ∃ (q : Int) (k f : Nat) (kd : ByteArray) (pt : Int) (s h : Bool) (cs : List ByteArray), ys = [.int .i64 0, .int .i64 (0 : Nat), .int .i64 (4 : Nat), .int .i64 f, .int .i64 k, .list 68 0 (rdL L q), .str ⟨#[]⟩, .int .i64 0, .bool false, .bool false, .int .i64 (0 : Nat), .int .i64 (0 : Nat), .str kd, .int .i64 pt, .bool s, .bool h, .int .i64 (0 : Nat), .int .i64 (cs.length : Nat), .list 9 0 (textsD codeS), .list 9 0 [], .list 9 0 (textsD cs)] ∧ p ≤ q ∧ q ≤ p + 7 + k ∧ k ≤ 4 ∧ f < 4 ∧ cs.length ≤ k ∧ kd.size ≤ 20 ∧ cs.Nodup ∧ ∀ x ∈ cs, ∃ j, j < k ∧ codeS[(f + j) % 4]? = some x, fun h ys => 4 - (selI ys 4).toNat, ?_, ?_⟩
  · rw [t_dmedN]
    simp only [F_dmedN_dpick, F_dmedN_dodd, s_dpick, s_dodd, Tree.holds, ltI_t, ltI_f, leI_t, leI_f, all_cons, all_nil, and_true, true_and, forall_eq, decide_eq_true_eq, decide_eq_false_iff_not, beq_iff_eq, beq_eq_false_iff_ne, bne_iff_ne, bne_eq_false_iff_eq, ne_eq, Decidable.not_not, selI_z, selB_z, selS_z, selN_z, selL_z, selI_s, selB_s, selS_s, selN_s, selL_s, Int.toNat_natCast, Nat.mul_one, Nat.zero_add, Nat.div_one, List.drop_zero, Nat.zero_mul, Nat.le_refl, Bool.not_eq_true', Bool.not_eq_false', Bool.false_eq_true, Bool.true_eq_false, not_true_eq_false, not_false_eq_true, false_imp_iff, true_imp_iff, if_true, if_false, sig, sigF, sigW, sigR, sigO, sigD, sigWD, List.map_cons, List.map_nil]
    refine ⟨⟨rd_in hL (by omega) (by omega), by omega, by omega⟩, ?_⟩
    rintro ys ⟨p1, rs, rfl, p1a, p1b, x, rfl, x0, x1⟩
    rw [rdN_z] at p1a p1b
    have x1 : x < 2 := x1
    simp only [F_dmedN_dpick, F_dmedN_dodd, s_dpick, s_dodd, Tree.holds, ltI_t, ltI_f, leI_t, leI_f, all_cons, all_nil, and_true, true_and, forall_eq, decide_eq_true_eq, decide_eq_false_iff_not, beq_iff_eq, beq_eq_false_iff_ne, bne_iff_ne, bne_eq_false_iff_eq, ne_eq, Decidable.not_not, selI_z, selB_z, selS_z, selN_z, selL_z, selI_s, selB_s, selS_s, selN_s, selL_s, Int.toNat_natCast, Nat.mul_one, Nat.zero_add, Nat.div_one, List.drop_zero, Nat.zero_mul, Nat.le_refl, Bool.not_eq_true', Bool.not_eq_false', Bool.false_eq_true, Bool.true_eq_false, not_true_eq_false, not_false_eq_true, false_imp_iff, true_imp_iff, if_true, if_false, sig, sigF, sigW, sigR, sigO, sigD, sigWD, List.map_cons, List.map_nil, rdB_z]
    obtain ⟨kd, g1, g2⟩ := pick_str (ls := [D.str ⟨#[97, 117, 100, 105, 111]⟩, .str ⟨#[118, 105, 100, 101, 111]⟩]) (n := 2) (fun s => decide (s.size ≤ 20)) x0 x1 rfl rfl
    rw [g1, sel_str g1, selS_of g1]
    refine ⟨⟨x0, x1⟩, rfl, ?_⟩
    refine ⟨⟨rd_in hL (by omega) (by omega), by omega, by omega⟩, ?_⟩
    rintro ys ⟨p2, rs, rfl, p2a, p2b, y, rfl, y0, y1⟩
    rw [rdN_z] at p2a p2b
    have y1 : y < 256 := y1
    simp only [F_dmedN_dpick, F_dmedN_dodd, s_dpick, s_dodd, Tree.holds, ltI_t, ltI_f, leI_t, leI_f, all_cons, all_nil, and_true, true_and, forall_eq, decide_eq_true_eq, decide_eq_false_iff_not, beq_iff_eq, beq_eq_false_iff_ne, bne_iff_ne, bne_eq_false_iff_eq, ne_eq, Decidable.not_not, selI_z, selB_z, selS_z, selN_z, selL_z, selI_s, selB_s, selS_s, selN_s, selL_s, Int.toNat_natCast, Nat.mul_one, Nat.zero_add, Nat.div_one, List.drop_zero, Nat.zero_mul, Nat.le_refl, Bool.not_eq_true', Bool.not_eq_false', Bool.false_eq_true, Bool.true_eq_false, not_true_eq_false, not_false_eq_true, false_imp_iff, true_imp_iff, if_true, if_false, sig, sigF, sigW, sigR, sigO, sigD, sigWD, List.map_cons, List.map_nil, rdB_z]
    refine ⟨by unfold inK; omega, ?_⟩
    refine ⟨⟨rd_in hL (by omega) (by omega), by omega, by omega⟩, ?_⟩
    rintro ys ⟨p3, rs, rfl, p3a, p3b, z, rfl, z0, z1⟩
    rw [rdN_z] at p3a p3b
    have z1 : z < 5 := z1
    simp only [F_dmedN_dpick, F_dmedN_dodd, s_dpick, s_dodd, Tree.holds, ltI_t, ltI_f, leI_t, leI_f, all_cons, all_nil, and_true, true_and, forall_eq, decide_eq_true_eq, decide_eq_false_iff_not, beq_iff_eq, beq_eq_false_iff_ne, bne_iff_ne, bne_eq_false_iff_eq, ne_eq, Decidable.not_not, selI_z, selB_z, selS_z, selN_z, selL_z, selI_s, selB_s, selS_s, selN_s, selL_s, Int.toNat_natCast, Nat.mul_one, Nat.zero_add, Nat.div_one, List.drop_zero, Nat.zero_mul, Nat.le_refl, Bool.not_eq_true', Bool.not_eq_false', Bool.false_eq_true, Bool.true_eq_false, not_true_eq_false, not_false_eq_true, false_imp_iff, true_imp_iff, if_true, if_false, sig, sigF, sigW, sigR, sigO, sigD, sigWD, List.map_cons, List.map_nil, rdB_z]
    obtain ⟨j, g3, j0, j1⟩ := pick_int (ls := [D.int .i64 0, .int .i64 0, .int .i64 0, .int .i64 1, .int .i64 2]) (n := 5) (lo := 0) (hi := 2) (k := .i64) z0 z1 rfl (fun d hd => by
      simp only [List.mem_cons, List.not_mem_nil, or_false] at hd
      rcases hd with rfl | rfl | rfl | rfl | rfl <;> exact ⟨_, rfl, by omega, by omega⟩)
    rw [g3, sel_int g3, selI_of g3]
    obtain ⟨pt, g4, pt0, pt1⟩ := pick_int (ls := [D.int .i64 (y * 250), .int .i64 65535, .int .i64 0]) (x := j) (n := 3) (lo := 0) (hi := 65535) (k := .i64) j0 (by omega) rfl (fun d hd => by
      simp only [List.mem_cons, List.not_mem_nil, or_false] at hd
      rcases hd with rfl | rfl | rfl <;> exact ⟨_, rfl, by omega, by omega⟩)
    rw [g4, sel_int g4, selI_of g4]
    refine ⟨⟨z0, z1⟩, rfl, ⟨j0, by omega⟩, rfl, ?_⟩
    refine ⟨⟨rd_in hL (by omega) (by omega), by omega, by omega⟩, ?_⟩
    rintro ys ⟨p4, rs, rfl, p4a, p4b, a, rfl, a0, a1⟩
    rw [rdN_z] at p4a p4b
    have a1 : a < 3 := a1
    simp only [F_dmedN_dpick, F_dmedN_dodd, s_dpick, s_dodd, Tree.holds, ltI_t, ltI_f, leI_t, leI_f, all_cons, all_nil, and_true, true_and, forall_eq, decide_eq_true_eq, decide_eq_false_iff_not, beq_iff_eq, beq_eq_false_iff_ne, bne_iff_ne, bne_eq_false_iff_eq, ne_eq, Decidable.not_not, selI_z, selB_z, selS_z, selN_z, selL_z, selI_s, selB_s, selS_s, selN_s, selL_s, Int.toNat_natCast, Nat.mul_one, Nat.zero_add, Nat.div_one, List.drop_zero, Nat.zero_mul, Nat.le_refl, Bool.not_eq_true', Bool.not_eq_false', Bool.false_eq_true, Bool.true_eq_false, not_true_eq_false, not_false_eq_true, false_imp_iff, true_imp_iff, if_true, if_false, sig, sigF, sigW, sigR, sigO, sigD, sigWD, List.map_cons, List.map_nil, rdB_z]
    refine ⟨⟨rd_in hL (by omega) (by omega), by omega, by omega⟩, ?_⟩
    rintro ys ⟨p5, rs, rfl, p5a, p5b, b, rfl, b0, b1⟩
    rw [rdN_z] at p5a p5b
    have b1 : b < 3 := b1
    simp only [F_dmedN_dpick, F_dmedN_dodd, s_dpick, s_dodd, Tree.holds, ltI_t, ltI_f, leI_t, leI_f, all_cons, all_nil, and_true, true_and, forall_eq, decide_eq_true_eq, decide_eq_false_iff_not, beq_iff_eq, beq_eq_false_iff_ne, bne_iff_ne, bne_eq_false_iff_eq, ne_eq, Decidable.not_not, selI_z, selB_z, selS_z, selN_z, selL_z, selI_s, selB_s, selS_s, selN_s, selL_s, Int.toNat_natCast, Nat.mul_one, Nat.zero_add, Nat.div_one, List.drop_zero, Nat.zero_mul, Nat.le_refl, Bool.not_eq_true', Bool.not_eq_false', Bool.false_eq_true, Bool.true_eq_false, not_true_eq_false, not_false_eq_true, false_imp_iff, true_imp_iff, if_true, if_false, sig, sigF, sigW, sigR, sigO, sigD, sigWD, List.map_cons, List.map_nil, rdB_z]
    refine ⟨⟨rd_in hL (by omega) (by omega), by omega, by omega⟩, ?_⟩
    rintro ys ⟨p6, rs, rfl, p6a, p6b, f, rfl, f0, f1⟩
    rw [rdN_z] at p6a p6b
    have f1 : f < 4 := f1
    simp only [F_dmedN_dpick, F_dmedN_dodd, s_dpick, s_dodd, Tree.holds, ltI_t, ltI_f, leI_t, leI_f, all_cons, all_nil, and_true, true_and, forall_eq, decide_eq_true_eq, decide_eq_false_iff_not, beq_iff_eq, beq_eq_false_iff_ne, bne_iff_ne, bne_eq_false_iff_eq, ne_eq, Decidable.not_not, selI_z, selB_z, selS_z, selN_z, selL_z, selI_s, selB_s, selS_s, selN_s, selL_s, Int.toNat_natCast, Nat.mul_one, Nat.zero_add, Nat.div_one, List.drop_zero, Nat.zero_mul, Nat.le_refl, Bool.not_eq_true', Bool.not_eq_false', Bool.false_eq_true, Bool.true_eq_false, not_true_eq_false, not_false_eq_true, false_imp_iff, true_imp_iff, if_true, if_false, sig, sigF, sigW, sigR, sigO, sigD, sigWD, List.map_cons, List.map_nil, rdB_z]
    exact ⟨p6, 0, f.toNat, kd, pt, _, _, [], by rw [Int.toNat_of_nonneg f0]; rfl, by omega, by omega, by omega, by omega, by simp, by simpa using g2, by simp, by simp⟩
  · rintro h' ys ⟨rfl, q, k, f, kd, pt, s, h, cs, rfl, q1, q2, k4, f1, hc, hk, hnd, hs⟩
    rw [t_dmedN0]
    have hm : ((f : Int) + k).tmod 4 = ((f + k) % 4 : Nat) := by rw [Int.tmod_eq_emod_of_nonneg (by omega)]; omega
    simp only [F_dmedN_dpick, F_dmedN_dodd, s_dpick, s_dodd, Tree.holds, ltI_t, ltI_f, leI_t, leI_f, all_cons, all_nil, and_true, true_and, forall_eq, decide_eq_true_eq, decide_eq_false_iff_not, beq_iff_eq, beq_eq_false_iff_ne, bne_iff_ne, bne_eq_false_iff_eq, ne_eq, Decidable.not_not, selI_z, selB_z, selS_z, selN_z, selL_z, selI_s, selB_s, selS_s, selN_s, selL_s, Int.toNat_natCast, Nat.mul_one, Nat.zero_add, Nat.div_one, List.drop_zero, Nat.zero_mul, Nat.le_refl, Bool.not_eq_true', Bool.not_eq_false', Bool.false_eq_true, Bool.true_eq_false, not_true_eq_false, not_false_eq_true, false_imp_iff, true_imp_iff, if_true, if_false, sig, sigF, sigW, sigR, sigO, sigD, sigWD, List.map_cons, List.map_nil, textsD_take, hm]
    have h4 : (f + k) % 4 < 4 := by omega
    obtain ⟨c, c0⟩ : ∃ c, codeS[(f + k) % 4]? = some c := ⟨_, List.getElem?_eq_getElem h4⟩
    have c1 := textsD_at c0
    have c2 := codeS_size c (List.mem_of_getElem? c0)
    have hnc : k < 4 → c ∉ cs := fun hk4 hcc => by
      obtain ⟨j, j1, j2⟩ := hs c hcc
      have := codeS_inj _ (show (f + j) % 4 < 4 by omega) _ h4 (by rw [j2, c0])
      omega
    rw [c1, sel_str c1]
    have hadd : ∀ c : ByteArray, textsD cs ++ [D.str c] = textsD (cs ++ [c]) := fun c => (textsD_push cs c).symm
    have hll := textsD_len cs
    have mono : ∀ x ∈ cs, ∃ j, j < k + 1 ∧ codeS[(f + j) % 4]? = some x := fun x hx => by
      obtain ⟨j, j1, j2⟩ := hs x hx
      exact ⟨j, by omega, j2⟩
    have hne : ∀ x ∈ cs ++ [c], ∃ j, j < k + 1 ∧ codeS[(f + j) % 4]? = some x := fun x hx => by
      rcases List.mem_append.mp hx with hx | hx
      · exact mono x hx
      · simp at hx; subst hx; exact ⟨k, by omega, c0⟩
    refine ⟨fun hlt => ⟨fun h0 => ⟨by unfold inK; omega, by omega, ⟨by omega, by omega⟩, rfl, ⟨by omega, by omega⟩, by unfold inK; omega, ⟨q, k + 1, f, kd, pt, s, h, cs ++ [c], ?_, by omega, by omega, by omega, f1, by simp; omega, hk, nodup_snoc hnd (hnc (by omega)), hne⟩, by omega⟩, fun h0 => ?_⟩, fun hge => ?_⟩
    · rw [hadd, List.length_append]; rfl
    · refine ⟨⟨rd_in hL (by omega) (by omega), by omega, by omega⟩, ?_⟩
      rintro ys ⟨p1, rs, rfl, p1a, p1b, x, rfl, x0, x1⟩
      rw [rdN_z] at p1a p1b
      have x1 : x < 2 := x1
      simp only [F_dmedN_dpick, F_dmedN_dodd, s_dpick, s_dodd, Tree.holds, ltI_t, ltI_f, leI_t, leI_f, all_cons, all_nil, and_true, true_and, forall_eq, decide_eq_true_eq, decide_eq_false_iff_not, beq_iff_eq, beq_eq_false_iff_ne, bne_iff_ne, bne_eq_false_iff_eq, ne_eq, Decidable.not_not, selI_z, selB_z, selS_z, selN_z, selL_z, selI_s, selB_s, selS_s, selN_s, selL_s, Int.toNat_natCast, Nat.mul_one, Nat.zero_add, Nat.div_one, List.drop_zero, Nat.zero_mul, Nat.le_refl, Bool.not_eq_true', Bool.not_eq_false', Bool.false_eq_true, Bool.true_eq_false, not_true_eq_false, not_false_eq_true, false_imp_iff, true_imp_iff, if_true, if_false, sig, sigF, sigW, sigR, sigO, sigD, sigWD, List.map_cons, List.map_nil, rdB_z]
      refine ⟨fun hx => ⟨by unfold inK; omega, by omega, ⟨by omega, by omega⟩, ⟨by omega, by omega⟩, by unfold inK; omega, ⟨p1, k + 1, f, kd, pt, s, h, cs ++ [c], ?_, by omega, by omega, by omega, f1, by simp; omega, hk, nodup_snoc hnd (hnc (by omega)), hne⟩, by omega⟩, fun hx => ⟨by unfold inK; omega, ⟨p1, k + 1, f, kd, pt, s, h, cs, rfl, by omega, by omega, by omega, f1, by omega, hk, hnd, mono⟩, by omega⟩⟩
      rw [hadd, List.length_append]; rfl
    · refine ⟨⟨rd_in hL (by omega) (by omega), by omega, by omega⟩, ?_⟩
      rintro ys ⟨p1, rs, rfl, p1a, p1b, p1o, rfl, p1z⟩
      rw [rdN_z] at p1a p1b
      simp only [F_dmedN_dpick, F_dmedN_dodd, s_dpick, s_dodd, Tree.holds, ltI_t, ltI_f, leI_t, leI_f, all_cons, all_nil, and_true, true_and, forall_eq, decide_eq_true_eq, decide_eq_false_iff_not, beq_iff_eq, beq_eq_false_iff_ne, bne_iff_ne, bne_eq_false_iff_eq, ne_eq, Decidable.not_not, selI_z, selB_z, selS_z, selN_z, selL_z, selI_s, selB_s, selS_s, selN_s, selL_s, Int.toNat_natCast, Nat.mul_one, Nat.zero_add, Nat.div_one, List.drop_zero, Nat.zero_mul, Nat.le_refl, Bool.not_eq_true', Bool.not_eq_false', Bool.false_eq_true, Bool.true_eq_false, not_true_eq_false, not_false_eq_true, false_imp_iff, true_imp_iff, if_true, if_false, sig, sigF, sigW, sigR, sigO, sigD, sigWD, List.map_cons, List.map_nil, rdB_z]
      refine ⟨fun hb => (by rw [p1z] at hb; cases hb), fun _ => ⟨by omega, p1, _, rfl, (by rw [rdN_z]; omega), (by rw [rdN_z]; omega), ⟨kd, pt, s, h, cs⟩, rfl, ⟨hk, by show cs.length ≤ 10; omega, fun x hx => ?_⟩, hnd⟩⟩
      obtain ⟨j, j1, j2⟩ := hs x hx
      exact codeS_size x (List.mem_of_getElem? j2)
theorem ok_dcc : FnOk Try.prog 11 s_dcc := by
  refine fnOk (fn := Try.f11) (F := F_dcc) (hs := hs_dcc) (tab_cons ok_dopen (tab_cons ok_dmedN tab_nil)) mixed rfl rfl rfl [.list 5] (by kernel_rfl) (by simp) ?_
  intro m bl hb
  refine ⟨fun h ys => False, fun h ys => 0, ?_, fun _ _ h => h.elim⟩
  rw [t_dcc]
  simp only [F_dcc_dopen, F_dcc_dmedN, s_dopen, s_dmedN, Tree.holds, ltI_t, ltI_f, leI_t, leI_f, all_cons, all_nil, and_true, true_and, forall_eq, decide_eq_true_eq, decide_eq_false_iff_not, beq_iff_eq, beq_eq_false_iff_ne, bne_iff_ne, bne_eq_false_iff_eq, ne_eq, Decidable.not_not, selI_z, selB_z, selS_z, selN_z, selL_z, selI_s, selB_s, selS_s, selN_s, selL_s, Int.toNat_natCast, Nat.mul_one, Nat.zero_add, Nat.div_one, List.drop_zero, Nat.zero_mul, Nat.le_refl, Bool.not_eq_true', Bool.not_eq_false', Bool.false_eq_true, Bool.true_eq_false, not_true_eq_false, not_false_eq_true, false_imp_iff, true_imp_iff, if_true, if_false, sig, sigF, sigW, sigR, sigO, sigD, sigWD, List.map_cons, List.map_nil]
  refine ⟨hb, ?_⟩
  rintro ys ⟨L, hL, rfl⟩
  simp only [F_dcc_dopen, F_dcc_dmedN, s_dopen, s_dmedN, Tree.holds, ltI_t, ltI_f, leI_t, leI_f, all_cons, all_nil, and_true, true_and, forall_eq, decide_eq_true_eq, decide_eq_false_iff_not, beq_iff_eq, beq_eq_false_iff_ne, bne_iff_ne, bne_eq_false_iff_eq, ne_eq, Decidable.not_not, selI_z, selB_z, selS_z, selN_z, selL_z, selI_s, selB_s, selS_s, selN_s, selL_s, Int.toNat_natCast, Nat.mul_one, Nat.zero_add, Nat.div_one, List.drop_zero, Nat.zero_mul, Nat.le_refl, Bool.not_eq_true', Bool.not_eq_false', Bool.false_eq_true, Bool.true_eq_false, not_true_eq_false, not_false_eq_true, false_imp_iff, true_imp_iff, if_true, if_false, sig, sigF, sigW, sigR, sigO, sigD, sigWD, List.map_cons, List.map_nil]
  refine ⟨rd_in hL (by omega) (by omega), ?_⟩
  rintro ys ⟨p1, rs, rfl, q1, q2, a, rfl, ha, hna⟩
  rw [rdN_z] at q1 q2
  simp only [F_dcc_dopen, F_dcc_dmedN, s_dopen, s_dmedN, Tree.holds, ltI_t, ltI_f, leI_t, leI_f, all_cons, all_nil, and_true, true_and, forall_eq, decide_eq_true_eq, decide_eq_false_iff_not, beq_iff_eq, beq_eq_false_iff_ne, bne_iff_ne, bne_eq_false_iff_eq, ne_eq, Decidable.not_not, selI_z, selB_z, selS_z, selN_z, selL_z, selI_s, selB_s, selS_s, selN_s, selL_s, Int.toNat_natCast, Nat.mul_one, Nat.zero_add, Nat.div_one, List.drop_zero, Nat.zero_mul, Nat.le_refl, Bool.not_eq_true', Bool.not_eq_false', Bool.false_eq_true, Bool.true_eq_false, not_true_eq_false, not_false_eq_true, false_imp_iff, true_imp_iff, if_true, if_false, sig, sigF, sigW, sigR, sigO, sigD, sigWD, List.map_cons, List.map_nil, rdB_z]
  refine ⟨rd_in hL (by omega) (by omega), ?_⟩
  rintro ys ⟨p2, rs, rfl, q3, q4, b, rfl, hb', hnb⟩
  exact ⟨a.c, b.c, rfl, ha.2.1, hb'.2.1, ha.2.2, hb'.2.2, hna, hnb⟩
theorem ok_dam : FnOk Try.prog 21 s_dam := by
  refine fnOk (fn := Try.f21) (F := F_dam) (hs := hs_dam) (tab_cons ok_dopen (tab_cons ok_dmedia tab_nil)) mixed rfl rfl rfl [.list 5] (by kernel_rfl) (by simp) ?_
  intro m bl hb
  refine ⟨fun h ys => False, fun h ys => 0, ?_, fun _ _ h => h.elim⟩
  rw [t_dam]
  simp only [F_dam_dopen, F_dam_dmedia, s_dopen, s_dmedia, Tree.holds, ltI_t, ltI_f, leI_t, leI_f, all_cons, all_nil, and_true, true_and, forall_eq, decide_eq_true_eq, decide_eq_false_iff_not, beq_iff_eq, beq_eq_false_iff_ne, bne_iff_ne, bne_eq_false_iff_eq, ne_eq, Decidable.not_not, selI_z, selB_z, selS_z, selN_z, selL_z, selI_s, selB_s, selS_s, selN_s, selL_s, Int.toNat_natCast, Nat.mul_one, Nat.zero_add, Nat.div_one, List.drop_zero, Nat.zero_mul, Nat.le_refl, Bool.not_eq_true', Bool.not_eq_false', Bool.false_eq_true, Bool.true_eq_false, not_true_eq_false, not_false_eq_true, false_imp_iff, true_imp_iff, if_true, if_false, sig, sigF, sigW, sigR, sigO, sigD, sigWD, List.map_cons, List.map_nil]
  refine ⟨hb, ?_⟩
  rintro ys ⟨L, hL, rfl⟩
  simp only [F_dam_dopen, F_dam_dmedia, s_dopen, s_dmedia, Tree.holds, ltI_t, ltI_f, leI_t, leI_f, all_cons, all_nil, and_true, true_and, forall_eq, decide_eq_true_eq, decide_eq_false_iff_not, beq_iff_eq, beq_eq_false_iff_ne, bne_iff_ne, bne_eq_false_iff_eq, ne_eq, Decidable.not_not, selI_z, selB_z, selS_z, selN_z, selL_z, selI_s, selB_s, selS_s, selN_s, selL_s, Int.toNat_natCast, Nat.mul_one, Nat.zero_add, Nat.div_one, List.drop_zero, Nat.zero_mul, Nat.le_refl, Bool.not_eq_true', Bool.not_eq_false', Bool.false_eq_true, Bool.true_eq_false, not_true_eq_false, not_false_eq_true, false_imp_iff, true_imp_iff, if_true, if_false, sig, sigF, sigW, sigR, sigO, sigD, sigWD, List.map_cons, List.map_nil]
  refine ⟨⟨rd_in hL (by omega) (by omega), by omega, by omega⟩, ?_⟩
  rintro ys ⟨p1, rs, rfl, q1, q2, a, rfl, ha⟩
  rw [rdN_z] at q1 q2
  simp only [F_dam_dopen, F_dam_dmedia, s_dopen, s_dmedia, Tree.holds, ltI_t, ltI_f, leI_t, leI_f, all_cons, all_nil, and_true, true_and, forall_eq, decide_eq_true_eq, decide_eq_false_iff_not, beq_iff_eq, beq_eq_false_iff_ne, bne_iff_ne, bne_eq_false_iff_eq, ne_eq, Decidable.not_not, selI_z, selB_z, selS_z, selN_z, selL_z, selI_s, selB_s, selS_s, selN_s, selL_s, Int.toNat_natCast, Nat.mul_one, Nat.zero_add, Nat.div_one, List.drop_zero, Nat.zero_mul, Nat.le_refl, Bool.not_eq_true', Bool.not_eq_false', Bool.false_eq_true, Bool.true_eq_false, not_true_eq_false, not_false_eq_true, false_imp_iff, true_imp_iff, if_true, if_false, sig, sigF, sigW, sigR, sigO, sigD, sigWD, List.map_cons, List.map_nil, rdB_z]
  refine ⟨⟨rd_in hL (by omega) (by omega), by omega, by omega⟩, ?_⟩
  rintro ys ⟨p2, rs, rfl, q3, q4, b, rfl, hb'⟩
  exact ⟨a, b, rfl, ha, hb'⟩
theorem ok_dao : FnOk Try.prog 32 s_dao := by
  refine fnOk (fn := Try.f32) (F := F_dao) (hs := hs_dao) (tab_cons ok_dopen (tab_cons ok_doffer tab_nil)) mixed rfl rfl rfl [.list 5] (by kernel_rfl) (by simp) ?_
  intro m bl hb
  refine ⟨fun h ys => False, fun h ys => 0, ?_, fun _ _ h => h.elim⟩
  rw [t_dao]
  simp only [F_dao_dopen, F_dao_doffer, s_dopen, s_doffer, Tree.holds, ltI_t, ltI_f, leI_t, leI_f, all_cons, all_nil, and_true, true_and, forall_eq, decide_eq_true_eq, decide_eq_false_iff_not, beq_iff_eq, beq_eq_false_iff_ne, bne_iff_ne, bne_eq_false_iff_eq, ne_eq, Decidable.not_not, selI_z, selB_z, selS_z, selN_z, selL_z, selI_s, selB_s, selS_s, selN_s, selL_s, Int.toNat_natCast, Nat.mul_one, Nat.zero_add, Nat.div_one, List.drop_zero, Nat.zero_mul, Nat.le_refl, Bool.not_eq_true', Bool.not_eq_false', Bool.false_eq_true, Bool.true_eq_false, not_true_eq_false, not_false_eq_true, false_imp_iff, true_imp_iff, if_true, if_false, sig, sigF, sigW, sigR, sigO, sigD, sigWD, List.map_cons, List.map_nil]
  refine ⟨hb, ?_⟩
  rintro ys ⟨L, hL, rfl⟩
  simp only [F_dao_dopen, F_dao_doffer, s_dopen, s_doffer, Tree.holds, ltI_t, ltI_f, leI_t, leI_f, all_cons, all_nil, and_true, true_and, forall_eq, decide_eq_true_eq, decide_eq_false_iff_not, beq_iff_eq, beq_eq_false_iff_ne, bne_iff_ne, bne_eq_false_iff_eq, ne_eq, Decidable.not_not, selI_z, selB_z, selS_z, selN_z, selL_z, selI_s, selB_s, selS_s, selN_s, selL_s, Int.toNat_natCast, Nat.mul_one, Nat.zero_add, Nat.div_one, List.drop_zero, Nat.zero_mul, Nat.le_refl, Bool.not_eq_true', Bool.not_eq_false', Bool.false_eq_true, Bool.true_eq_false, not_true_eq_false, not_false_eq_true, false_imp_iff, true_imp_iff, if_true, if_false, sig, sigF, sigW, sigR, sigO, sigD, sigWD, List.map_cons, List.map_nil]
  refine ⟨⟨rd_in hL (by omega) (by omega), by omega, by omega⟩, ?_⟩
  rintro ys ⟨p1, rs, rfl, q1, q2, l, rfl, hl, hlm⟩
  rw [rdN_z] at q1 q2
  simp only [F_dao_dopen, F_dao_doffer, s_dopen, s_doffer, Tree.holds, ltI_t, ltI_f, leI_t, leI_f, all_cons, all_nil, and_true, true_and, forall_eq, decide_eq_true_eq, decide_eq_false_iff_not, beq_iff_eq, beq_eq_false_iff_ne, bne_iff_ne, bne_eq_false_iff_eq, ne_eq, Decidable.not_not, selI_z, selB_z, selS_z, selN_z, selL_z, selI_s, selB_s, selS_s, selN_s, selL_s, Int.toNat_natCast, Nat.mul_one, Nat.zero_add, Nat.div_one, List.drop_zero, Nat.zero_mul, Nat.le_refl, Bool.not_eq_true', Bool.not_eq_false', Bool.false_eq_true, Bool.true_eq_false, not_true_eq_false, not_false_eq_true, false_imp_iff, true_imp_iff, if_true, if_false, sig, sigF, sigW, sigR, sigO, sigD, sigWD, List.map_cons, List.map_nil, rdB_z]
  refine ⟨⟨rd_in hL (by omega) (by omega), by omega, by omega⟩, ?_⟩
  rintro ys ⟨p2, rs, rfl, q3, q4, o, rfl, ho, hom⟩
  exact ⟨l, o, rfl, hl, ho, hlm, hom⟩
theorem dr_zero : drM zeroMd := ⟨by decide, by simp [zeroMd], by simp [zeroMd]⟩
theorem dr_ans {o w : Med} (h : drM o) : drM (ansM o w) := by
  unfold ansM
  split
  · split
    · have := comS_len o.c w.c
      exact ⟨h.1, by show (comS o.c w.c).length ≤ _; have := h.2.1; omega, fun x hx => h.2.2 x (List.mem_filter.mp hx).1⟩
    · exact ⟨h.1, h.2.1, h.2.2⟩
  · exact dr_zero
theorem dr_ansO {l own : List Med} (hl : ∀ m ∈ l, drM m) (hw : ∀ m ∈ own, drM m) : ∀ m ∈ ansO l own, drM m := ansO_each (fun o w h _ => dr_ans h) (fun o h => ⟨h.1, h.2.1, h.2.2⟩) hl hw
theorem ok_daf : FnOk Try.prog 42 s_daf := by
  refine fnOk (fn := Try.f42) (F := F_daf) (hs := hs_daf) (tab_cons ok_dopen (tab_cons ok_doffer (tab_cons ok_dpick (tab_cons ok_sanso tab_nil)))) mixed rfl rfl rfl [.list 5] (by kernel_rfl) (by simp) ?_
  intro m bl hb
  refine ⟨fun h ys => False, fun h ys => 0, ?_, fun _ _ h => h.elim⟩
  rw [t_daf]
  simp only [F_daf_dopen, F_daf_doffer, F_daf_dpick, F_daf_sanso, s_dopen, s_doffer, s_dpick, s_sanso, Tree.holds, ltI_t, ltI_f, leI_t, leI_f, all_cons, all_nil, and_true, true_and, forall_eq, decide_eq_true_eq, decide_eq_false_iff_not, beq_iff_eq, beq_eq_false_iff_ne, bne_iff_ne, bne_eq_false_iff_eq, ne_eq, Decidable.not_not, selI_z, selB_z, selS_z, selN_z, selL_z, selI_s, selB_s, selS_s, selN_s, selL_s, Int.toNat_natCast, Nat.mul_one, Nat.zero_add, Nat.div_one, List.drop_zero, Nat.zero_mul, Nat.le_refl, Bool.not_eq_true', Bool.not_eq_false', Bool.false_eq_true, Bool.true_eq_false, not_true_eq_false, not_false_eq_true, false_imp_iff, true_imp_iff, if_true, if_false, sig, sigF, sigW, sigR, sigO, sigD, sigWD, List.map_cons, List.map_nil]
  refine ⟨hb, ?_⟩
  rintro ys ⟨L, hL, rfl⟩
  simp only [F_daf_dopen, F_daf_doffer, F_daf_dpick, F_daf_sanso, s_dopen, s_doffer, s_dpick, s_sanso, Tree.holds, ltI_t, ltI_f, leI_t, leI_f, all_cons, all_nil, and_true, true_and, forall_eq, decide_eq_true_eq, decide_eq_false_iff_not, beq_iff_eq, beq_eq_false_iff_ne, bne_iff_ne, bne_eq_false_iff_eq, ne_eq, Decidable.not_not, selI_z, selB_z, selS_z, selN_z, selL_z, selI_s, selB_s, selS_s, selN_s, selL_s, Int.toNat_natCast, Nat.mul_one, Nat.zero_add, Nat.div_one, List.drop_zero, Nat.zero_mul, Nat.le_refl, Bool.not_eq_true', Bool.not_eq_false', Bool.false_eq_true, Bool.true_eq_false, not_true_eq_false, not_false_eq_true, false_imp_iff, true_imp_iff, if_true, if_false, sig, sigF, sigW, sigR, sigO, sigD, sigWD, List.map_cons, List.map_nil]
  refine ⟨⟨rd_in hL (by omega) (by omega), by omega, by omega⟩, ?_⟩
  rintro ys ⟨p1, rs, rfl, q1, q2, l, rfl, hl, hlm⟩
  rw [rdN_z] at q1 q2
  simp only [F_daf_dopen, F_daf_doffer, F_daf_dpick, F_daf_sanso, s_dopen, s_doffer, s_dpick, s_sanso, Tree.holds, ltI_t, ltI_f, leI_t, leI_f, all_cons, all_nil, and_true, true_and, forall_eq, decide_eq_true_eq, decide_eq_false_iff_not, beq_iff_eq, beq_eq_false_iff_ne, bne_iff_ne, bne_eq_false_iff_eq, ne_eq, Decidable.not_not, selI_z, selB_z, selS_z, selN_z, selL_z, selI_s, selB_s, selS_s, selN_s, selL_s, Int.toNat_natCast, Nat.mul_one, Nat.zero_add, Nat.div_one, List.drop_zero, Nat.zero_mul, Nat.le_refl, Bool.not_eq_true', Bool.not_eq_false', Bool.false_eq_true, Bool.true_eq_false, not_true_eq_false, not_false_eq_true, false_imp_iff, true_imp_iff, if_true, if_false, sig, sigF, sigW, sigR, sigO, sigD, sigWD, List.map_cons, List.map_nil, rdB_z]
  refine ⟨⟨rd_in hL (by omega) (by omega), by omega, by omega⟩, ?_⟩
  rintro ys ⟨p2, rs, rfl, q3, q4, o, rfl, ho, hom⟩
  rw [rdN_z] at q3 q4
  simp only [F_daf_dopen, F_daf_doffer, F_daf_dpick, F_daf_sanso, s_dopen, s_doffer, s_dpick, s_sanso, Tree.holds, ltI_t, ltI_f, leI_t, leI_f, all_cons, all_nil, and_true, true_and, forall_eq, decide_eq_true_eq, decide_eq_false_iff_not, beq_iff_eq, beq_eq_false_iff_ne, bne_iff_ne, bne_eq_false_iff_eq, ne_eq, Decidable.not_not, selI_z, selB_z, selS_z, selN_z, selL_z, selI_s, selB_s, selS_s, selN_s, selL_s, Int.toNat_natCast, Nat.mul_one, Nat.zero_add, Nat.div_one, List.drop_zero, Nat.zero_mul, Nat.le_refl, Bool.not_eq_true', Bool.not_eq_false', Bool.false_eq_true, Bool.true_eq_false, not_true_eq_false, not_false_eq_true, false_imp_iff, true_imp_iff, if_true, if_false, sig, sigF, sigW, sigR, sigO, sigD, sigWD, List.map_cons, List.map_nil, rdB_z]
  refine ⟨⟨rd_in hL (by omega) (by omega), by omega, by omega⟩, ?_⟩
  rintro ys ⟨p3, rs, rfl, p3a, p3b, x, rfl, x0, x1⟩
  rw [rdN_z] at p3a p3b
  have x1 : x < 3 := x1
  simp only [F_daf_dopen, F_daf_doffer, F_daf_dpick, F_daf_sanso, s_dopen, s_doffer, s_dpick, s_sanso, Tree.holds, ltI_t, ltI_f, leI_t, leI_f, all_cons, all_nil, and_true, true_and, forall_eq, decide_eq_true_eq, decide_eq_false_iff_not, beq_iff_eq, beq_eq_false_iff_ne, bne_iff_ne, bne_eq_false_iff_eq, ne_eq, Decidable.not_not, selI_z, selB_z, selS_z, selN_z, selL_z, selI_s, selB_s, selS_s, selN_s, selL_s, Int.toNat_natCast, Nat.mul_one, Nat.zero_add, Nat.div_one, List.drop_zero, Nat.zero_mul, Nat.le_refl, Bool.not_eq_true', Bool.not_eq_false', Bool.false_eq_true, Bool.true_eq_false, not_true_eq_false, not_false_eq_true, false_imp_iff, true_imp_iff, if_true, if_false, sig, sigF, sigW, sigR, sigO, sigD, sigWD, List.map_cons, List.map_nil, rdB_z]
  have hlen := @ansO_len l o
  simp only [unO_off]
  exact ⟨fun _ => ⟨⟨l, o, rfl, by omega, by omega, fun m hx => drM_sm (hlm m hx), fun m hx => drM_sm (hom m hx)⟩, l, ansO l o, rfl, hl, by omega, hlm, dr_ansO hlm hom⟩, fun _ => ⟨l, o, rfl, hl, ho, hlm, hom⟩⟩
end Go.Proofs.Ytbdmhdobdpcpaaa.Mini
end
