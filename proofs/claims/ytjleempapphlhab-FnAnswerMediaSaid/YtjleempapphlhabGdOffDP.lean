/- Parts of the proof: OffDP. -/
import Derived.Test.YtjleempapphlhabGdOffD
section
namespace Go.Proofs.Ytjleempapphlhab.Mini
open Go Go.RowKit
set_option linter.unusedVariables false
set_option linter.unusedSimpArgs false
set_option maxRecDepth 20000
def codeS : List ByteArray := [⟨#[111, 112, 117, 115]⟩, ⟨#[112, 99, 109]⟩, ⟨#[103, 55]⟩, ⟨#[118, 112, 56]⟩]
theorem ok_dmedia : FnOk Try.prog 34 s_dmedia := by
  refine fnOkR (fn := Try.f34) (F := F_dmedia) (hs := hs_dmedia) (tab_cons ok_dpick (tab_cons ok_dodd tab_nil)) mixed rfl rfl rfl (by kernel_rfl) [.int .i64] (by kernel_rfl) (by simp [hs_dmedia, shapeW]) ?_
  rintro r n ⟨hr, hn0, hn1⟩
  obtain ⟨L, p, rfl, hL, hp0, hp1⟩ := rd_split hr
  have hn0 : 0 ≤ n := hn0
  have hn1 : n ≤ 1000 := hn1
  refine ⟨fun h ys => h = 0 ∧ ∃ (q : Int) (k : Nat) (f : Int) (kd : ByteArray) (pt : Int) (s h : Bool) (cs : List ByteArray), ys = [.int .i64 n, .int .i64 (0 : Nat), .int .i64 (4 : Nat), .int .i64 f, .int .i64 k, .list 65 0 (rdL L q), .str ⟨#[]⟩, .int .i64 0, .bool false, .bool false, .int .i64 (0 : Nat), .int .i64 (0 : Nat), .str kd, .int .i64 pt, .bool s, .bool h, .int .i64 (0 : Nat), .int .i64 (cs.length : Nat), .list 9 0 (textsD codeS), .list 9 0 [], .list 9 0 (textsD cs)] ∧ p ≤ q ∧ q ≤ p + 7 + k ∧ k ≤ 4 ∧ 0 ≤ f ∧ f < 4 ∧ cs.length ≤ k ∧ kd.size ≤ 20 ∧ ∀ x ∈ cs, x.size ≤ 20, fun h ys => 4 - (selI ys 4).toNat, ?_, ?_⟩
  · rw [t_dmedia]
    simp only [F_dmedia_dpick, F_dmedia_dodd, s_dpick, s_dodd, Tree.holds, ltI_t, ltI_f, leI_t, leI_f, all_cons, all_nil, and_true, true_and, forall_eq, decide_eq_true_eq, decide_eq_false_iff_not, beq_iff_eq, beq_eq_false_iff_ne, bne_iff_ne, bne_eq_false_iff_eq, ne_eq, Decidable.not_not, selI_z, selB_z, selS_z, selN_z, selL_z, selI_s, selB_s, selS_s, selN_s, selL_s, Int.toNat_natCast, Nat.mul_one, Nat.zero_add, Nat.div_one, List.drop_zero, Nat.zero_mul, Nat.le_refl, Bool.not_eq_true', Bool.not_eq_false', Bool.false_eq_true, Bool.true_eq_false, not_true_eq_false, not_false_eq_true, false_imp_iff, true_imp_iff, if_true, if_false, sig, sigF, sigW, sigR, sigO, sigD, sigWD, List.map_cons, List.map_nil]
    refine ⟨⟨rd_in hL (by omega) (by omega), by omega, by omega⟩, ?_⟩
    rintro ys ⟨p1, rs, rfl, p1a, p1b, x, rfl, x0, x1⟩
    rw [rdN_z] at p1a p1b
    have x1 : x < 2 := x1
    try simp only [F_dmedia_dpick, F_dmedia_dodd, s_dpick, s_dodd, Tree.holds, ltI_t, ltI_f, leI_t, leI_f, all_cons, all_nil, and_true, true_and, forall_eq, decide_eq_true_eq, decide_eq_false_iff_not, beq_iff_eq, beq_eq_false_iff_ne, bne_iff_ne, bne_eq_false_iff_eq, ne_eq, Decidable.not_not, selI_z, selB_z, selS_z, selN_z, selL_z, selI_s, selB_s, selS_s, selN_s, selL_s, Int.toNat_natCast, Nat.mul_one, Nat.zero_add, Nat.div_one, List.drop_zero, Nat.zero_mul, Nat.le_refl, Bool.not_eq_true', Bool.not_eq_false', Bool.false_eq_true, Bool.true_eq_false, not_true_eq_false, not_false_eq_true, false_imp_iff, true_imp_iff, if_true, if_false, sig, sigF, sigW, sigR, sigO, sigD, sigWD, List.map_cons, List.map_nil, rdB_z]
    obtain ⟨kd, g1, g2⟩ := pick_str (ls := [D.str ⟨#[97, 117, 100, 105, 111]⟩, .str ⟨#[118, 105, 100, 101, 111]⟩]) (n := 2) (fun s => decide (s.size ≤ 20)) x0 x1 rfl rfl
    rw [g1, sel_str g1, selS_of g1]
    refine ⟨⟨x0, x1⟩, rfl, ?_⟩
    refine ⟨⟨rd_in hL (by omega) (by omega), by omega, by omega⟩, ?_⟩
    rintro ys ⟨p2, rs, rfl, p2a, p2b, y, rfl, y0, y1⟩
    rw [rdN_z] at p2a p2b
    have y1 : y < 256 := y1
    try simp only [F_dmedia_dpick, F_dmedia_dodd, s_dpick, s_dodd, Tree.holds, ltI_t, ltI_f, leI_t, leI_f, all_cons, all_nil, and_true, true_and, forall_eq, decide_eq_true_eq, decide_eq_false_iff_not, beq_iff_eq, beq_eq_false_iff_ne, bne_iff_ne, bne_eq_false_iff_eq, ne_eq, Decidable.not_not, selI_z, selB_z, selS_z, selN_z, selL_z, selI_s, selB_s, selS_s, selN_s, selL_s, Int.toNat_natCast, Nat.mul_one, Nat.zero_add, Nat.div_one, List.drop_zero, Nat.zero_mul, Nat.le_refl, Bool.not_eq_true', Bool.not_eq_false', Bool.false_eq_true, Bool.true_eq_false, not_true_eq_false, not_false_eq_true, false_imp_iff, true_imp_iff, if_true, if_false, sig, sigF, sigW, sigR, sigO, sigD, sigWD, List.map_cons, List.map_nil, rdB_z]
    refine ⟨by unfold inK; omega, ?_⟩
    refine ⟨⟨rd_in hL (by omega) (by omega), by omega, by omega⟩, ?_⟩
    rintro ys ⟨p3, rs, rfl, p3a, p3b, z, rfl, z0, z1⟩
    rw [rdN_z] at p3a p3b
    have z1 : z < 5 := z1
    try simp only [F_dmedia_dpick, F_dmedia_dodd, s_dpick, s_dodd, Tree.holds, ltI_t, ltI_f, leI_t, leI_f, all_cons, all_nil, and_true, true_and, forall_eq, decide_eq_true_eq, decide_eq_false_iff_not, beq_iff_eq, beq_eq_false_iff_ne, bne_iff_ne, bne_eq_false_iff_eq, ne_eq, Decidable.not_not, selI_z, selB_z, selS_z, selN_z, selL_z, selI_s, selB_s, selS_s, selN_s, selL_s, Int.toNat_natCast, Nat.mul_one, Nat.zero_add, Nat.div_one, List.drop_zero, Nat.zero_mul, Nat.le_refl, Bool.not_eq_true', Bool.not_eq_false', Bool.false_eq_true, Bool.true_eq_false, not_true_eq_false, not_false_eq_true, false_imp_iff, true_imp_iff, if_true, if_false, sig, sigF, sigW, sigR, sigO, sigD, sigWD, List.map_cons, List.map_nil, rdB_z]
    obtain ⟨j, g3, j0, j1⟩ := pick_int (ls := [D.int .i64 0, .int .i64 0, .int .i64 0, .int .i64 1, .int .i64 2]) (n := 5) (lo := 0) (hi := 2) (k := .i64) z0 z1 rfl (fun d hd => by
      simp only [List.mem_cons, List.not_mem_nil, or_false] at hd
      rcases hd with rfl | rfl | rfl | rfl | rfl <;> exact ⟨_, rfl, by omega, by omega⟩)
    rw [g3, sel_int g3, selI_of g3]
    obtain ⟨pt, g4, pt0, pt1⟩ := pick_int (ls := [D.int .i64 (y * 250), .int .i64 65535, .int .i64 0]) (x := j) (n := 3) (lo := 0) (hi := 65535) (k := .i64) j0 (by omega) rfl (fun d hd => by
      simp only [List.mem_cons, List.not_mem_nil, or_false] at hd
      rcases hd with rfl | rfl | rfl <;> exact ⟨_, rfl, by omega, by omega⟩)
    rw [g4, sel_int g4, selI_of g4]
    refine ⟨⟨z0, z1⟩, rfl, ⟨j0, by omega⟩, rfl, ?_⟩
    refine ⟨⟨rd_in hL (by omega) (by omega), by omega, by omega⟩, ?_⟩
    rintro ys ⟨p4, rs, rfl, p4a, p4b, a, rfl, a0, a1⟩
    rw [rdN_z] at p4a p4b
    have a1 : a < 3 := a1
    try simp only [F_dmedia_dpick, F_dmedia_dodd, s_dpick, s_dodd, Tree.holds, ltI_t, ltI_f, leI_t, leI_f, all_cons, all_nil, and_true, true_and, forall_eq, decide_eq_true_eq, decide_eq_false_iff_not, beq_iff_eq, beq_eq_false_iff_ne, bne_iff_ne, bne_eq_false_iff_eq, ne_eq, Decidable.not_not, selI_z, selB_z, selS_z, selN_z, selL_z, selI_s, selB_s, selS_s, selN_s, selL_s, Int.toNat_natCast, Nat.mul_one, Nat.zero_add, Nat.div_one, List.drop_zero, Nat.zero_mul, Nat.le_refl, Bool.not_eq_true', Bool.not_eq_false', Bool.false_eq_true, Bool.true_eq_false, not_true_eq_false, not_false_eq_true, false_imp_iff, true_imp_iff, if_true, if_false, sig, sigF, sigW, sigR, sigO, sigD, sigWD, List.map_cons, List.map_nil, rdB_z]
    refine ⟨⟨rd_in hL (by omega) (by omega), by omega, by omega⟩, ?_⟩
    rintro ys ⟨p5, rs, rfl, p5a, p5b, b, rfl, b0, b1⟩
    rw [rdN_z] at p5a p5b
    have b1 : b < 3 := b1
    try simp only [F_dmedia_dpick, F_dmedia_dodd, s_dpick, s_dodd, Tree.holds, ltI_t, ltI_f, leI_t, leI_f, all_cons, all_nil, and_true, true_and, forall_eq, decide_eq_true_eq, decide_eq_false_iff_not, beq_iff_eq, beq_eq_false_iff_ne, bne_iff_ne, bne_eq_false_iff_eq, ne_eq, Decidable.not_not, selI_z, selB_z, selS_z, selN_z, selL_z, selI_s, selB_s, selS_s, selN_s, selL_s, Int.toNat_natCast, Nat.mul_one, Nat.zero_add, Nat.div_one, List.drop_zero, Nat.zero_mul, Nat.le_refl, Bool.not_eq_true', Bool.not_eq_false', Bool.false_eq_true, Bool.true_eq_false, not_true_eq_false, not_false_eq_true, false_imp_iff, true_imp_iff, if_true, if_false, sig, sigF, sigW, sigR, sigO, sigD, sigWD, List.map_cons, List.map_nil, rdB_z]
    refine ⟨⟨rd_in hL (by omega) (by omega), by omega, by omega⟩, ?_⟩
    rintro ys ⟨p6, rs, rfl, p6a, p6b, f, rfl, f0, f1⟩
    rw [rdN_z] at p6a p6b
    have f1 : f < 4 := f1
    try simp only [F_dmedia_dpick, F_dmedia_dodd, s_dpick, s_dodd, Tree.holds, ltI_t, ltI_f, leI_t, leI_f, all_cons, all_nil, and_true, true_and, forall_eq, decide_eq_true_eq, decide_eq_false_iff_not, beq_iff_eq, beq_eq_false_iff_ne, bne_iff_ne, bne_eq_false_iff_eq, ne_eq, Decidable.not_not, selI_z, selB_z, selS_z, selN_z, selL_z, selI_s, selB_s, selS_s, selN_s, selL_s, Int.toNat_natCast, Nat.mul_one, Nat.zero_add, Nat.div_one, List.drop_zero, Nat.zero_mul, Nat.le_refl, Bool.not_eq_true', Bool.not_eq_false', Bool.false_eq_true, Bool.true_eq_false, not_true_eq_false, not_false_eq_true, false_imp_iff, true_imp_iff, if_true, if_false, sig, sigF, sigW, sigR, sigO, sigD, sigWD, List.map_cons, List.map_nil, rdB_z]
    exact ⟨p6, 0, f, kd, pt, _, _, [], rfl, by omega, by omega, by omega, f0, f1, by simp, by simpa using g2, by simp⟩
  · rintro h' ys ⟨rfl, q, k, f, kd, pt, s, h, cs, rfl, q1, q2, k4, f0, f1, hc, hk, hs⟩
    rw [t_dmedia0]
    simp only [F_dmedia_dpick, F_dmedia_dodd, s_dpick, s_dodd, Tree.holds, ltI_t, ltI_f, leI_t, leI_f, all_cons, all_nil, and_true, true_and, forall_eq, decide_eq_true_eq, decide_eq_false_iff_not, beq_iff_eq, beq_eq_false_iff_ne, bne_iff_ne, bne_eq_false_iff_eq, ne_eq, Decidable.not_not, selI_z, selB_z, selS_z, selN_z, selL_z, selI_s, selB_s, selS_s, selN_s, selL_s, Int.toNat_natCast, Nat.mul_one, Nat.zero_add, Nat.div_one, List.drop_zero, Nat.zero_mul, Nat.le_refl, Bool.not_eq_true', Bool.not_eq_false', Bool.false_eq_true, Bool.true_eq_false, not_true_eq_false, not_false_eq_true, false_imp_iff, true_imp_iff, if_true, if_false, sig, sigF, sigW, sigR, sigO, sigD, sigWD, List.map_cons, List.map_nil, textsD_take]
    have hcode : ∀ j : Int, 0 ≤ j → j < 4 → ∃ c : ByteArray, (textsD codeS)[j.toNat]? = some (.str c) ∧ c.size ≤ 20 := fun j j0 j1 => by
      obtain ⟨c, g1, g2⟩ := pick_str (ls := textsD codeS) (n := 4) (fun s => decide (s.size ≤ 20)) j0 j1 rfl rfl
      exact ⟨c, g1, by simpa using g2⟩
    have hm : 0 ≤ (f + k).tmod 4 ∧ (f + k).tmod 4 < 4 := by
      rw [Int.tmod_eq_emod_of_nonneg (by omega)]; omega
    obtain ⟨c, c1, c2⟩ := hcode _ hm.1 hm.2
    rw [c1, sel_str c1]
    have hadd : ∀ c : ByteArray, textsD cs ++ [D.str c] = textsD (cs ++ [c]) := fun c => (textsD_push cs c).symm
    have hll := textsD_len cs
    have hne : (∀ x ∈ cs ++ [c], x.size ≤ 20) := fun x hx => by
      rcases List.mem_append.mp hx with hx | hx
      · exact hs x hx
      · simp at hx; subst hx; exact c2
    have out : ∀ (q' : Int) (kd' : ByteArray) (pt' : Int) (cs' : List ByteArray), p ≤ q' → q' ≤ p + 20 → kd'.size ≤ 20 → cs'.length ≤ 10 → (∀ x ∈ cs', x.size ≤ 20) →
        rdOut [D.list 0 0 (rdL L p), D.int .i64 n] [D.list 0 0 (rdL L q'), .str kd', .int .i64 pt', .bool s, .bool h, .list 9 cs'.length (textsD cs')] 20 (fun rs => ∃ m : Med, rs = medD m ∧ drM m) :=
      fun q' kd' pt' cs' a1 a2 a3 a4 a5 => ⟨q', _, rfl, (by rw [rdN_z]; omega), (by rw [rdN_z]; omega), ⟨kd', pt', s, h, cs'⟩, rfl, a3, a4, a5⟩
    refine ⟨fun hlt => ⟨fun h0 => ⟨by unfold inK; omega, by omega, ⟨hm.1, hm.2⟩, rfl, ⟨by omega, by omega⟩, by unfold inK; omega, ⟨q, k + 1, f, kd, pt, s, h, cs ++ [c], ?_, by omega, by omega, by omega, f0, f1, by simp; omega, hk, hne⟩, by omega⟩, fun h0 => ?_⟩, fun hge => ?_⟩
    · rw [hadd, List.length_append]; rfl
    · refine ⟨⟨rd_in hL (by omega) (by omega), by omega, by omega⟩, ?_⟩
      rintro ys ⟨p1, rs, rfl, p1a, p1b, x, rfl, x0, x1⟩
      rw [rdN_z] at p1a p1b
      have x1 : x < 2 := x1
      try simp only [F_dmedia_dpick, F_dmedia_dodd, s_dpick, s_dodd, Tree.holds, ltI_t, ltI_f, leI_t, leI_f, all_cons, all_nil, and_true, true_and, forall_eq, decide_eq_true_eq, decide_eq_false_iff_not, beq_iff_eq, beq_eq_false_iff_ne, bne_iff_ne, bne_eq_false_iff_eq, ne_eq, Decidable.not_not, selI_z, selB_z, selS_z, selN_z, selL_z, selI_s, selB_s, selS_s, selN_s, selL_s, Int.toNat_natCast, Nat.mul_one, Nat.zero_add, Nat.div_one, List.drop_zero, Nat.zero_mul, Nat.le_refl, Bool.not_eq_true', Bool.not_eq_false', Bool.false_eq_true, Bool.true_eq_false, not_true_eq_false, not_false_eq_true, false_imp_iff, true_imp_iff, if_true, if_false, sig, sigF, sigW, sigR, sigO, sigD, sigWD, List.map_cons, List.map_nil, rdB_z]
      refine ⟨fun hx => ⟨by unfold inK; omega, by omega, ⟨hm.1, hm.2⟩, ⟨by omega, by omega⟩, by unfold inK; omega, ⟨p1, k + 1, f, kd, pt, s, h, cs ++ [c], ?_, by omega, by omega, by omega, f0, f1, by simp; omega, hk, hne⟩, by omega⟩, fun hx => ⟨by unfold inK; omega, ⟨p1, k + 1, f, kd, pt, s, h, cs, rfl, by omega, by omega, by omega, f0, f1, by omega, hk, hs⟩, by omega⟩⟩
      rw [hadd, List.length_append]; rfl
    · refine ⟨⟨rd_in hL (by omega) (by omega), by omega, by omega⟩, ?_⟩
      rintro ys ⟨p1, rs, rfl, p1a, p1b, p1o, rfl, p1z⟩
      rw [rdN_z] at p1a p1b
      try simp only [F_dmedia_dpick, F_dmedia_dodd, s_dpick, s_dodd, Tree.holds, ltI_t, ltI_f, leI_t, leI_f, all_cons, all_nil, and_true, true_and, forall_eq, decide_eq_true_eq, decide_eq_false_iff_not, beq_iff_eq, beq_eq_false_iff_ne, bne_iff_ne, bne_eq_false_iff_eq, ne_eq, Decidable.not_not, selI_z, selB_z, selS_z, selN_z, selL_z, selI_s, selB_s, selS_s, selN_s, selL_s, Int.toNat_natCast, Nat.mul_one, Nat.zero_add, Nat.div_one, List.drop_zero, Nat.zero_mul, Nat.le_refl, Bool.not_eq_true', Bool.not_eq_false', Bool.false_eq_true, Bool.true_eq_false, not_true_eq_false, not_false_eq_true, false_imp_iff, true_imp_iff, if_true, if_false, sig, sigF, sigW, sigR, sigO, sigD, sigWD, List.map_cons, List.map_nil, rdB_z]
      refine ⟨fun _ => ?_, fun _ => ⟨by omega, out _ _ _ _ (by omega) (by omega) hk (by omega) hs⟩⟩
      refine ⟨⟨rd_in hL (by omega) (by omega), by omega, by omega⟩, ?_⟩
      rintro ys ⟨p2, rs, rfl, p2a, p2b, x, rfl, x0, x1⟩
      rw [rdN_z] at p2a p2b
      have x1 : x < 4 := x1
      try simp only [F_dmedia_dpick, F_dmedia_dodd, s_dpick, s_dodd, Tree.holds, ltI_t, ltI_f, leI_t, leI_f, all_cons, all_nil, and_true, true_and, forall_eq, decide_eq_true_eq, decide_eq_false_iff_not, beq_iff_eq, beq_eq_false_iff_ne, bne_iff_ne, bne_eq_false_iff_eq, ne_eq, Decidable.not_not, selI_z, selB_z, selS_z, selN_z, selL_z, selI_s, selB_s, selS_s, selN_s, selL_s, Int.toNat_natCast, Nat.mul_one, Nat.zero_add, Nat.div_one, List.drop_zero, Nat.zero_mul, Nat.le_refl, Bool.not_eq_true', Bool.not_eq_false', Bool.false_eq_true, Bool.true_eq_false, not_true_eq_false, not_false_eq_true, false_imp_iff, true_imp_iff, if_true, if_false, sig, sigF, sigW, sigR, sigO, sigD, sigWD, List.map_cons, List.map_nil, rdB_z]
      refine ⟨fun _ => ⟨by omega, out _ _ _ _ (by omega) (by omega) (by decide) (by omega) hs⟩, fun _ => ⟨fun _ => ?_, fun _ => ⟨fun _ => ?_, fun _ => ?_⟩⟩⟩
      · refine ⟨⟨rd_in hL (by omega) (by omega), by omega, by omega⟩, ?_⟩
        rintro ys ⟨p3, rs, rfl, p3a, p3b, y, rfl, y0, y1⟩
        rw [rdN_z] at p3a p3b
        have y1 : y < 2 := y1
        try simp only [F_dmedia_dpick, F_dmedia_dodd, s_dpick, s_dodd, Tree.holds, ltI_t, ltI_f, leI_t, leI_f, all_cons, all_nil, and_true, true_and, forall_eq, decide_eq_true_eq, decide_eq_false_iff_not, beq_iff_eq, beq_eq_false_iff_ne, bne_iff_ne, bne_eq_false_iff_eq, ne_eq, Decidable.not_not, selI_z, selB_z, selS_z, selN_z, selL_z, selI_s, selB_s, selS_s, selN_s, selL_s, Int.toNat_natCast, Nat.mul_one, Nat.zero_add, Nat.div_one, List.drop_zero, Nat.zero_mul, Nat.le_refl, Bool.not_eq_true', Bool.not_eq_false', Bool.false_eq_true, Bool.true_eq_false, not_true_eq_false, not_false_eq_true, false_imp_iff, true_imp_iff, if_true, if_false, sig, sigF, sigW, sigR, sigO, sigD, sigWD, List.map_cons, List.map_nil, rdB_z]
        obtain ⟨j, g3, j0, j1⟩ := pick_int (ls := [D.int .i64 (-1), .int .i64 65536]) (n := 2) (lo := -1) (hi := 65536) (k := .i64) y0 y1 rfl (fun d hd => by
          simp only [List.mem_cons, List.not_mem_nil, or_false] at hd
          rcases hd with rfl | rfl <;> exact ⟨_, rfl, by omega, by omega⟩)
        rw [g3, sel_int g3, selI_of g3]
        exact ⟨⟨y0, y1⟩, rfl, by omega, out _ _ _ _ (by omega) (by omega) hk (by omega) hs⟩
      · refine ⟨⟨rd_in hL (by omega) (by omega), by omega, by omega⟩, ?_⟩
        rintro ys ⟨p3, rs, rfl, p3a, p3b, y, rfl, y0, y1⟩
        rw [rdN_z] at p3a p3b
        have y1 : y < 4 := y1
        try simp only [F_dmedia_dpick, F_dmedia_dodd, s_dpick, s_dodd, Tree.holds, ltI_t, ltI_f, leI_t, leI_f, all_cons, all_nil, and_true, true_and, forall_eq, decide_eq_true_eq, decide_eq_false_iff_not, beq_iff_eq, beq_eq_false_iff_ne, bne_iff_ne, bne_eq_false_iff_eq, ne_eq, Decidable.not_not, selI_z, selB_z, selS_z, selN_z, selL_z, selI_s, selB_s, selS_s, selN_s, selL_s, Int.toNat_natCast, Nat.mul_one, Nat.zero_add, Nat.div_one, List.drop_zero, Nat.zero_mul, Nat.le_refl, Bool.not_eq_true', Bool.not_eq_false', Bool.false_eq_true, Bool.true_eq_false, not_true_eq_false, not_false_eq_true, false_imp_iff, true_imp_iff, if_true, if_false, sig, sigF, sigW, sigR, sigO, sigD, sigWD, List.map_cons, List.map_nil, rdB_z]
        have hy : y = 0 ∨ y = 1 ∨ y = 2 ∨ y = 3 := by omega
        refine ⟨⟨y0, y1⟩, ?_⟩
        rcases hy with rfl | rfl | rfl | rfl
        · exact ⟨.inl rfl, out _ _ _ [] (by omega) (by omega) hk (by decide) (by decide)⟩
        · exact ⟨.inl rfl, out _ _ _ [⟨#[97]⟩, ⟨#[97]⟩] (by omega) (by omega) hk (by decide) (by decide)⟩
        · exact ⟨.inl rfl, out _ _ _ [⟨#[65]⟩] (by omega) (by omega) hk (by decide) (by decide)⟩
        · exact ⟨.inl rfl, out _ _ _ [⟨#[97]⟩, ⟨#[98]⟩, ⟨#[99]⟩, ⟨#[100]⟩, ⟨#[101]⟩] (by omega) (by omega) hk (by decide) (by decide)⟩
      · have e : List.take (cs.length + 1) (textsD cs ++ [D.str ⟨#[]⟩]) = textsD (cs ++ [⟨#[]⟩]) := by
          rw [hadd]; exact List.take_of_length_le (by rw [textsD_len]; simp)
        rw [e, hadd]
        refine ⟨⟨by omega, by omega⟩, by rw [textsD_len]; simp, ?_⟩
        have := out p2 kd pt (cs ++ [⟨#[]⟩]) (by omega) (by omega) hk (by simp; omega) (fun x hx => by
          rcases List.mem_append.mp hx with hx | hx
          · exact hs x hx
          · simp at hx; subst hx; decide)
        rw [List.length_append] at this
        exact this
theorem ok_doffer : FnOk Try.prog 49 s_doffer := by
  refine fnOkR (fn := Try.f49) (F := F_doffer) (hs := hs_doffer) (tab_cons ok_dmedia (tab_cons ok_dpick (tab_cons ok_dodd tab_nil))) mixed rfl rfl rfl (by kernel_rfl) [.int .i64] (by kernel_rfl) (by simp [hs_doffer, shapeW]) ?_
  rintro r n ⟨hr, hn0, hn1⟩
  obtain ⟨L, p, rfl, hL, hp0, hp1⟩ := rd_split hr
  have hn0 : 0 ≤ n := hn0
  have hn1 : n ≤ 1000 := hn1
  refine ⟨fun h ys => (h = 0 ∧ ∃ (q : Int) (k : Nat) (l : List Med), ys = [.int .i64 n, .int .i64 (0 : Nat), .int .i64 (l.length : Nat), .int .i64 k, .list 65 0 (rdL L q), .list 25 0 (offD l)] ∧ l.length + k ≤ 4 ∧ p ≤ q ∧ q ≤ p + 1 + 20 * l.length ∧ ∀ m ∈ l, drM m) ∨
    (h = 1 ∧ ∃ (q : Int) (l : List Med), ys = [.int .i64 (0 : Nat), .int .i64 (l.length : Nat), .list 65 0 (rdL L q), .list 25 0 (offD l)] ∧ l.length ≤ 5 ∧ p ≤ q ∧ q ≤ p + 5 + 20 * l.length ∧ ∀ m ∈ l, drM m),
    fun h ys => if h = 0 then 100 + (selI ys 3).toNat else 10 - (selI ys 1).toNat, ?_, ?_⟩
  · rw [t_doffer]
    simp only [F_doffer_dmedia, F_doffer_dpick, F_doffer_dodd, s_dmedia, s_dpick, s_dodd, Tree.holds, ltI_t, ltI_f, leI_t, leI_f, all_cons, all_nil, and_true, true_and, forall_eq, decide_eq_true_eq, decide_eq_false_iff_not, beq_iff_eq, beq_eq_false_iff_ne, bne_iff_ne, bne_eq_false_iff_eq, ne_eq, Decidable.not_not, selI_z, selB_z, selS_z, selN_z, selL_z, selI_s, selB_s, selS_s, selN_s, selL_s, Int.toNat_natCast, Nat.mul_one, Nat.zero_add, Nat.div_one, List.drop_zero, Nat.zero_mul, Nat.le_refl, Bool.not_eq_true', Bool.not_eq_false', Bool.false_eq_true, Bool.true_eq_false, not_true_eq_false, not_false_eq_true, false_imp_iff, true_imp_iff, if_true, if_false, sig, sigF, sigW, sigR, sigO, sigD, sigWD, List.map_cons, List.map_nil]
    refine ⟨⟨rd_in hL (by omega) (by omega), by omega, by omega⟩, ?_⟩
    rintro ys ⟨p1, rs, rfl, p1a, p1b, x, rfl, x0, x1⟩
    rw [rdN_z] at p1a p1b
    have x1 : x < 5 := x1
    try simp only [F_doffer_dmedia, F_doffer_dpick, F_doffer_dodd, s_dmedia, s_dpick, s_dodd, Tree.holds, ltI_t, ltI_f, leI_t, leI_f, all_cons, all_nil, and_true, true_and, forall_eq, decide_eq_true_eq, decide_eq_false_iff_not, beq_iff_eq, beq_eq_false_iff_ne, bne_iff_ne, bne_eq_false_iff_eq, ne_eq, Decidable.not_not, selI_z, selB_z, selS_z, selN_z, selL_z, selI_s, selB_s, selS_s, selN_s, selL_s, Int.toNat_natCast, Nat.mul_one, Nat.zero_add, Nat.div_one, List.drop_zero, Nat.zero_mul, Nat.le_refl, Bool.not_eq_true', Bool.not_eq_false', Bool.false_eq_true, Bool.true_eq_false, not_true_eq_false, not_false_eq_true, false_imp_iff, true_imp_iff, if_true, if_false, sig, sigF, sigW, sigR, sigO, sigD, sigWD, List.map_cons, List.map_nil, rdB_z]
    exact .inl ⟨p1, x.toNat, [], by rw [Int.toNat_of_nonneg x0]; rfl, by simp; omega, by omega, by simp; omega, by simp⟩
  · have hne : ∀ {l : List Med} {m : Med}, (∀ m ∈ l, drM m) → drM m → ∀ x ∈ l ++ [m], drM x := fun {l m} hl hm x hx => by
      rcases List.mem_append.mp hx with hx | hx
      · exact hl x hx
      · simp at hx; subst hx; exact hm
    have out : ∀ (q' : Int) (l : List Med), p ≤ q' → q' ≤ p + 300 → l.length ≤ 10 → (∀ m ∈ l, drM m) →
        rdOut [D.list 0 0 (rdL L p), D.int .i64 n] [D.list 0 0 (rdL L q'), .list 25 l.length (offD l)] 300 (fun rs => ∃ l : List Med, rs = [.list 25 l.length (offD l)] ∧ l.length ≤ 10 ∧ ∀ m ∈ l, drM m) :=
      fun q' l a1 a2 a3 a4 => ⟨q', _, rfl, (by rw [rdN_z]; omega), (by rw [rdN_z]; omega), l, rfl, a3, a4⟩
    rintro h' ys (⟨rfl, q, k, l, rfl, k4, q1, q2, hl⟩ | ⟨rfl, q, l, rfl, l5, q1, q2, hl⟩)
    · rw [t_doffer0]
      simp only [F_doffer_dmedia, F_doffer_dpick, F_doffer_dodd, s_dmedia, s_dpick, s_dodd, Tree.holds, ltI_t, ltI_f, leI_t, leI_f, all_cons, all_nil, and_true, true_and, forall_eq, decide_eq_true_eq, decide_eq_false_iff_not, beq_iff_eq, beq_eq_false_iff_ne, bne_iff_ne, bne_eq_false_iff_eq, ne_eq, Decidable.not_not, selI_z, selB_z, selS_z, selN_z, selL_z, selI_s, selB_s, selS_s, selN_s, selL_s, Int.toNat_natCast, Nat.mul_one, Nat.zero_add, Nat.div_one, List.drop_zero, Nat.zero_mul, Nat.le_refl, Bool.not_eq_true', Bool.not_eq_false', Bool.false_eq_true, Bool.true_eq_false, not_true_eq_false, not_false_eq_true, false_imp_iff, true_imp_iff, if_true, if_false, sig, sigF, sigW, sigR, sigO, sigD, sigWD, List.map_cons, List.map_nil, offD_take]
      have hll := offD_len l
      refine ⟨fun hk => ⟨⟨rd_in hL (by omega) (by omega), by omega, by omega⟩, ?_⟩, fun hk => ?_⟩
      · rintro ys ⟨p1, rs, rfl, a1, a2, m, rfl, hm⟩
        rw [rdN_z] at a1 a2
        simp only [F_doffer_dmedia, F_doffer_dpick, F_doffer_dodd, s_dmedia, s_dpick, s_dodd, Tree.holds, ltI_t, ltI_f, leI_t, leI_f, all_cons, all_nil, and_true, true_and, forall_eq, decide_eq_true_eq, decide_eq_false_iff_not, beq_iff_eq, beq_eq_false_iff_ne, bne_iff_ne, bne_eq_false_iff_eq, ne_eq, Decidable.not_not, selI_z, selB_z, selS_z, selN_z, selL_z, selI_s, selB_s, selS_s, selN_s, selL_s, Int.toNat_natCast, Nat.mul_one, Nat.zero_add, Nat.div_one, List.drop_zero, Nat.zero_mul, Nat.le_refl, Bool.not_eq_true', Bool.not_eq_false', Bool.false_eq_true, Bool.true_eq_false, not_true_eq_false, not_false_eq_true, false_imp_iff, true_imp_iff, if_true, if_false, sig, sigF, sigW, sigR, sigO, sigD, sigWD, List.map_cons, List.map_nil, rdB_z, medD]
        refine ⟨⟨by omega, by omega⟩, by unfold inK; omega, .inl ⟨p1, k - 1, l ++ [m], ?_, by simp; omega, by omega, by simp; omega, hne hl hm⟩, by omega⟩
        rw [offD_push, List.length_append, show ((k - 1 : Nat) : Int) = k - 1 by omega]
        rfl
      · refine ⟨⟨rd_in hL (by omega) (by omega), by omega, by omega⟩, ?_⟩
        rintro ys ⟨p1, rs, rfl, p1a, p1b, p1o, rfl, p1z⟩
        rw [rdN_z] at p1a p1b
        try simp only [F_doffer_dmedia, F_doffer_dpick, F_doffer_dodd, s_dmedia, s_dpick, s_dodd, Tree.holds, ltI_t, ltI_f, leI_t, leI_f, all_cons, all_nil, and_true, true_and, forall_eq, decide_eq_true_eq, decide_eq_false_iff_not, beq_iff_eq, beq_eq_false_iff_ne, bne_iff_ne, bne_eq_false_iff_eq, ne_eq, Decidable.not_not, selI_z, selB_z, selS_z, selN_z, selL_z, selI_s, selB_s, selS_s, selN_s, selL_s, Int.toNat_natCast, Nat.mul_one, Nat.zero_add, Nat.div_one, List.drop_zero, Nat.zero_mul, Nat.le_refl, Bool.not_eq_true', Bool.not_eq_false', Bool.false_eq_true, Bool.true_eq_false, not_true_eq_false, not_false_eq_true, false_imp_iff, true_imp_iff, if_true, if_false, sig, sigF, sigW, sigR, sigO, sigD, sigWD, List.map_cons, List.map_nil, rdB_z]
        refine ⟨fun _ => ?_, fun _ => ⟨by omega, out _ _ (by omega) (by omega) (by omega) hl⟩⟩
        refine ⟨⟨rd_in hL (by omega) (by omega), by omega, by omega⟩, ?_⟩
        rintro ys ⟨p2, rs, rfl, p2a, p2b, x, rfl, x0, x1⟩
        rw [rdN_z] at p2a p2b
        have x1 : x < 2 := x1
        try simp only [F_doffer_dmedia, F_doffer_dpick, F_doffer_dodd, s_dmedia, s_dpick, s_dodd, Tree.holds, ltI_t, ltI_f, leI_t, leI_f, all_cons, all_nil, and_true, true_and, forall_eq, decide_eq_true_eq, decide_eq_false_iff_not, beq_iff_eq, beq_eq_false_iff_ne, bne_iff_ne, bne_eq_false_iff_eq, ne_eq, Decidable.not_not, selI_z, selB_z, selS_z, selN_z, selL_z, selI_s, selB_s, selS_s, selN_s, selL_s, Int.toNat_natCast, Nat.mul_one, Nat.zero_add, Nat.div_one, List.drop_zero, Nat.zero_mul, Nat.le_refl, Bool.not_eq_true', Bool.not_eq_false', Bool.false_eq_true, Bool.true_eq_false, not_true_eq_false, not_false_eq_true, false_imp_iff, true_imp_iff, if_true, if_false, sig, sigF, sigW, sigR, sigO, sigD, sigWD, List.map_cons, List.map_nil, rdB_z]
        refine ⟨fun _ => ⟨⟨rd_in hL (by omega) (by omega), by omega, by omega⟩, ?_⟩, fun _ => ⟨.inr ⟨p2, l, rfl, by omega, by omega, by omega, hl⟩, (by simp; omega)⟩⟩
        rintro ys ⟨p3, rs, rfl, a1, a2, m, rfl, hm⟩
        rw [rdN_z] at a1 a2
        simp only [F_doffer_dmedia, F_doffer_dpick, F_doffer_dodd, s_dmedia, s_dpick, s_dodd, Tree.holds, ltI_t, ltI_f, leI_t, leI_f, all_cons, all_nil, and_true, true_and, forall_eq, decide_eq_true_eq, decide_eq_false_iff_not, beq_iff_eq, beq_eq_false_iff_ne, bne_iff_ne, bne_eq_false_iff_eq, ne_eq, Decidable.not_not, selI_z, selB_z, selS_z, selN_z, selL_z, selI_s, selB_s, selS_s, selN_s, selL_s, Int.toNat_natCast, Nat.mul_one, Nat.zero_add, Nat.div_one, List.drop_zero, Nat.zero_mul, Nat.le_refl, Bool.not_eq_true', Bool.not_eq_false', Bool.false_eq_true, Bool.true_eq_false, not_true_eq_false, not_false_eq_true, false_imp_iff, true_imp_iff, if_true, if_false, sig, sigF, sigW, sigR, sigO, sigD, sigWD, List.map_cons, List.map_nil, rdB_z]
        have e : offD l ++ [sel (D.list 0 0 (rdL L p3) :: medD m) 1 Kd.str, sel (D.list 0 0 (rdL L p3) :: medD m) (1 + 1) (Kd.int .i64), sel (D.list 0 0 (rdL L p3) :: medD m) (1 + 1 + 1) Kd.bool, sel (D.list 0 0 (rdL L p3) :: medD m) (1 + 1 + 1 + 1) Kd.bool, sel (D.list 0 0 (rdL L p3) :: medD m) (1 + 1 + 1 + 1 + 1) (Kd.list 9)] = offD (l ++ [m]) := by rw [offD_push]; rfl
        rw [e]
        have e2 := offD_take (l ++ [m])
        rw [List.length_append] at e2
        have e3 : (l ++ [m]).length = l.length + 1 := by simp
        refine ⟨⟨by omega, by omega⟩, by rw [offD_len, e3]; omega, ?_⟩
        have := out p3 (l ++ [m]) (by omega) (by omega) (by omega) (hne hl hm)
        rw [List.take_of_length_le (by rw [offD_len, e3]; omega), ← e3]
        exact this
    · rw [t_doffer1]
      simp only [F_doffer_dmedia, F_doffer_dpick, F_doffer_dodd, s_dmedia, s_dpick, s_dodd, Tree.holds, ltI_t, ltI_f, leI_t, leI_f, all_cons, all_nil, and_true, true_and, forall_eq, decide_eq_true_eq, decide_eq_false_iff_not, beq_iff_eq, beq_eq_false_iff_ne, bne_iff_ne, bne_eq_false_iff_eq, ne_eq, Decidable.not_not, selI_z, selB_z, selS_z, selN_z, selL_z, selI_s, selB_s, selS_s, selN_s, selL_s, Int.toNat_natCast, Nat.mul_one, Nat.zero_add, Nat.div_one, List.drop_zero, Nat.zero_mul, Nat.le_refl, Bool.not_eq_true', Bool.not_eq_false', Bool.false_eq_true, Bool.true_eq_false, not_true_eq_false, not_false_eq_true, false_imp_iff, true_imp_iff, if_true, if_false, sig, sigF, sigW, sigR, sigO, sigD, sigWD, List.map_cons, List.map_nil, offD_take]
      have hll := offD_len l
      refine ⟨fun hk => ⟨⟨rd_in hL (by omega) (by omega), by omega, by omega⟩, ?_⟩, fun hk => ⟨by omega, out _ _ (by omega) (by omega) (by omega) hl⟩⟩
      rintro ys ⟨p1, rs, rfl, a1, a2, m, rfl, hm⟩
      rw [rdN_z] at a1 a2
      simp only [F_doffer_dmedia, F_doffer_dpick, F_doffer_dodd, s_dmedia, s_dpick, s_dodd, Tree.holds, ltI_t, ltI_f, leI_t, leI_f, all_cons, all_nil, and_true, true_and, forall_eq, decide_eq_true_eq, decide_eq_false_iff_not, beq_iff_eq, beq_eq_false_iff_ne, bne_iff_ne, bne_eq_false_iff_eq, ne_eq, Decidable.not_not, selI_z, selB_z, selS_z, selN_z, selL_z, selI_s, selB_s, selS_s, selN_s, selL_s, Int.toNat_natCast, Nat.mul_one, Nat.zero_add, Nat.div_one, List.drop_zero, Nat.zero_mul, Nat.le_refl, Bool.not_eq_true', Bool.not_eq_false', Bool.false_eq_true, Bool.true_eq_false, not_true_eq_false, not_false_eq_true, false_imp_iff, true_imp_iff, if_true, if_false, sig, sigF, sigW, sigR, sigO, sigD, sigWD, List.map_cons, List.map_nil, rdB_z]
      refine ⟨⟨by omega, by omega⟩, .inr ⟨p1, l ++ [m], ?_, by simp; omega, by omega, by simp; omega, hne hl hm⟩, (by simp; omega)⟩
      rw [offD_push, List.length_append]
      rfl
theorem drM_sm {m : Med} (h : drM m) : smM m := ⟨by have := h.1; omega, by have := h.2.1; omega, fun x hx => by have := h.2.2 x hx; omega⟩
end Go.Proofs.Ytjleempapphlhab.Mini
end
