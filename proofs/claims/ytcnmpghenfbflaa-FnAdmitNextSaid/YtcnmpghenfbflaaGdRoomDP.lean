/- Parts of the proof: RoomDP. -/
import Derived.Test.YtcnmpghenfbflaaGdRoomD
section
namespace Go.Proofs.Ytcnmpghenfbflaa.Mini
open Go Go.RowKit
set_option linter.unusedVariables false
set_option linter.unusedSimpArgs false
set_option maxRecDepth 20000
theorem drRm_sm {r : Rm} (h : drRm r) : smRm r := ⟨by have := h.1; omega, by have := h.2.1; omega, fun x hx => by have := h.2.2 x hx; omega⟩
def wds8 : List ByteArray := [⟨#[97, 110, 110]⟩, ⟨#[98, 111, 98]⟩, ⟨#[99, 97, 116]⟩, ⟨#[101, 118, 101]⟩, ⟨#[116, 111, 109]⟩, ⟨#[120, 49]⟩, ⟨#[121]⟩, ⟨#[122]⟩]
theorem wds8_sz : ∀ x ∈ wds8, x.size ≤ 20 := by
  intro x hx
  simp only [wds8, List.mem_cons, List.not_mem_nil, or_false] at hx
  rcases hx with rfl | rfl | rfl | rfl | rfl | rfl | rfl | rfl <;> decide
theorem ok_droom : FnOk Try.prog 34 s_droom := by
  refine fnOkR (fn := Try.f34) (F := F_droom) (hs := hs_droom) (tab_cons ok_dpick (tab_cons ok_dodd tab_nil)) mixed rfl rfl rfl (by kernel_rfl) [.int .i64] (by kernel_rfl) (by simp [hs_droom, shapeW]) ?_
  rintro r n ⟨hr, hn0, hn1⟩
  obtain ⟨L, p, rfl, hL, hp0, hp1⟩ := rd_split hr
  have hn0 : 0 ≤ n := hn0
  have hn1 : n ≤ 1000 := hn1
  refine ⟨fun h ys => h = 0 ∧ ∃ (q : Int) (k : Nat) (s m : Int) (b : Bool) (l : List ByteArray), ys = [.int .i64 n, .int .i64 (0 : Nat), .int .i64 (8 : Nat), .int .i64 k, .list 66 0 (rdL L q), .str ⟨#[]⟩, .int .i64 0, .int .i64 0, .bool false, .int .i64 (0 : Nat), .int .i64 (0 : Nat), .str ⟨#[114, 101, 100]⟩, .int .i64 s, .int .i64 m, .bool b, .int .i64 (0 : Nat), .int .i64 (l.length : Nat), .list 9 0 (textsD wds8), .list 9 0 [], .list 9 0 (textsD l)] ∧ l.length + k ≤ 3 ∧ p ≤ q ∧ q ≤ p + 4 ∧ ∀ x ∈ l, x.size ≤ 20, fun h ys => (selI ys 3).toNat, ?_, ?_⟩
  · rw [t_droom]
    simp only [F_droom_dpick, F_droom_dodd, s_dpick, s_dodd, Tree.holds, ltI_t, ltI_f, leI_t, leI_f, all_cons, all_nil, and_true, true_and, forall_eq, decide_eq_true_eq, decide_eq_false_iff_not, beq_iff_eq, beq_eq_false_iff_ne, bne_iff_ne, bne_eq_false_iff_eq, ne_eq, Decidable.not_not, selI_z, selB_z, selS_z, selN_z, selL_z, selI_s, selB_s, selS_s, selN_s, selL_s, Int.toNat_natCast, Nat.mul_one, Nat.zero_add, Nat.div_one, List.drop_zero, Nat.zero_mul, Nat.le_refl, Bool.not_eq_true', Bool.not_eq_false', Bool.false_eq_true, Bool.true_eq_false, not_true_eq_false, not_false_eq_true, false_imp_iff, true_imp_iff, if_true, if_false, sig, sigF, sigW, sigR, sigO, sigD, sigWD, List.map_cons, List.map_nil]
    refine ⟨⟨rd_in hL (by omega) (by omega), by omega, by omega⟩, ?_⟩
    rintro ys ⟨p1, rs, rfl, p1a, p1b, x, rfl, x0, x1⟩
    rw [rdN_z] at p1a p1b
    have x1 : x < 2 := x1
    try simp only [F_droom_dpick, F_droom_dodd, s_dpick, s_dodd, Tree.holds, ltI_t, ltI_f, leI_t, leI_f, all_cons, all_nil, and_true, true_and, forall_eq, decide_eq_true_eq, decide_eq_false_iff_not, beq_iff_eq, beq_eq_false_iff_ne, bne_iff_ne, bne_eq_false_iff_eq, ne_eq, Decidable.not_not, selI_z, selB_z, selS_z, selN_z, selL_z, selI_s, selB_s, selS_s, selN_s, selL_s, Int.toNat_natCast, Nat.mul_one, Nat.zero_add, Nat.div_one, List.drop_zero, Nat.zero_mul, Nat.le_refl, Bool.not_eq_true', Bool.not_eq_false', Bool.false_eq_true, Bool.true_eq_false, not_true_eq_false, not_false_eq_true, false_imp_iff, true_imp_iff, if_true, if_false, sig, sigF, sigW, sigR, sigO, sigD, sigWD, List.map_cons, List.map_nil, rdB_z]
    refine ⟨⟨by omega, by omega⟩, ?_, ?_⟩
    · have hx : x = 0 ∨ x = 1 := by omega
      rcases hx with rfl | rfl <;> rfl
    refine ⟨⟨rd_in hL (by omega) (by omega), by omega, by omega⟩, ?_⟩
    rintro ys ⟨p2, rs, rfl, p2a, p2b, y, rfl, y0, y1⟩
    rw [rdN_z] at p2a p2b
    have y1 : y < 8 := y1
    try simp only [F_droom_dpick, F_droom_dodd, s_dpick, s_dodd, Tree.holds, ltI_t, ltI_f, leI_t, leI_f, all_cons, all_nil, and_true, true_and, forall_eq, decide_eq_true_eq, decide_eq_false_iff_not, beq_iff_eq, beq_eq_false_iff_ne, bne_iff_ne, bne_eq_false_iff_eq, ne_eq, Decidable.not_not, selI_z, selB_z, selS_z, selN_z, selL_z, selI_s, selB_s, selS_s, selN_s, selL_s, Int.toNat_natCast, Nat.mul_one, Nat.zero_add, Nat.div_one, List.drop_zero, Nat.zero_mul, Nat.le_refl, Bool.not_eq_true', Bool.not_eq_false', Bool.false_eq_true, Bool.true_eq_false, not_true_eq_false, not_false_eq_true, false_imp_iff, true_imp_iff, if_true, if_false, sig, sigF, sigW, sigR, sigO, sigD, sigWD, List.map_cons, List.map_nil, rdB_z]
    refine ⟨by unfold inK; omega, ?_⟩
    refine ⟨⟨rd_in hL (by omega) (by omega), by omega, by omega⟩, ?_⟩
    rintro ys ⟨p3, rs, rfl, p3a, p3b, z, rfl, z0, z1⟩
    rw [rdN_z] at p3a p3b
    have z1 : z < 2 := z1
    try simp only [F_droom_dpick, F_droom_dodd, s_dpick, s_dodd, Tree.holds, ltI_t, ltI_f, leI_t, leI_f, all_cons, all_nil, and_true, true_and, forall_eq, decide_eq_true_eq, decide_eq_false_iff_not, beq_iff_eq, beq_eq_false_iff_ne, bne_iff_ne, bne_eq_false_iff_eq, ne_eq, Decidable.not_not, selI_z, selB_z, selS_z, selN_z, selL_z, selI_s, selB_s, selS_s, selN_s, selL_s, Int.toNat_natCast, Nat.mul_one, Nat.zero_add, Nat.div_one, List.drop_zero, Nat.zero_mul, Nat.le_refl, Bool.not_eq_true', Bool.not_eq_false', Bool.false_eq_true, Bool.true_eq_false, not_true_eq_false, not_false_eq_true, false_imp_iff, true_imp_iff, if_true, if_false, sig, sigF, sigW, sigR, sigO, sigD, sigWD, List.map_cons, List.map_nil, rdB_z]
    refine ⟨⟨rd_in hL (by omega) (by omega), by omega, by omega⟩, ?_⟩
    rintro ys ⟨p4, rs, rfl, p4a, p4b, k, rfl, k0, k1⟩
    rw [rdN_z] at p4a p4b
    have k1 : k < 4 := k1
    try simp only [F_droom_dpick, F_droom_dodd, s_dpick, s_dodd, Tree.holds, ltI_t, ltI_f, leI_t, leI_f, all_cons, all_nil, and_true, true_and, forall_eq, decide_eq_true_eq, decide_eq_false_iff_not, beq_iff_eq, beq_eq_false_iff_ne, bne_iff_ne, bne_eq_false_iff_eq, ne_eq, Decidable.not_not, selI_z, selB_z, selS_z, selN_z, selL_z, selI_s, selB_s, selS_s, selN_s, selL_s, Int.toNat_natCast, Nat.mul_one, Nat.zero_add, Nat.div_one, List.drop_zero, Nat.zero_mul, Nat.le_refl, Bool.not_eq_true', Bool.not_eq_false', Bool.false_eq_true, Bool.true_eq_false, not_true_eq_false, not_false_eq_true, false_imp_iff, true_imp_iff, if_true, if_false, sig, sigF, sigW, sigR, sigO, sigD, sigWD, List.map_cons, List.map_nil, rdB_z]
    exact ⟨p4, k.toNat, _, _, _, [], by rw [Int.toNat_of_nonneg k0]; rfl, by simp; omega, by omega, by omega, by simp⟩
  · rintro h' ys ⟨rfl, q, k, s, m, b, l, rfl, k3, q1, q2, hl⟩
    have out : ∀ (q' : Int) (r : Rm), p ≤ q' → q' ≤ p + 40 → drRm r → rdOut [D.list 0 0 (rdL L p), D.int .i64 n] (.list 0 0 (rdL L q') :: roomD r) 40 (fun rs => ∃ r : Rm, rs = roomD r ∧ drRm r) :=
      fun q' r a1 a2 a3 => ⟨q', _, rfl, (by rw [rdN_z]; omega), (by rw [rdN_z]; omega), r, rfl, a3⟩
    rw [t_droom0]
    have tW : List.take 8 (textsD wds8) = textsD wds8 := rfl
    have lW : (textsD wds8).length = 8 := rfl
    simp only [F_droom_dpick, F_droom_dodd, s_dpick, s_dodd, Tree.holds, ltI_t, ltI_f, leI_t, leI_f, all_cons, all_nil, and_true, true_and, forall_eq, decide_eq_true_eq, decide_eq_false_iff_not, beq_iff_eq, beq_eq_false_iff_ne, bne_iff_ne, bne_eq_false_iff_eq, ne_eq, Decidable.not_not, selI_z, selB_z, selS_z, selN_z, selL_z, selI_s, selB_s, selS_s, selN_s, selL_s, Int.toNat_natCast, Nat.mul_one, Nat.zero_add, Nat.div_one, List.drop_zero, Nat.zero_mul, Nat.le_refl, Bool.not_eq_true', Bool.not_eq_false', Bool.false_eq_true, Bool.true_eq_false, not_true_eq_false, not_false_eq_true, false_imp_iff, true_imp_iff, if_true, if_false, sig, sigF, sigW, sigR, sigO, sigD, sigWD, List.map_cons, List.map_nil, List.take_zero, List.nil_append, textsD_take, textsD_len, sel_kstr, tW]
    refine ⟨fun hk => ?_, fun hk => ?_⟩
    · obtain ⟨x, x1, x2, x3⟩ := textsD_get (ls := wds8) (i := l.length) (by show l.length < 8; omega)
      rw [selS_of x2, ← textsD_push]
      refine ⟨⟨by omega, by omega⟩, x2, by omega, by unfold inK; omega, ⟨q, k - 1, s, m, b, l ++ [x], ?_, by rw [List.length_append]; simp; omega, by omega, by omega, fun y hy => ?_⟩, by omega⟩
      · rw [show ((k - 1 : Nat) : Int) = k - 1 by omega, List.length_append]; rfl
      · rcases List.mem_append.mp hy with h | h
        · exact hl y h
        · simp at h; subst h; exact wds8_sz _ x3
    · refine ⟨⟨rd_in hL (by omega) (by omega), by omega, by omega⟩, ?_⟩
      rintro ys ⟨pa, rs, rfl, paa, pab, pao, rfl, paz⟩
      rw [rdN_z] at paa pab
      try simp only [F_droom_dpick, F_droom_dodd, s_dpick, s_dodd, Tree.holds, ltI_t, ltI_f, leI_t, leI_f, all_cons, all_nil, and_true, true_and, forall_eq, decide_eq_true_eq, decide_eq_false_iff_not, beq_iff_eq, beq_eq_false_iff_ne, bne_iff_ne, bne_eq_false_iff_eq, ne_eq, Decidable.not_not, selI_z, selB_z, selS_z, selN_z, selL_z, selI_s, selB_s, selS_s, selN_s, selL_s, Int.toNat_natCast, Nat.mul_one, Nat.zero_add, Nat.div_one, List.drop_zero, Nat.zero_mul, Nat.le_refl, Bool.not_eq_true', Bool.not_eq_false', Bool.false_eq_true, Bool.true_eq_false, not_true_eq_false, not_false_eq_true, false_imp_iff, true_imp_iff, if_true, if_false, sig, sigF, sigW, sigR, sigO, sigD, sigWD, List.map_cons, List.map_nil, rdB_z]
      refine ⟨fun _ => ⟨⟨by show 8 ≤ 8; omega, by omega⟩, ?_⟩, fun _ => ?_⟩
      · have sc := textsD_scal wds8
        have hX := wds8_sz
        have l8 : wds8.length = 8 := rfl
        rw [l8]
        have D1 : ∀ (a : ByteArray) (s m : Int), a.size ≤ 20 → drRm ⟨a, s, m, b, wds8⟩ := fun a s m h => ⟨h, (by show wds8.length ≤ 20; omega), hX⟩
        refine ⟨⟨rd_in hL (by omega) (by omega), by omega, by omega⟩, ?_⟩
        rintro ys ⟨po, rs, rfl, poa, pob, poo, rfl, poz⟩
        rw [rdN_z] at poa pob
        try simp only [F_droom_dpick, F_droom_dodd, s_dpick, s_dodd, Tree.holds, ltI_t, ltI_f, leI_t, leI_f, all_cons, all_nil, and_true, true_and, forall_eq, decide_eq_true_eq, decide_eq_false_iff_not, beq_iff_eq, beq_eq_false_iff_ne, bne_iff_ne, bne_eq_false_iff_eq, ne_eq, Decidable.not_not, selI_z, selB_z, selS_z, selN_z, selL_z, selI_s, selB_s, selS_s, selN_s, selL_s, Int.toNat_natCast, Nat.mul_one, Nat.zero_add, Nat.div_one, List.drop_zero, Nat.zero_mul, Nat.le_refl, Bool.not_eq_true', Bool.not_eq_false', Bool.false_eq_true, Bool.true_eq_false, not_true_eq_false, not_false_eq_true, false_imp_iff, true_imp_iff, if_true, if_false, sig, sigF, sigW, sigR, sigO, sigD, sigWD, List.map_cons, List.map_nil, rdB_z]
        refine ⟨fun _ => ?_, fun _ => ?_⟩
        · refine ⟨⟨rd_in hL (by omega) (by omega), by omega, by omega⟩, ?_⟩
          rintro ys ⟨pz, rs, rfl, pza, pzb, z, rfl, z0, z1⟩
          rw [rdN_z] at pza pzb
          have z1 : z < 4 := z1
          try simp only [F_droom_dpick, F_droom_dodd, s_dpick, s_dodd, Tree.holds, ltI_t, ltI_f, leI_t, leI_f, all_cons, all_nil, and_true, true_and, forall_eq, decide_eq_true_eq, decide_eq_false_iff_not, beq_iff_eq, beq_eq_false_iff_ne, bne_iff_ne, bne_eq_false_iff_eq, ne_eq, Decidable.not_not, selI_z, selB_z, selS_z, selN_z, selL_z, selI_s, selB_s, selS_s, selN_s, selL_s, Int.toNat_natCast, Nat.mul_one, Nat.zero_add, Nat.div_one, List.drop_zero, Nat.zero_mul, Nat.le_refl, Bool.not_eq_true', Bool.not_eq_false', Bool.false_eq_true, Bool.true_eq_false, not_true_eq_false, not_false_eq_true, false_imp_iff, true_imp_iff, if_true, if_false, sig, sigF, sigW, sigR, sigO, sigD, sigWD, List.map_cons, List.map_nil, rdB_z]
          refine ⟨fun e => ?_, fun _ => ⟨fun e => ?_, fun _ => ⟨fun e => ?_, fun _ => ?_⟩⟩⟩
          · first | exact out pz ⟨⟨#[]⟩, s, m, b, wds8⟩ (by omega) (by omega) (D1 _ _ _ (by decide)) | exact ⟨sc, out pz ⟨⟨#[]⟩, s, m, b, wds8⟩ (by omega) (by omega) (D1 _ _ _ (by decide))⟩ | exact ⟨⟨by omega, sc⟩, out pz ⟨⟨#[]⟩, s, m, b, wds8⟩ (by omega) (by omega) (D1 _ _ _ (by decide))⟩ | exact ⟨by omega, sc, out pz ⟨⟨#[]⟩, s, m, b, wds8⟩ (by omega) (by omega) (D1 _ _ _ (by decide))⟩
          · refine ⟨⟨rd_in hL (by omega) (by omega), by omega, by omega⟩, ?_⟩
            rintro ys ⟨pw, rs, rfl, pwa, pwb, y, rfl, y0, y1⟩
            rw [rdN_z] at pwa pwb
            have y1 : y < 2 := y1
            try simp only [F_droom_dpick, F_droom_dodd, s_dpick, s_dodd, Tree.holds, ltI_t, ltI_f, leI_t, leI_f, all_cons, all_nil, and_true, true_and, forall_eq, decide_eq_true_eq, decide_eq_false_iff_not, beq_iff_eq, beq_eq_false_iff_ne, bne_iff_ne, bne_eq_false_iff_eq, ne_eq, Decidable.not_not, selI_z, selB_z, selS_z, selN_z, selL_z, selI_s, selB_s, selS_s, selN_s, selL_s, Int.toNat_natCast, Nat.mul_one, Nat.zero_add, Nat.div_one, List.drop_zero, Nat.zero_mul, Nat.le_refl, Bool.not_eq_true', Bool.not_eq_false', Bool.false_eq_true, Bool.true_eq_false, not_true_eq_false, not_false_eq_true, false_imp_iff, true_imp_iff, if_true, if_false, sig, sigF, sigW, sigR, sigO, sigD, sigWD, List.map_cons, List.map_nil, rdB_z]
            refine ⟨⟨by omega, by omega⟩, ?_, ?_⟩
            · have hy : y = 0 ∨ y = 1 := by omega
              rcases hy with rfl | rfl <;> rfl
            · first | exact out pw ⟨⟨#[114, 101, 100]⟩, _, m, b, wds8⟩ (by omega) (by omega) (D1 _ _ _ (by decide)) | exact ⟨sc, out pw ⟨⟨#[114, 101, 100]⟩, _, m, b, wds8⟩ (by omega) (by omega) (D1 _ _ _ (by decide))⟩ | exact ⟨⟨by omega, sc⟩, out pw ⟨⟨#[114, 101, 100]⟩, _, m, b, wds8⟩ (by omega) (by omega) (D1 _ _ _ (by decide))⟩ | exact ⟨by omega, sc, out pw ⟨⟨#[114, 101, 100]⟩, _, m, b, wds8⟩ (by omega) (by omega) (D1 _ _ _ (by decide))⟩
          · refine ⟨⟨rd_in hL (by omega) (by omega), by omega, by omega⟩, ?_⟩
            rintro ys ⟨pw, rs, rfl, pwa, pwb, y, rfl, y0, y1⟩
            rw [rdN_z] at pwa pwb
            have y1 : y < 2 := y1
            try simp only [F_droom_dpick, F_droom_dodd, s_dpick, s_dodd, Tree.holds, ltI_t, ltI_f, leI_t, leI_f, all_cons, all_nil, and_true, true_and, forall_eq, decide_eq_true_eq, decide_eq_false_iff_not, beq_iff_eq, beq_eq_false_iff_ne, bne_iff_ne, bne_eq_false_iff_eq, ne_eq, Decidable.not_not, selI_z, selB_z, selS_z, selN_z, selL_z, selI_s, selB_s, selS_s, selN_s, selL_s, Int.toNat_natCast, Nat.mul_one, Nat.zero_add, Nat.div_one, List.drop_zero, Nat.zero_mul, Nat.le_refl, Bool.not_eq_true', Bool.not_eq_false', Bool.false_eq_true, Bool.true_eq_false, not_true_eq_false, not_false_eq_true, false_imp_iff, true_imp_iff, if_true, if_false, sig, sigF, sigW, sigR, sigO, sigD, sigWD, List.map_cons, List.map_nil, rdB_z]
            refine ⟨⟨by omega, by omega⟩, ?_, ?_⟩
            · have hy : y = 0 ∨ y = 1 := by omega
              rcases hy with rfl | rfl <;> rfl
            · first | exact out pw ⟨⟨#[114, 101, 100]⟩, s, _, b, wds8⟩ (by omega) (by omega) (D1 _ _ _ (by decide)) | exact ⟨sc, out pw ⟨⟨#[114, 101, 100]⟩, s, _, b, wds8⟩ (by omega) (by omega) (D1 _ _ _ (by decide))⟩ | exact ⟨⟨by omega, sc⟩, out pw ⟨⟨#[114, 101, 100]⟩, s, _, b, wds8⟩ (by omega) (by omega) (D1 _ _ _ (by decide))⟩ | exact ⟨by omega, sc, out pw ⟨⟨#[114, 101, 100]⟩, s, _, b, wds8⟩ (by omega) (by omega) (D1 _ _ _ (by decide))⟩
          · refine ⟨⟨rd_in hL (by omega) (by omega), by omega, by omega⟩, ?_⟩
            rintro ys ⟨pw, rs, rfl, pwa, pwb, y, rfl, y0, y1⟩
            rw [rdN_z] at pwa pwb
            have y1 : y < 3 := y1
            try simp only [F_droom_dpick, F_droom_dodd, s_dpick, s_dodd, Tree.holds, ltI_t, ltI_f, leI_t, leI_f, all_cons, all_nil, and_true, true_and, forall_eq, decide_eq_true_eq, decide_eq_false_iff_not, beq_iff_eq, beq_eq_false_iff_ne, bne_iff_ne, bne_eq_false_iff_eq, ne_eq, Decidable.not_not, selI_z, selB_z, selS_z, selN_z, selL_z, selI_s, selB_s, selS_s, selN_s, selL_s, Int.toNat_natCast, Nat.mul_one, Nat.zero_add, Nat.div_one, List.drop_zero, Nat.zero_mul, Nat.le_refl, Bool.not_eq_true', Bool.not_eq_false', Bool.false_eq_true, Bool.true_eq_false, not_true_eq_false, not_false_eq_true, false_imp_iff, true_imp_iff, if_true, if_false, sig, sigF, sigW, sigR, sigO, sigD, sigWD, List.map_cons, List.map_nil, rdB_z]
            generalize hls : (D.str ⟨#[65]⟩ :: _ : List D) = ls
            obtain ⟨u, g1, g2⟩ := pick_str (ls := ls) (n := 3) (fun s => decide (s.size ≤ 20)) y0 y1 (by rw [← hls]; rfl) (by rw [← hls]; rfl)
            have g2 : u.size ≤ 20 := by simpa using g2
            rw [g1, selS_of g1]
            have e1 : textsD wds8 ++ [D.str u, D.str ⟨#[97, 110, 110]⟩] = textsD (wds8 ++ [u, ⟨#[97, 110, 110]⟩]) := by simp [textsD]
            have e2 : (wds8 ++ [u, ⟨#[97, 110, 110]⟩]).length = wds8.length + 2 := by simp
            have e3 := textsD_take (wds8 ++ [u, ⟨#[97, 110, 110]⟩])
            have e4 := textsD_len (wds8 ++ [u, ⟨#[97, 110, 110]⟩])
            have e5 := textsD_scal (wds8 ++ [u, ⟨#[97, 110, 110]⟩])
            have oo : rdOut [D.list 0 0 (rdL L p), D.int .i64 n] (.list 0 0 (rdL L pw) :: roomD ⟨⟨#[114, 101, 100]⟩, s, m, b, wds8 ++ [u, ⟨#[97, 110, 110]⟩]⟩) 40 (fun rs => ∃ r : Rm, rs = roomD r ∧ drRm r) := out pw _ (by omega) (by omega) ⟨(show (ByteArray.mk #[114, 101, 100]).size ≤ 20 by decide), by show (wds8 ++ _).length ≤ 20; omega, fun x hx => by
              rcases List.mem_append.mp hx with h | h
              · exact hX x h
              · simp at h
                rcases h with rfl | rfl
                · exact g2
                · decide⟩
            simp only [roomD] at oo
            rw [e2] at e3 e4 oo
            rw [l8] at e3 e4 oo
            rw [e1, e3]
            exact ⟨⟨by omega, by omega⟩, rfl, by omega, ⟨by omega, e5⟩, oo⟩
        · first | exact out po ⟨⟨#[114, 101, 100]⟩, s, m, b, wds8⟩ (by omega) (by omega) (D1 _ _ _ (by decide)) | exact ⟨sc, out po ⟨⟨#[114, 101, 100]⟩, s, m, b, wds8⟩ (by omega) (by omega) (D1 _ _ _ (by decide))⟩ | exact ⟨⟨by omega, sc⟩, out po ⟨⟨#[114, 101, 100]⟩, s, m, b, wds8⟩ (by omega) (by omega) (D1 _ _ _ (by decide))⟩ | exact ⟨by omega, sc, out po ⟨⟨#[114, 101, 100]⟩, s, m, b, wds8⟩ (by omega) (by omega) (D1 _ _ _ (by decide))⟩
      · have sc := textsD_scal l
        have hX := hl
        have D1 : ∀ (a : ByteArray) (s m : Int), a.size ≤ 20 → drRm ⟨a, s, m, b, l⟩ := fun a s m h => ⟨h, (by show l.length ≤ 20; omega), hX⟩
        refine ⟨⟨rd_in hL (by omega) (by omega), by omega, by omega⟩, ?_⟩
        rintro ys ⟨po, rs, rfl, poa, pob, poo, rfl, poz⟩
        rw [rdN_z] at poa pob
        try simp only [F_droom_dpick, F_droom_dodd, s_dpick, s_dodd, Tree.holds, ltI_t, ltI_f, leI_t, leI_f, all_cons, all_nil, and_true, true_and, forall_eq, decide_eq_true_eq, decide_eq_false_iff_not, beq_iff_eq, beq_eq_false_iff_ne, bne_iff_ne, bne_eq_false_iff_eq, ne_eq, Decidable.not_not, selI_z, selB_z, selS_z, selN_z, selL_z, selI_s, selB_s, selS_s, selN_s, selL_s, Int.toNat_natCast, Nat.mul_one, Nat.zero_add, Nat.div_one, List.drop_zero, Nat.zero_mul, Nat.le_refl, Bool.not_eq_true', Bool.not_eq_false', Bool.false_eq_true, Bool.true_eq_false, not_true_eq_false, not_false_eq_true, false_imp_iff, true_imp_iff, if_true, if_false, sig, sigF, sigW, sigR, sigO, sigD, sigWD, List.map_cons, List.map_nil, rdB_z]
        refine ⟨fun _ => ?_, fun _ => ?_⟩
        · refine ⟨⟨rd_in hL (by omega) (by omega), by omega, by omega⟩, ?_⟩
          rintro ys ⟨pz, rs, rfl, pza, pzb, z, rfl, z0, z1⟩
          rw [rdN_z] at pza pzb
          have z1 : z < 4 := z1
          try simp only [F_droom_dpick, F_droom_dodd, s_dpick, s_dodd, Tree.holds, ltI_t, ltI_f, leI_t, leI_f, all_cons, all_nil, and_true, true_and, forall_eq, decide_eq_true_eq, decide_eq_false_iff_not, beq_iff_eq, beq_eq_false_iff_ne, bne_iff_ne, bne_eq_false_iff_eq, ne_eq, Decidable.not_not, selI_z, selB_z, selS_z, selN_z, selL_z, selI_s, selB_s, selS_s, selN_s, selL_s, Int.toNat_natCast, Nat.mul_one, Nat.zero_add, Nat.div_one, List.drop_zero, Nat.zero_mul, Nat.le_refl, Bool.not_eq_true', Bool.not_eq_false', Bool.false_eq_true, Bool.true_eq_false, not_true_eq_false, not_false_eq_true, false_imp_iff, true_imp_iff, if_true, if_false, sig, sigF, sigW, sigR, sigO, sigD, sigWD, List.map_cons, List.map_nil, rdB_z]
          refine ⟨fun e => ?_, fun _ => ⟨fun e => ?_, fun _ => ⟨fun e => ?_, fun _ => ?_⟩⟩⟩
          · first | exact out pz ⟨⟨#[]⟩, s, m, b, l⟩ (by omega) (by omega) (D1 _ _ _ (by decide)) | exact ⟨sc, out pz ⟨⟨#[]⟩, s, m, b, l⟩ (by omega) (by omega) (D1 _ _ _ (by decide))⟩ | exact ⟨⟨by omega, sc⟩, out pz ⟨⟨#[]⟩, s, m, b, l⟩ (by omega) (by omega) (D1 _ _ _ (by decide))⟩ | exact ⟨by omega, sc, out pz ⟨⟨#[]⟩, s, m, b, l⟩ (by omega) (by omega) (D1 _ _ _ (by decide))⟩
          · refine ⟨⟨rd_in hL (by omega) (by omega), by omega, by omega⟩, ?_⟩
            rintro ys ⟨pw, rs, rfl, pwa, pwb, y, rfl, y0, y1⟩
            rw [rdN_z] at pwa pwb
            have y1 : y < 2 := y1
            try simp only [F_droom_dpick, F_droom_dodd, s_dpick, s_dodd, Tree.holds, ltI_t, ltI_f, leI_t, leI_f, all_cons, all_nil, and_true, true_and, forall_eq, decide_eq_true_eq, decide_eq_false_iff_not, beq_iff_eq, beq_eq_false_iff_ne, bne_iff_ne, bne_eq_false_iff_eq, ne_eq, Decidable.not_not, selI_z, selB_z, selS_z, selN_z, selL_z, selI_s, selB_s, selS_s, selN_s, selL_s, Int.toNat_natCast, Nat.mul_one, Nat.zero_add, Nat.div_one, List.drop_zero, Nat.zero_mul, Nat.le_refl, Bool.not_eq_true', Bool.not_eq_false', Bool.false_eq_true, Bool.true_eq_false, not_true_eq_false, not_false_eq_true, false_imp_iff, true_imp_iff, if_true, if_false, sig, sigF, sigW, sigR, sigO, sigD, sigWD, List.map_cons, List.map_nil, rdB_z]
            refine ⟨⟨by omega, by omega⟩, ?_, ?_⟩
            · have hy : y = 0 ∨ y = 1 := by omega
              rcases hy with rfl | rfl <;> rfl
            · first | exact out pw ⟨⟨#[114, 101, 100]⟩, _, m, b, l⟩ (by omega) (by omega) (D1 _ _ _ (by decide)) | exact ⟨sc, out pw ⟨⟨#[114, 101, 100]⟩, _, m, b, l⟩ (by omega) (by omega) (D1 _ _ _ (by decide))⟩ | exact ⟨⟨by omega, sc⟩, out pw ⟨⟨#[114, 101, 100]⟩, _, m, b, l⟩ (by omega) (by omega) (D1 _ _ _ (by decide))⟩ | exact ⟨by omega, sc, out pw ⟨⟨#[114, 101, 100]⟩, _, m, b, l⟩ (by omega) (by omega) (D1 _ _ _ (by decide))⟩
          · refine ⟨⟨rd_in hL (by omega) (by omega), by omega, by omega⟩, ?_⟩
            rintro ys ⟨pw, rs, rfl, pwa, pwb, y, rfl, y0, y1⟩
            rw [rdN_z] at pwa pwb
            have y1 : y < 2 := y1
            try simp only [F_droom_dpick, F_droom_dodd, s_dpick, s_dodd, Tree.holds, ltI_t, ltI_f, leI_t, leI_f, all_cons, all_nil, and_true, true_and, forall_eq, decide_eq_true_eq, decide_eq_false_iff_not, beq_iff_eq, beq_eq_false_iff_ne, bne_iff_ne, bne_eq_false_iff_eq, ne_eq, Decidable.not_not, selI_z, selB_z, selS_z, selN_z, selL_z, selI_s, selB_s, selS_s, selN_s, selL_s, Int.toNat_natCast, Nat.mul_one, Nat.zero_add, Nat.div_one, List.drop_zero, Nat.zero_mul, Nat.le_refl, Bool.not_eq_true', Bool.not_eq_false', Bool.false_eq_true, Bool.true_eq_false, not_true_eq_false, not_false_eq_true, false_imp_iff, true_imp_iff, if_true, if_false, sig, sigF, sigW, sigR, sigO, sigD, sigWD, List.map_cons, List.map_nil, rdB_z]
            refine ⟨⟨by omega, by omega⟩, ?_, ?_⟩
            · have hy : y = 0 ∨ y = 1 := by omega
              rcases hy with rfl | rfl <;> rfl
            · first | exact out pw ⟨⟨#[114, 101, 100]⟩, s, _, b, l⟩ (by omega) (by omega) (D1 _ _ _ (by decide)) | exact ⟨sc, out pw ⟨⟨#[114, 101, 100]⟩, s, _, b, l⟩ (by omega) (by omega) (D1 _ _ _ (by decide))⟩ | exact ⟨⟨by omega, sc⟩, out pw ⟨⟨#[114, 101, 100]⟩, s, _, b, l⟩ (by omega) (by omega) (D1 _ _ _ (by decide))⟩ | exact ⟨by omega, sc, out pw ⟨⟨#[114, 101, 100]⟩, s, _, b, l⟩ (by omega) (by omega) (D1 _ _ _ (by decide))⟩
          · refine ⟨⟨rd_in hL (by omega) (by omega), by omega, by omega⟩, ?_⟩
            rintro ys ⟨pw, rs, rfl, pwa, pwb, y, rfl, y0, y1⟩
            rw [rdN_z] at pwa pwb
            have y1 : y < 3 := y1
            try simp only [F_droom_dpick, F_droom_dodd, s_dpick, s_dodd, Tree.holds, ltI_t, ltI_f, leI_t, leI_f, all_cons, all_nil, and_true, true_and, forall_eq, decide_eq_true_eq, decide_eq_false_iff_not, beq_iff_eq, beq_eq_false_iff_ne, bne_iff_ne, bne_eq_false_iff_eq, ne_eq, Decidable.not_not, selI_z, selB_z, selS_z, selN_z, selL_z, selI_s, selB_s, selS_s, selN_s, selL_s, Int.toNat_natCast, Nat.mul_one, Nat.zero_add, Nat.div_one, List.drop_zero, Nat.zero_mul, Nat.le_refl, Bool.not_eq_true', Bool.not_eq_false', Bool.false_eq_true, Bool.true_eq_false, not_true_eq_false, not_false_eq_true, false_imp_iff, true_imp_iff, if_true, if_false, sig, sigF, sigW, sigR, sigO, sigD, sigWD, List.map_cons, List.map_nil, rdB_z]
            generalize hls : (D.str ⟨#[65]⟩ :: _ : List D) = ls
            obtain ⟨u, g1, g2⟩ := pick_str (ls := ls) (n := 3) (fun s => decide (s.size ≤ 20)) y0 y1 (by rw [← hls]; rfl) (by rw [← hls]; rfl)
            have g2 : u.size ≤ 20 := by simpa using g2
            rw [g1, selS_of g1]
            have e1 : textsD l ++ [D.str u, D.str ⟨#[97, 110, 110]⟩] = textsD (l ++ [u, ⟨#[97, 110, 110]⟩]) := by simp [textsD]
            have e2 : (l ++ [u, ⟨#[97, 110, 110]⟩]).length = l.length + 2 := by simp
            have e3 := textsD_take (l ++ [u, ⟨#[97, 110, 110]⟩])
            have e4 := textsD_len (l ++ [u, ⟨#[97, 110, 110]⟩])
            have e5 := textsD_scal (l ++ [u, ⟨#[97, 110, 110]⟩])
            have oo : rdOut [D.list 0 0 (rdL L p), D.int .i64 n] (.list 0 0 (rdL L pw) :: roomD ⟨⟨#[114, 101, 100]⟩, s, m, b, l ++ [u, ⟨#[97, 110, 110]⟩]⟩) 40 (fun rs => ∃ r : Rm, rs = roomD r ∧ drRm r) := out pw _ (by omega) (by omega) ⟨(show (ByteArray.mk #[114, 101, 100]).size ≤ 20 by decide), by show (l ++ _).length ≤ 20; omega, fun x hx => by
              rcases List.mem_append.mp hx with h | h
              · exact hX x h
              · simp at h
                rcases h with rfl | rfl
                · exact g2
                · decide⟩
            simp only [roomD] at oo
            rw [e2] at e3 e4 oo
            rw [e1, e3]
            exact ⟨⟨by omega, by omega⟩, rfl, by omega, ⟨by omega, e5⟩, oo⟩
        · first | exact out po ⟨⟨#[114, 101, 100]⟩, s, m, b, l⟩ (by omega) (by omega) (D1 _ _ _ (by decide)) | exact ⟨sc, out po ⟨⟨#[114, 101, 100]⟩, s, m, b, l⟩ (by omega) (by omega) (D1 _ _ _ (by decide))⟩ | exact ⟨⟨by omega, sc⟩, out po ⟨⟨#[114, 101, 100]⟩, s, m, b, l⟩ (by omega) (by omega) (D1 _ _ _ (by decide))⟩ | exact ⟨by omega, sc, out po ⟨⟨#[114, 101, 100]⟩, s, m, b, l⟩ (by omega) (by omega) (D1 _ _ _ (by decide))⟩
theorem ok_drov : FnOk Try.prog 11 s_drov := by
  refine fnOk (fn := Try.f11) (F := F_drov) (hs := hs_drov) (tab_cons ok_dopen (tab_cons ok_droom tab_nil)) mixed rfl rfl rfl [.list 5] (by kernel_rfl) (by simp) ?_
  intro m bl hb
  refine ⟨fun h ys => False, fun h ys => 0, ?_, fun _ _ h => h.elim⟩
  rw [t_drov]
  simp only [F_drov_dopen, F_drov_droom, s_dopen, s_droom, Tree.holds, ltI_t, ltI_f, leI_t, leI_f, all_cons, all_nil, and_true, true_and, forall_eq, decide_eq_true_eq, decide_eq_false_iff_not, beq_iff_eq, beq_eq_false_iff_ne, bne_iff_ne, bne_eq_false_iff_eq, ne_eq, Decidable.not_not, selI_z, selB_z, selS_z, selN_z, selL_z, selI_s, selB_s, selS_s, selN_s, selL_s, Int.toNat_natCast, Nat.mul_one, Nat.zero_add, Nat.div_one, List.drop_zero, Nat.zero_mul, Nat.le_refl, Bool.not_eq_true', Bool.not_eq_false', Bool.false_eq_true, Bool.true_eq_false, not_true_eq_false, not_false_eq_true, false_imp_iff, true_imp_iff, if_true, if_false, sig, sigF, sigW, sigR, sigO, sigD, sigWD, List.map_cons, List.map_nil]
  refine ⟨hb, ?_⟩
  rintro ys ⟨L, hL, rfl⟩
  simp only [F_drov_dopen, F_drov_droom, s_dopen, s_droom, Tree.holds, ltI_t, ltI_f, leI_t, leI_f, all_cons, all_nil, and_true, true_and, forall_eq, decide_eq_true_eq, decide_eq_false_iff_not, beq_iff_eq, beq_eq_false_iff_ne, bne_iff_ne, bne_eq_false_iff_eq, ne_eq, Decidable.not_not, selI_z, selB_z, selS_z, selN_z, selL_z, selI_s, selB_s, selS_s, selN_s, selL_s, Int.toNat_natCast, Nat.mul_one, Nat.zero_add, Nat.div_one, List.drop_zero, Nat.zero_mul, Nat.le_refl, Bool.not_eq_true', Bool.not_eq_false', Bool.false_eq_true, Bool.true_eq_false, not_true_eq_false, not_false_eq_true, false_imp_iff, true_imp_iff, if_true, if_false, sig, sigF, sigW, sigR, sigO, sigD, sigWD, List.map_cons, List.map_nil]
  refine ⟨⟨rd_in hL (by omega) (by omega), by omega, by omega⟩, ?_⟩
  rintro ys ⟨p1, rs, rfl, q1, q2, r, rfl, hr⟩
  simp only [F_drov_dopen, F_drov_droom, s_dopen, s_droom, Tree.holds, ltI_t, ltI_f, leI_t, leI_f, all_cons, all_nil, and_true, true_and, forall_eq, decide_eq_true_eq, decide_eq_false_iff_not, beq_iff_eq, beq_eq_false_iff_ne, bne_iff_ne, bne_eq_false_iff_eq, ne_eq, Decidable.not_not, selI_z, selB_z, selS_z, selN_z, selL_z, selI_s, selB_s, selS_s, selN_s, selL_s, Int.toNat_natCast, Nat.mul_one, Nat.zero_add, Nat.div_one, List.drop_zero, Nat.zero_mul, Nat.le_refl, Bool.not_eq_true', Bool.not_eq_false', Bool.false_eq_true, Bool.true_eq_false, not_true_eq_false, not_false_eq_true, false_imp_iff, true_imp_iff, if_true, if_false, sig, sigF, sigW, sigR, sigO, sigD, sigWD, List.map_cons, List.map_nil, rdB_z, roomD, textsD_take, textsD_len]
  first | exact ⟨by omega, r, rfl, hr⟩ | exact ⟨r, rfl, hr⟩
theorem ok_dent : FnOk Try.prog 18 s_dent := by
  refine fnOk (fn := Try.f18) (F := F_dent) (hs := hs_dent) (tab_cons ok_dopen (tab_cons ok_droom (tab_cons ok_dwordn (tab_cons ok_dpick tab_nil)))) mixed rfl rfl rfl [.list 5] (by kernel_rfl) (by simp) ?_
  intro m bl hb
  refine ⟨fun h ys => False, fun h ys => 0, ?_, fun _ _ h => h.elim⟩
  rw [t_dent]
  simp only [F_dent_dopen, F_dent_droom, F_dent_dwordn, F_dent_dpick, s_dopen, s_droom, s_dwordn, s_dpick, Tree.holds, ltI_t, ltI_f, leI_t, leI_f, all_cons, all_nil, and_true, true_and, forall_eq, decide_eq_true_eq, decide_eq_false_iff_not, beq_iff_eq, beq_eq_false_iff_ne, bne_iff_ne, bne_eq_false_iff_eq, ne_eq, Decidable.not_not, selI_z, selB_z, selS_z, selN_z, selL_z, selI_s, selB_s, selS_s, selN_s, selL_s, Int.toNat_natCast, Nat.mul_one, Nat.zero_add, Nat.div_one, List.drop_zero, Nat.zero_mul, Nat.le_refl, Bool.not_eq_true', Bool.not_eq_false', Bool.false_eq_true, Bool.true_eq_false, not_true_eq_false, not_false_eq_true, false_imp_iff, true_imp_iff, if_true, if_false, sig, sigF, sigW, sigR, sigO, sigD, sigWD, List.map_cons, List.map_nil]
  refine ⟨hb, ?_⟩
  rintro ys ⟨L, hL, rfl⟩
  simp only [F_dent_dopen, F_dent_droom, F_dent_dwordn, F_dent_dpick, s_dopen, s_droom, s_dwordn, s_dpick, Tree.holds, ltI_t, ltI_f, leI_t, leI_f, all_cons, all_nil, and_true, true_and, forall_eq, decide_eq_true_eq, decide_eq_false_iff_not, beq_iff_eq, beq_eq_false_iff_ne, bne_iff_ne, bne_eq_false_iff_eq, ne_eq, Decidable.not_not, selI_z, selB_z, selS_z, selN_z, selL_z, selI_s, selB_s, selS_s, selN_s, selL_s, Int.toNat_natCast, Nat.mul_one, Nat.zero_add, Nat.div_one, List.drop_zero, Nat.zero_mul, Nat.le_refl, Bool.not_eq_true', Bool.not_eq_false', Bool.false_eq_true, Bool.true_eq_false, not_true_eq_false, not_false_eq_true, false_imp_iff, true_imp_iff, if_true, if_false, sig, sigF, sigW, sigR, sigO, sigD, sigWD, List.map_cons, List.map_nil]
  refine ⟨⟨rd_in hL (by omega) (by omega), by omega, by omega⟩, ?_⟩
  rintro ys ⟨p1, rs, rfl, q1, q2, r, rfl, hr⟩
  rw [rdN_z] at q1 q2
  simp only [F_dent_dopen, F_dent_droom, F_dent_dwordn, F_dent_dpick, s_dopen, s_droom, s_dwordn, s_dpick, Tree.holds, ltI_t, ltI_f, leI_t, leI_f, all_cons, all_nil, and_true, true_and, forall_eq, decide_eq_true_eq, decide_eq_false_iff_not, beq_iff_eq, beq_eq_false_iff_ne, bne_iff_ne, bne_eq_false_iff_eq, ne_eq, Decidable.not_not, selI_z, selB_z, selS_z, selN_z, selL_z, selI_s, selB_s, selS_s, selN_s, selL_s, Int.toNat_natCast, Nat.mul_one, Nat.zero_add, Nat.div_one, List.drop_zero, Nat.zero_mul, Nat.le_refl, Bool.not_eq_true', Bool.not_eq_false', Bool.false_eq_true, Bool.true_eq_false, not_true_eq_false, not_false_eq_true, false_imp_iff, true_imp_iff, if_true, if_false, sig, sigF, sigW, sigR, sigO, sigD, sigWD, List.map_cons, List.map_nil, rdB_z, roomD]
  refine ⟨⟨rd_in hL (by omega) (by omega), by omega, by omega⟩, ?_⟩
  rintro ys ⟨p2, rs, rfl, q3, q4, w, rfl, hw⟩
  rw [rdN_z] at q3 q4
  simp only [F_dent_dopen, F_dent_droom, F_dent_dwordn, F_dent_dpick, s_dopen, s_droom, s_dwordn, s_dpick, Tree.holds, ltI_t, ltI_f, leI_t, leI_f, all_cons, all_nil, and_true, true_and, forall_eq, decide_eq_true_eq, decide_eq_false_iff_not, beq_iff_eq, beq_eq_false_iff_ne, bne_iff_ne, bne_eq_false_iff_eq, ne_eq, Decidable.not_not, selI_z, selB_z, selS_z, selN_z, selL_z, selI_s, selB_s, selS_s, selN_s, selL_s, Int.toNat_natCast, Nat.mul_one, Nat.zero_add, Nat.div_one, List.drop_zero, Nat.zero_mul, Nat.le_refl, Bool.not_eq_true', Bool.not_eq_false', Bool.false_eq_true, Bool.true_eq_false, not_true_eq_false, not_false_eq_true, false_imp_iff, true_imp_iff, if_true, if_false, sig, sigF, sigW, sigR, sigO, sigD, sigWD, List.map_cons, List.map_nil, rdB_z]
  refine ⟨⟨rd_in hL (by omega) (by omega), by omega, by omega⟩, ?_⟩
  rintro ys ⟨p3, rs, rfl, p3a, p3b, x, rfl, x0, x1⟩
  rw [rdN_z] at p3a p3b
  have x1 : x < 3 := x1
  try simp only [F_dent_dopen, F_dent_droom, F_dent_dwordn, F_dent_dpick, s_dopen, s_droom, s_dwordn, s_dpick, Tree.holds, ltI_t, ltI_f, leI_t, leI_f, all_cons, all_nil, and_true, true_and, forall_eq, decide_eq_true_eq, decide_eq_false_iff_not, beq_iff_eq, beq_eq_false_iff_ne, bne_iff_ne, bne_eq_false_iff_eq, ne_eq, Decidable.not_not, selI_z, selB_z, selS_z, selN_z, selL_z, selI_s, selB_s, selS_s, selN_s, selL_s, Int.toNat_natCast, Nat.mul_one, Nat.zero_add, Nat.div_one, List.drop_zero, Nat.zero_mul, Nat.le_refl, Bool.not_eq_true', Bool.not_eq_false', Bool.false_eq_true, Bool.true_eq_false, not_true_eq_false, not_false_eq_true, false_imp_iff, true_imp_iff, if_true, if_false, sig, sigF, sigW, sigR, sigO, sigD, sigWD, List.map_cons, List.map_nil, rdB_z]
  have v : ∀ z : Int, z = r.s ∨ z = 42 ∨ z = 0 → True := fun _ _ => trivial
  refine ⟨⟨by omega, by omega⟩, ?_, ?_⟩
  · have hx : x = 0 ∨ x = 1 ∨ x = 2 := by omega
    rcases hx with rfl | rfl | rfl <;> rfl
  refine ⟨⟨rd_in hL (by omega) (by omega), by omega, by omega⟩, ?_⟩
  rintro ys ⟨p4, rs, rfl, p4a, p4b, y, rfl, y0, y1⟩
  rw [rdN_z] at p4a p4b
  have y1 : y < 9 := y1
  try simp only [F_dent_dopen, F_dent_droom, F_dent_dwordn, F_dent_dpick, s_dopen, s_droom, s_dwordn, s_dpick, Tree.holds, ltI_t, ltI_f, leI_t, leI_f, all_cons, all_nil, and_true, true_and, forall_eq, decide_eq_true_eq, decide_eq_false_iff_not, beq_iff_eq, beq_eq_false_iff_ne, bne_iff_ne, bne_eq_false_iff_eq, ne_eq, Decidable.not_not, selI_z, selB_z, selS_z, selN_z, selL_z, selI_s, selB_s, selS_s, selN_s, selL_s, Int.toNat_natCast, Nat.mul_one, Nat.zero_add, Nat.div_one, List.drop_zero, Nat.zero_mul, Nat.le_refl, Bool.not_eq_true', Bool.not_eq_false', Bool.false_eq_true, Bool.true_eq_false, not_true_eq_false, not_false_eq_true, false_imp_iff, true_imp_iff, if_true, if_false, sig, sigF, sigW, sigR, sigO, sigD, sigWD, List.map_cons, List.map_nil, rdB_z]
  refine ⟨⟨rd_in hL (by omega) (by omega), by omega, by omega⟩, ?_⟩
  rintro ys ⟨p5, rs, rfl, p5a, p5b, z, rfl, z0, z1⟩
  rw [rdN_z] at p5a p5b
  have z1 : z < 14 := z1
  try simp only [F_dent_dopen, F_dent_droom, F_dent_dwordn, F_dent_dpick, s_dopen, s_droom, s_dwordn, s_dpick, Tree.holds, ltI_t, ltI_f, leI_t, leI_f, all_cons, all_nil, and_true, true_and, forall_eq, decide_eq_true_eq, decide_eq_false_iff_not, beq_iff_eq, beq_eq_false_iff_ne, bne_iff_ne, bne_eq_false_iff_eq, ne_eq, Decidable.not_not, selI_z, selB_z, selS_z, selN_z, selL_z, selI_s, selB_s, selS_s, selN_s, selL_s, Int.toNat_natCast, Nat.mul_one, Nat.zero_add, Nat.div_one, List.drop_zero, Nat.zero_mul, Nat.le_refl, Bool.not_eq_true', Bool.not_eq_false', Bool.false_eq_true, Bool.true_eq_false, not_true_eq_false, not_false_eq_true, false_imp_iff, true_imp_iff, if_true, if_false, sig, sigF, sigW, sigR, sigO, sigD, sigWD, List.map_cons, List.map_nil, rdB_z]
  have e : z.tdiv 13 = z / 13 := Int.tdiv_eq_ediv_of_nonneg z0
  rw [e]
  simp only [textsD_take, textsD_len]
  exact ⟨⟨by omega, by unfold inK; omega⟩, by unfold inK; omega, by omega, r, w, _, _, rfl, hr, hw, by omega, by omega⟩
theorem ok_dadm : FnOk Try.prog 24 s_dadm := by
  refine fnOk (fn := Try.f24) (F := F_dadm) (hs := hs_dadm) (tab_cons ok_dopen (tab_cons ok_droom tab_nil)) mixed rfl rfl rfl [.list 5] (by kernel_rfl) (by simp) ?_
  intro m bl hb
  refine ⟨fun h ys => False, fun h ys => 0, ?_, fun _ _ h => h.elim⟩
  rw [t_dadm]
  simp only [F_dadm_dopen, F_dadm_droom, s_dopen, s_droom, Tree.holds, ltI_t, ltI_f, leI_t, leI_f, all_cons, all_nil, and_true, true_and, forall_eq, decide_eq_true_eq, decide_eq_false_iff_not, beq_iff_eq, beq_eq_false_iff_ne, bne_iff_ne, bne_eq_false_iff_eq, ne_eq, Decidable.not_not, selI_z, selB_z, selS_z, selN_z, selL_z, selI_s, selB_s, selS_s, selN_s, selL_s, Int.toNat_natCast, Nat.mul_one, Nat.zero_add, Nat.div_one, List.drop_zero, Nat.zero_mul, Nat.le_refl, Bool.not_eq_true', Bool.not_eq_false', Bool.false_eq_true, Bool.true_eq_false, not_true_eq_false, not_false_eq_true, false_imp_iff, true_imp_iff, if_true, if_false, sig, sigF, sigW, sigR, sigO, sigD, sigWD, List.map_cons, List.map_nil]
  refine ⟨hb, ?_⟩
  rintro ys ⟨L, hL, rfl⟩
  simp only [F_dadm_dopen, F_dadm_droom, s_dopen, s_droom, Tree.holds, ltI_t, ltI_f, leI_t, leI_f, all_cons, all_nil, and_true, true_and, forall_eq, decide_eq_true_eq, decide_eq_false_iff_not, beq_iff_eq, beq_eq_false_iff_ne, bne_iff_ne, bne_eq_false_iff_eq, ne_eq, Decidable.not_not, selI_z, selB_z, selS_z, selN_z, selL_z, selI_s, selB_s, selS_s, selN_s, selL_s, Int.toNat_natCast, Nat.mul_one, Nat.zero_add, Nat.div_one, List.drop_zero, Nat.zero_mul, Nat.le_refl, Bool.not_eq_true', Bool.not_eq_false', Bool.false_eq_true, Bool.true_eq_false, not_true_eq_false, not_false_eq_true, false_imp_iff, true_imp_iff, if_true, if_false, sig, sigF, sigW, sigR, sigO, sigD, sigWD, List.map_cons, List.map_nil]
  refine ⟨⟨rd_in hL (by omega) (by omega), by omega, by omega⟩, ?_⟩
  rintro ys ⟨p1, rs, rfl, q1, q2, r, rfl, hr⟩
  simp only [F_dadm_dopen, F_dadm_droom, s_dopen, s_droom, Tree.holds, ltI_t, ltI_f, leI_t, leI_f, all_cons, all_nil, and_true, true_and, forall_eq, decide_eq_true_eq, decide_eq_false_iff_not, beq_iff_eq, beq_eq_false_iff_ne, bne_iff_ne, bne_eq_false_iff_eq, ne_eq, Decidable.not_not, selI_z, selB_z, selS_z, selN_z, selL_z, selI_s, selB_s, selS_s, selN_s, selL_s, Int.toNat_natCast, Nat.mul_one, Nat.zero_add, Nat.div_one, List.drop_zero, Nat.zero_mul, Nat.le_refl, Bool.not_eq_true', Bool.not_eq_false', Bool.false_eq_true, Bool.true_eq_false, not_true_eq_false, not_false_eq_true, false_imp_iff, true_imp_iff, if_true, if_false, sig, sigF, sigW, sigR, sigO, sigD, sigWD, List.map_cons, List.map_nil, rdB_z, roomD, textsD_take, textsD_len]
  first | exact ⟨by omega, r, rfl, hr⟩ | exact ⟨r, rfl, hr⟩
theorem ok_dlock : FnOk Try.prog 28 s_dlock := by
  refine fnOk (fn := Try.f28) (F := F_dlock) (hs := hs_dlock) (tab_cons ok_dopen (tab_cons ok_droom (tab_cons ok_dpick tab_nil))) mixed rfl rfl rfl [.list 5] (by kernel_rfl) (by simp) ?_
  intro m bl hb
  refine ⟨fun h ys => False, fun h ys => 0, ?_, fun _ _ h => h.elim⟩
  rw [t_dlock]
  simp only [F_dlock_dopen, F_dlock_droom, F_dlock_dpick, s_dopen, s_droom, s_dpick, Tree.holds, ltI_t, ltI_f, leI_t, leI_f, all_cons, all_nil, and_true, true_and, forall_eq, decide_eq_true_eq, decide_eq_false_iff_not, beq_iff_eq, beq_eq_false_iff_ne, bne_iff_ne, bne_eq_false_iff_eq, ne_eq, Decidable.not_not, selI_z, selB_z, selS_z, selN_z, selL_z, selI_s, selB_s, selS_s, selN_s, selL_s, Int.toNat_natCast, Nat.mul_one, Nat.zero_add, Nat.div_one, List.drop_zero, Nat.zero_mul, Nat.le_refl, Bool.not_eq_true', Bool.not_eq_false', Bool.false_eq_true, Bool.true_eq_false, not_true_eq_false, not_false_eq_true, false_imp_iff, true_imp_iff, if_true, if_false, sig, sigF, sigW, sigR, sigO, sigD, sigWD, List.map_cons, List.map_nil]
  refine ⟨hb, ?_⟩
  rintro ys ⟨L, hL, rfl⟩
  simp only [F_dlock_dopen, F_dlock_droom, F_dlock_dpick, s_dopen, s_droom, s_dpick, Tree.holds, ltI_t, ltI_f, leI_t, leI_f, all_cons, all_nil, and_true, true_and, forall_eq, decide_eq_true_eq, decide_eq_false_iff_not, beq_iff_eq, beq_eq_false_iff_ne, bne_iff_ne, bne_eq_false_iff_eq, ne_eq, Decidable.not_not, selI_z, selB_z, selS_z, selN_z, selL_z, selI_s, selB_s, selS_s, selN_s, selL_s, Int.toNat_natCast, Nat.mul_one, Nat.zero_add, Nat.div_one, List.drop_zero, Nat.zero_mul, Nat.le_refl, Bool.not_eq_true', Bool.not_eq_false', Bool.false_eq_true, Bool.true_eq_false, not_true_eq_false, not_false_eq_true, false_imp_iff, true_imp_iff, if_true, if_false, sig, sigF, sigW, sigR, sigO, sigD, sigWD, List.map_cons, List.map_nil]
  refine ⟨⟨rd_in hL (by omega) (by omega), by omega, by omega⟩, ?_⟩
  rintro ys ⟨p1, rs, rfl, q1, q2, r, rfl, hr⟩
  rw [rdN_z] at q1 q2
  simp only [F_dlock_dopen, F_dlock_droom, F_dlock_dpick, s_dopen, s_droom, s_dpick, Tree.holds, ltI_t, ltI_f, leI_t, leI_f, all_cons, all_nil, and_true, true_and, forall_eq, decide_eq_true_eq, decide_eq_false_iff_not, beq_iff_eq, beq_eq_false_iff_ne, bne_iff_ne, bne_eq_false_iff_eq, ne_eq, Decidable.not_not, selI_z, selB_z, selS_z, selN_z, selL_z, selI_s, selB_s, selS_s, selN_s, selL_s, Int.toNat_natCast, Nat.mul_one, Nat.zero_add, Nat.div_one, List.drop_zero, Nat.zero_mul, Nat.le_refl, Bool.not_eq_true', Bool.not_eq_false', Bool.false_eq_true, Bool.true_eq_false, not_true_eq_false, not_false_eq_true, false_imp_iff, true_imp_iff, if_true, if_false, sig, sigF, sigW, sigR, sigO, sigD, sigWD, List.map_cons, List.map_nil, rdB_z, roomD]
  refine ⟨⟨rd_in hL (by omega) (by omega), by omega, by omega⟩, ?_⟩
  rintro ys ⟨p2, rs, rfl, p2a, p2b, x, rfl, x0, x1⟩
  rw [rdN_z] at p2a p2b
  have x1 : x < 2 := x1
  try simp only [F_dlock_dopen, F_dlock_droom, F_dlock_dpick, s_dopen, s_droom, s_dpick, Tree.holds, ltI_t, ltI_f, leI_t, leI_f, all_cons, all_nil, and_true, true_and, forall_eq, decide_eq_true_eq, decide_eq_false_iff_not, beq_iff_eq, beq_eq_false_iff_ne, bne_iff_ne, bne_eq_false_iff_eq, ne_eq, Decidable.not_not, selI_z, selB_z, selS_z, selN_z, selL_z, selI_s, selB_s, selS_s, selN_s, selL_s, Int.toNat_natCast, Nat.mul_one, Nat.zero_add, Nat.div_one, List.drop_zero, Nat.zero_mul, Nat.le_refl, Bool.not_eq_true', Bool.not_eq_false', Bool.false_eq_true, Bool.true_eq_false, not_true_eq_false, not_false_eq_true, false_imp_iff, true_imp_iff, if_true, if_false, sig, sigF, sigW, sigR, sigO, sigD, sigWD, List.map_cons, List.map_nil, rdB_z]
  simp only [textsD_take, textsD_len]
  first | exact ⟨by omega, r, _, rfl, hr⟩ | exact ⟨r, _, rfl, hr⟩
end Go.Proofs.Ytcnmpghenfbflaa.Mini
end
