/- Parts of the proof: RoomXP. -/
import Derived.Test.YtcnmpghenfbflaaGeRoomX
section
namespace Go.Proofs.Ytcnmpghenfbflaa.Mini
open Go Go.RowKit
set_option linter.unusedVariables false
set_option linter.unusedSimpArgs false
set_option maxRecDepth 20000
theorem smRm_max {r : Rm} (h : smRm r) : ∀ x ∈ r.l, x.size ≤ maxLen := fun x hx => m20 (h.2.2 x hx)
theorem ok_toroom : FnOk Try.prog 16 s_toroom := by
  refine fnOk (fn := Try.f16) (F := F_toroom) (hs := hs_toroom) (tab_cons ok_tostr tab_nil) mixed rfl rfl rfl [.str, .int .i64, .int .i64, .bool, .list 9] (by kernel_rfl) (by simp) ?_
  rintro w0 s m k n0 cs ⟨r, e, hm⟩
  obtain ⟨rw, rs, rm, rk, rl⟩ := r
  simp only [roomD, List.cons_append, List.nil_append, List.cons.injEq, D.str.injEq, D.int.injEq, D.bool.injEq, D.list.injEq, true_and, and_true] at e
  obtain ⟨rfl, rfl, rfl, rfl, rfl, rfl⟩ := e
  refine ⟨fun _ _ => False, fun _ _ => 0, ?_, fun _ _ h => h.elim⟩
  rw [t_toroom]
  have hu : unRm [.str w0, .int .i64 s, .int .i64 m, .bool k, .list 9 rl.length (textsD rl)] = ⟨w0, s, m, k, rl⟩ := unRm_one ⟨w0, s, m, k, rl⟩
  have ok := okC_texts (smRm_max hm)
  have h2 : rl.length ≤ 1048576 := hm.2.1
  simp only [F_toroom_tostr, s_tostr, Tree.holds, ltI_t, ltI_f, leI_t, leI_f, all_cons, all_nil, and_true, true_and, forall_eq, decide_eq_true_eq, decide_eq_false_iff_not, beq_iff_eq, beq_eq_false_iff_ne, bne_iff_ne, bne_eq_false_iff_eq, ne_eq, Decidable.not_not, selI_z, selB_z, selS_z, selN_z, selL_z, selI_s, selB_s, selS_s, selN_s, selL_s, Int.toNat_natCast, Nat.mul_one, Nat.zero_add, Nat.div_one, List.drop_zero, Nat.zero_mul, Nat.le_refl, Bool.not_eq_true', Bool.not_eq_false', Bool.false_eq_true, Bool.true_eq_false, not_true_eq_false, not_false_eq_true, false_imp_iff, true_imp_iff, if_true, if_false, sig, sigF, sigW, sigR, sigO, sigD, sigWD, List.map_cons, List.map_nil, hu]
  have tl := textsD_len rl
  rw [textsD_take]
  exact ⟨⟨ok, by omega⟩, ⟨by omega, textsD_scal _⟩, rfl⟩
theorem ok_szroom : FnOk Try.prog 15 s_szroom := by
  refine fnOk (fn := Try.f15) (F := F_szroom) (hs := hs_szroom) (tab_cons ok_szstr tab_nil) mixed rfl rfl rfl [.str, .int .i64, .int .i64, .bool, .list 9, .int .i64] (by kernel_rfl) (by simp) ?_
  rintro w0 s m k n0 cs a ⟨r, a', e, hw, a0, a1⟩
  obtain ⟨rw, rs, rm, rk, rl⟩ := r
  simp only [roomD, List.cons_append, List.nil_append, List.cons.injEq, D.str.injEq, D.int.injEq, D.bool.injEq, D.list.injEq, true_and, and_true] at e
  obtain ⟨rfl, rfl, rfl, rfl, ⟨rfl, rfl⟩, rfl⟩ := e
  refine ⟨fun _ _ => False, fun _ _ => 0, ?_, fun _ _ h => h.elim⟩
  rw [t_szroom]
  have hu : unRm [.str w0, .int .i64 s, .int .i64 m, .bool k, .list 9 rl.length (textsD rl), .int .i64 a] = ⟨w0, s, m, k, rl⟩ := unRm_room ⟨w0, s, m, k, rl⟩ _
  obtain ⟨h1, h2, h3⟩ := hw
  have h1 : w0.size ≤ maxLen := h1
  have h2 : rl.length ≤ maxLen := h2
  have ok := okC_texts h3
  have ok : okC [.str] rl.length (textsD rl) := ok
  simp only [F_szroom_szstr, s_szstr, Tree.holds, ltI_t, ltI_f, leI_t, leI_f, all_cons, all_nil, and_true, true_and, forall_eq, decide_eq_true_eq, decide_eq_false_iff_not, beq_iff_eq, beq_eq_false_iff_ne, bne_iff_ne, bne_eq_false_iff_eq, ne_eq, Decidable.not_not, selI_z, selB_z, selS_z, selN_z, selL_z, selI_s, selB_s, selS_s, selN_s, selL_s, Int.toNat_natCast, Nat.mul_one, Nat.zero_add, Nat.div_one, List.drop_zero, Nat.zero_mul, Nat.le_refl, Bool.not_eq_true', Bool.not_eq_false', Bool.false_eq_true, Bool.true_eq_false, not_true_eq_false, not_false_eq_true, false_imp_iff, true_imp_iff, if_true, if_false, sig, sigF, sigW, sigR, sigO, sigD, sigWD, List.map_cons, List.map_nil, hu]
  have hx := h2
  unfold maxLen at h1 h2
  refine ⟨by unfold inK; omega, fun h => ⟨-1, rfl, by omega, by omega, fun h => by omega⟩, fun h => ⟨⟨ok, hx, by omega, by omega⟩, ?_⟩⟩
  rintro ys ⟨v, rfl, v0, v1, v2⟩
  simp only [F_szroom_szstr, s_szstr, Tree.holds, ltI_t, ltI_f, leI_t, leI_f, all_cons, all_nil, and_true, true_and, forall_eq, decide_eq_true_eq, decide_eq_false_iff_not, beq_iff_eq, beq_eq_false_iff_ne, bne_iff_ne, bne_eq_false_iff_eq, ne_eq, Decidable.not_not, selI_z, selB_z, selS_z, selN_z, selL_z, selI_s, selB_s, selS_s, selN_s, selL_s, Int.toNat_natCast, Nat.mul_one, Nat.zero_add, Nat.div_one, List.drop_zero, Nat.zero_mul, Nat.le_refl, Bool.not_eq_true', Bool.not_eq_false', Bool.false_eq_true, Bool.true_eq_false, not_true_eq_false, not_false_eq_true, false_imp_iff, true_imp_iff, if_true, if_false, sig, sigF, sigW, sigR, sigO, sigD, sigWD, List.map_cons, List.map_nil]
  refine ⟨fun h => ⟨-1, rfl, by omega, by omega, fun h => by omega⟩, fun h => ⟨v, rfl, by omega, by omega, fun hv ha => ?_⟩⟩
  obtain ⟨q1, q2⟩ := v2 hv
  refine ⟨by show w0.size ≤ _; omega, by show rl.length ≤ _; omega, fun x hx => ?_⟩
  obtain ⟨j, hj, rfl⟩ := List.getElem_of_mem (show x ∈ rl from hx)
  have := q2 _ _ (textsD_at (List.getElem?_eq_getElem hj))
  omega
theorem ok_eqroom : FnOk Try.prog 17 s_eqroom := by
  refine fnOk (fn := Try.f17) (F := F_eqroom) (hs := hs_eqroom) (tab_cons ok_eqstr tab_nil) mixed rfl rfl rfl [.str, .int .i64, .int .i64, .bool, .list 9, .str, .int .i64, .int .i64, .bool, .list 9] (by kernel_rfl) (by simp) ?_
  rintro w0 s m k n0 cs w1 s1 m1 k1 n1 cs1 ⟨r, e, h2, h3⟩
  obtain ⟨rw, rs, rm, rk, rl⟩ := r
  simp only [roomD, List.cons_append, List.nil_append, List.cons.injEq, D.str.injEq, D.int.injEq, D.bool.injEq, D.list.injEq, true_and, and_true] at e
  obtain ⟨rfl, rfl, rfl, rfl, ⟨rfl, rfl⟩, rfl, rfl, rfl, rfl, rfl, rfl⟩ := e
  refine ⟨fun _ _ => False, fun _ _ => 0, ?_, fun _ _ h => h.elim⟩
  rw [t_eqroom]
  have h2 : rl.length ≤ 1048577 := h2
  have ok : okC [.str] rl.length (textsD rl) := okC_texts h3
  simp only [F_eqroom_eqstr, s_eqstr, Tree.holds, ltI_t, ltI_f, leI_t, leI_f, all_cons, all_nil, and_true, true_and, forall_eq, decide_eq_true_eq, decide_eq_false_iff_not, beq_iff_eq, beq_eq_false_iff_ne, bne_iff_ne, bne_eq_false_iff_eq, ne_eq, Decidable.not_not, selI_z, selB_z, selS_z, selN_z, selL_z, selI_s, selB_s, selS_s, selN_s, selL_s, Int.toNat_natCast, Nat.mul_one, Nat.zero_add, Nat.div_one, List.drop_zero, Nat.zero_mul, Nat.le_refl, Bool.not_eq_true', Bool.not_eq_false', Bool.false_eq_true, Bool.true_eq_false, not_true_eq_false, not_false_eq_true, false_imp_iff, true_imp_iff, if_true, if_false, sig, sigF, sigW, sigR, sigO, sigD, sigWD, List.map_cons, List.map_nil]
  exact ⟨ok, by unfold maxLen; omega⟩
theorem ok_markroom : FnOk Try.prog 22 s_markroom := by
  refine fnOkW (fn := Try.f22) (F := F_markroom) (hs := hs_markroom) (tab_cons ok_markstr tab_nil) mixed rfl rfl rfl [.str, .int .i64, .int .i64, .bool, .list 9, .int .i64] [.int .i64] (by kernel_rfl) (by kernel_rfl) (by simp [hs_markroom, shapeW, lists]) ?_
  rintro w0 s m k n0 cs a ⟨r, a', e, a0, a1, h3⟩
  obtain ⟨rw, rs, rm, rk, rl⟩ := r
  simp only [roomD, List.cons_append, List.nil_append, List.cons.injEq, D.str.injEq, D.int.injEq, D.bool.injEq, D.list.injEq, true_and, and_true] at e
  obtain ⟨rfl, rfl, rfl, rfl, ⟨rfl, rfl⟩, rfl⟩ := e
  have ok : okC [.str] rl.length (textsD rl) := okC_texts h3
  have a1 : a + rl.length ≤ 900000000000000 := a1
  have tl := textsD_len rl
  refine ⟨?_, fun _ _ => False, fun _ _ => 0, ?_, fun _ _ h => h.elim⟩
  · intro yz h
    rw [h]
    exact ⟨rfl, trivial⟩
  · rw [t_markroom]
    simp only [F_markroom_markstr, s_markstr, Tree.holds, ltI_t, ltI_f, leI_t, leI_f, all_cons, all_nil, and_true, true_and, forall_eq, decide_eq_true_eq, decide_eq_false_iff_not, beq_iff_eq, beq_eq_false_iff_ne, bne_iff_ne, bne_eq_false_iff_eq, ne_eq, Decidable.not_not, selI_z, selB_z, selS_z, selN_z, selL_z, selI_s, selB_s, selS_s, selN_s, selL_s, Int.toNat_natCast, Nat.mul_one, Nat.zero_add, Nat.div_one, List.drop_zero, Nat.zero_mul, Nat.le_refl, Bool.not_eq_true', Bool.not_eq_false', Bool.false_eq_true, Bool.true_eq_false, not_true_eq_false, not_false_eq_true, false_imp_iff, true_imp_iff, if_true, if_false, sig, sigF, sigW, sigR, sigO, sigD, sigWD, List.map_cons, List.map_nil]
    refine ⟨⟨by omega, textsD_scal _⟩, ⟨ok, by omega, by omega⟩, ?_⟩
    have e1 := mks_len [.str] a.toNat (rl.length * 1)
    refine ⟨mks_scal rfl _ _, ?_⟩
    rw [mks_len, Int.mul_one]
theorem ok_heldroom : FnOk Try.prog 23 s_heldroom := by
  refine fnOk (fn := Try.f23) (F := F_heldroom) (hs := hs_heldroom) (tab_cons ok_heldstr tab_nil) mixed rfl rfl rfl [.str, .int .i64, .int .i64, .bool, .list 9, .int .i64] (by kernel_rfl) (by simp) ?_
  rintro w0 s m k n0 cs a ⟨h1, a0, a1⟩
  refine ⟨fun _ _ => False, fun _ _ => 0, ?_, fun _ _ h => h.elim⟩
  rw [t_heldroom]
  have h1 : cs = mks [.str] a.toNat (n0 * 1) := h1
  have a0 : 1 ≤ a := a0
  have a1 : a + (n0 : Int) * 1 ≤ 900000000000000 := a1
  subst h1
  simp only [F_heldroom_heldstr, s_heldstr, Tree.holds, ltI_t, ltI_f, leI_t, leI_f, all_cons, all_nil, and_true, true_and, forall_eq, decide_eq_true_eq, decide_eq_false_iff_not, beq_iff_eq, beq_eq_false_iff_ne, bne_iff_ne, bne_eq_false_iff_eq, ne_eq, Decidable.not_not, selI_z, selB_z, selS_z, selN_z, selL_z, selI_s, selB_s, selS_s, selN_s, selL_s, Int.toNat_natCast, Nat.mul_one, Nat.zero_add, Nat.div_one, List.drop_zero, Nat.zero_mul, Nat.le_refl, Bool.not_eq_true', Bool.not_eq_false', Bool.false_eq_true, Bool.true_eq_false, not_true_eq_false, not_false_eq_true, false_imp_iff, true_imp_iff, if_true, if_false, sig, sigF, sigW, sigR, sigO, sigD, sigWD, List.map_cons, List.map_nil]
  exact ⟨⟨by omega, by omega⟩, fun h => absurd h (by omega), fun _ => by rw [Int.mul_one]⟩
theorem ok_erov : FnOk Try.prog 4 s_erov := by
  refine fnOk (fn := Try.f4) (F := F_erov) (hs := hs_erov) (tab_cons ok_szroom (tab_cons ok_toroom (tab_cons ok_srov (tab_cons ok_irov (tab_cons ok_eqroom tab_nil))))) mixed rfl rfl rfl [.str, .int .i64, .int .i64, .bool, .list 9] (by kernel_rfl) (by simp) ?_
  intro w0 s m k n cs hw
  obtain ⟨⟨_, e0, a0⟩, -, -, -, a4, -⟩ := hw
  injection e0 with e0
  subst e0
  obtain ⟨rl, e, hl, hm⟩ := wf_texts a4
  simp only [D.list.injEq, true_and] at e
  obtain ⟨rfl, rfl⟩ := e
  refine ⟨fun h ys => False, fun h ys => 0, ?_, fun _ _ h => h.elim⟩
  rw [t_erov]
  have hu : unRm [.str w0, .int .i64 s, .int .i64 m, .bool k, .list 9 rl.length (textsD rl)] = ⟨w0, s, m, k, rl⟩ := unRm_one ⟨w0, s, m, k, rl⟩
  have hu6 : unRm [.str w0, .int .i64 s, .int .i64 m, .bool k, .list 9 rl.length (textsD rl), .int .i64 1048576] = ⟨w0, s, m, k, rl⟩ := unRm_room ⟨w0, s, m, k, rl⟩ _
  have wf : wfRm ⟨w0, s, m, k, rl⟩ := ⟨a0, hl, hm⟩
  have Z : ∃ (r : Rm) (a : Int), [D.str w0, .int .i64 s, .int .i64 m, .bool k, .list 9 rl.length (textsD rl), .int .i64 1048576] = roomD r ++ [.int .i64 a] ∧ wfRm r ∧ -1 ≤ a ∧ a ≤ 2147483647 := ⟨⟨w0, s, m, k, rl⟩, 1048576, rfl, wf, by omega, by omega⟩
  simp only [F_erov_szroom, F_erov_toroom, F_erov_srov, F_erov_irov, F_erov_eqroom, s_szroom, s_toroom, s_srov, s_irov, s_eqroom, Tree.holds, ltI_t, ltI_f, leI_t, leI_f, all_cons, all_nil, and_true, true_and, forall_eq, decide_eq_true_eq, decide_eq_false_iff_not, beq_iff_eq, beq_eq_false_iff_ne, bne_iff_ne, bne_eq_false_iff_eq, ne_eq, Decidable.not_not, selI_z, selB_z, selS_z, selN_z, selL_z, selI_s, selB_s, selS_s, selN_s, selL_s, Int.toNat_natCast, Nat.mul_one, Nat.zero_add, Nat.div_one, List.drop_zero, Nat.zero_mul, Nat.le_refl, Bool.not_eq_true', Bool.not_eq_false', Bool.false_eq_true, Bool.true_eq_false, not_true_eq_false, not_false_eq_true, false_imp_iff, true_imp_iff, if_true, if_false, sig, sigF, sigW, sigR, sigO, sigD, sigWD, List.map_cons, List.map_nil, hu, hu6]
  refine ⟨Z, ?_⟩
  rintro ys ⟨v, rfl, v0, v1, v2⟩
  simp only [F_erov_szroom, F_erov_toroom, F_erov_srov, F_erov_irov, F_erov_eqroom, s_szroom, s_toroom, s_srov, s_irov, s_eqroom, Tree.holds, ltI_t, ltI_f, leI_t, leI_f, all_cons, all_nil, and_true, true_and, forall_eq, decide_eq_true_eq, decide_eq_false_iff_not, beq_iff_eq, beq_eq_false_iff_ne, bne_iff_ne, bne_eq_false_iff_eq, ne_eq, Decidable.not_not, selI_z, selB_z, selS_z, selN_z, selL_z, selI_s, selB_s, selS_s, selN_s, selL_s, Int.toNat_natCast, Nat.mul_one, Nat.zero_add, Nat.div_one, List.drop_zero, Nat.zero_mul, Nat.le_refl, Bool.not_eq_true', Bool.not_eq_false', Bool.false_eq_true, Bool.true_eq_false, not_true_eq_false, not_false_eq_true, false_imp_iff, true_imp_iff, if_true, if_false, sig, sigF, sigW, sigR, sigO, sigD, sigWD, List.map_cons, List.map_nil]
  refine ⟨fun _ => trivial, fun h => ?_⟩
  have sm := v2 (by omega) (by omega)
  have R1 : ∃ r : Rm, [D.str w0, .int .i64 s, .int .i64 m, .bool k, .list 9 rl.length (textsD rl)] = roomD r ∧ smRm r := ⟨⟨w0, s, m, k, rl⟩, rfl, sm⟩
  simp only [F_erov_szroom, F_erov_toroom, F_erov_srov, F_erov_irov, F_erov_eqroom, s_szroom, s_toroom, s_srov, s_irov, s_eqroom, Tree.holds, ltI_t, ltI_f, leI_t, leI_f, all_cons, all_nil, and_true, true_and, forall_eq, decide_eq_true_eq, decide_eq_false_iff_not, beq_iff_eq, beq_eq_false_iff_ne, bne_iff_ne, bne_eq_false_iff_eq, ne_eq, Decidable.not_not, selI_z, selB_z, selS_z, selN_z, selL_z, selI_s, selB_s, selS_s, selN_s, selL_s, Int.toNat_natCast, Nat.mul_one, Nat.zero_add, Nat.div_one, List.drop_zero, Nat.zero_mul, Nat.le_refl, Bool.not_eq_true', Bool.not_eq_false', Bool.false_eq_true, Bool.true_eq_false, not_true_eq_false, not_false_eq_true, false_imp_iff, true_imp_iff, if_true, if_false, sig, sigF, sigW, sigR, sigO, sigD, sigWD, List.map_cons, List.map_nil, hu, roomD, List.cons_append, List.nil_append, textsD_take, textsD_len, unRm_x, unS_texts]
  have h2 : rl.length ≤ 1048576 := sm.2.1
  repeat' (first | exact trivial | rfl | exact ⟨⟨w0, s, m, k, rl⟩, rfl, sm⟩ | exact ⟨⟨w0, s, m, k, rl⟩, rfl, (by show rl.length ≤ 1048577; omega), hm⟩ | omega | (intro h9; exact absurd trivial h9) | (intro _) | apply And.intro)
  all_goals trace_state
theorem ok_eadm : FnOk Try.prog 8 s_eadm := by
  refine fnOk (fn := Try.f8) (F := F_eadm) (hs := hs_eadm) (tab_cons ok_szroom (tab_cons ok_toroom (tab_cons ok_sadm (tab_cons ok_iadm (tab_cons ok_eqroom (tab_cons ok_markroom (tab_cons ok_heldroom tab_nil))))))) mixed rfl rfl rfl [.str, .int .i64, .int .i64, .bool, .list 9] (by kernel_rfl) (by simp) ?_
  intro w0 s m k n cs hw
  obtain ⟨⟨_, e0, a0⟩, -, -, -, a4, -⟩ := hw
  injection e0 with e0
  subst e0
  obtain ⟨rl, e, hl, hm⟩ := wf_texts a4
  simp only [D.list.injEq, true_and] at e
  obtain ⟨rfl, rfl⟩ := e
  refine ⟨fun h ys => False, fun h ys => 0, ?_, fun _ _ h => h.elim⟩
  rw [t_eadm]
  have hu : unRm [.str w0, .int .i64 s, .int .i64 m, .bool k, .list 9 rl.length (textsD rl)] = ⟨w0, s, m, k, rl⟩ := unRm_room ⟨w0, s, m, k, rl⟩ []
  have hu6 : unRm [.str w0, .int .i64 s, .int .i64 m, .bool k, .list 9 rl.length (textsD rl), .int .i64 1048576] = ⟨w0, s, m, k, rl⟩ := unRm_room ⟨w0, s, m, k, rl⟩ _
  have wf : wfRm ⟨w0, s, m, k, rl⟩ := ⟨a0, hl, hm⟩
  have Z : ∃ (r : Rm) (a : Int), [D.str w0, .int .i64 s, .int .i64 m, .bool k, .list 9 rl.length (textsD rl), .int .i64 1048576] = roomD r ++ [.int .i64 a] ∧ wfRm r ∧ -1 ≤ a ∧ a ≤ 2147483647 := ⟨⟨w0, s, m, k, rl⟩, 1048576, rfl, wf, by omega, by omega⟩
  simp only [F_eadm_szroom, F_eadm_toroom, F_eadm_sadm, F_eadm_iadm, F_eadm_eqroom, F_eadm_markroom, F_eadm_heldroom, s_szroom, s_toroom, s_sadm, s_iadm, s_eqroom, s_markroom, s_heldroom, Tree.holds, ltI_t, ltI_f, leI_t, leI_f, all_cons, all_nil, and_true, true_and, forall_eq, decide_eq_true_eq, decide_eq_false_iff_not, beq_iff_eq, beq_eq_false_iff_ne, bne_iff_ne, bne_eq_false_iff_eq, ne_eq, Decidable.not_not, selI_z, selB_z, selS_z, selN_z, selL_z, selI_s, selB_s, selS_s, selN_s, selL_s, Int.toNat_natCast, Nat.mul_one, Nat.zero_add, Nat.div_one, List.drop_zero, Nat.zero_mul, Nat.le_refl, Bool.not_eq_true', Bool.not_eq_false', Bool.false_eq_true, Bool.true_eq_false, not_true_eq_false, not_false_eq_true, false_imp_iff, true_imp_iff, if_true, if_false, sig, sigF, sigW, sigR, sigO, sigD, sigWD, List.map_cons, List.map_nil, hu6]
  refine ⟨Z, ?_⟩
  rintro ys ⟨v, rfl, v0, v1, v2⟩
  simp only [F_eadm_szroom, F_eadm_toroom, F_eadm_sadm, F_eadm_iadm, F_eadm_eqroom, F_eadm_markroom, F_eadm_heldroom, s_szroom, s_toroom, s_sadm, s_iadm, s_eqroom, s_markroom, s_heldroom, Tree.holds, ltI_t, ltI_f, leI_t, leI_f, all_cons, all_nil, and_true, true_and, forall_eq, decide_eq_true_eq, decide_eq_false_iff_not, beq_iff_eq, beq_eq_false_iff_ne, bne_iff_ne, bne_eq_false_iff_eq, ne_eq, Decidable.not_not, selI_z, selB_z, selS_z, selN_z, selL_z, selI_s, selB_s, selS_s, selN_s, selL_s, Int.toNat_natCast, Nat.mul_one, Nat.zero_add, Nat.div_one, List.drop_zero, Nat.zero_mul, Nat.le_refl, Bool.not_eq_true', Bool.not_eq_false', Bool.false_eq_true, Bool.true_eq_false, not_true_eq_false, not_false_eq_true, false_imp_iff, true_imp_iff, if_true, if_false, sig, sigF, sigW, sigR, sigO, sigD, sigWD, List.map_cons, List.map_nil]
  refine ⟨fun _ => trivial, fun h => ?_⟩
  have sm := v2 (by omega) (by omega)
  have hv : unRm [.str w0, .int .i64 s, .int .i64 m, .bool k, .list 9 rl.length (textsD rl)] = ⟨w0, s, m, k, rl⟩ := unRm_one ⟨w0, s, m, k, rl⟩
  simp only [F_eadm_szroom, F_eadm_toroom, F_eadm_sadm, F_eadm_iadm, F_eadm_eqroom, F_eadm_markroom, F_eadm_heldroom, s_szroom, s_toroom, s_sadm, s_iadm, s_eqroom, s_markroom, s_heldroom, Tree.holds, ltI_t, ltI_f, leI_t, leI_f, all_cons, all_nil, and_true, true_and, forall_eq, decide_eq_true_eq, decide_eq_false_iff_not, beq_iff_eq, beq_eq_false_iff_ne, bne_iff_ne, bne_eq_false_iff_eq, ne_eq, Decidable.not_not, selI_z, selB_z, selS_z, selN_z, selL_z, selI_s, selB_s, selS_s, selN_s, selL_s, Int.toNat_natCast, Nat.mul_one, Nat.zero_add, Nat.div_one, List.drop_zero, Nat.zero_mul, Nat.le_refl, Bool.not_eq_true', Bool.not_eq_false', Bool.false_eq_true, Bool.true_eq_false, not_true_eq_false, not_false_eq_true, false_imp_iff, true_imp_iff, if_true, if_false, sig, sigF, sigW, sigR, sigO, sigD, sigWD, List.map_cons, List.map_nil, hv, hu, roomD, List.cons_append, List.nil_append, textsD_take, textsD_len, unRm_x, unS_texts]
  have h2 : rl.length ≤ 1048576 := sm.2.1
  obtain ⟨x2, x3⟩ : (admitR ⟨w0, s, m, k, rl⟩).1.l.length ≤ 1048577 ∧ ∀ x ∈ (admitR ⟨w0, s, m, k, rl⟩).1.l, x.size ≤ maxLen := by
    unfold admitR
    split
    · exact ⟨by show (rl.drop 1).length ≤ _; rw [List.length_drop]; omega, fun x hx => hm x (List.mem_of_mem_drop hx)⟩
    · exact ⟨Nat.zero_le _, fun x hx => by cases hx⟩
  generalize admitR ⟨w0, s, m, k, rl⟩ = x at *
  obtain ⟨x, b⟩ := x
  have x2 : x.l.length ≤ 1048577 := x2
  have x3 : ∀ y ∈ x.l, y.size ≤ maxLen := x3
  have lx : (mks [.str] (Int.toNat 1) x.l.length).length = x.l.length := mks_len _ _ _
  have tx : List.take x.l.length (mks [.str] (Int.toNat 1) x.l.length) = mks [.str] (Int.toNat 1) x.l.length := List.take_of_length_le (by omega)
  have hx : (1 : Int) + rl.length ≤ 900000000000000 := by omega
  have hy : (1 : Int) + x.l.length ≤ 900000000000000 := by omega
  repeat' (first | exact trivial | rfl | exact ⟨⟨w0, s, m, k, rl⟩, rfl, sm⟩ | exact ⟨⟨w0, s, m, k, rl⟩, rfl, (show rl.length ≤ 1048577 by omega), hm⟩ | exact ⟨x, rfl, x2, x3⟩ | exact ⟨⟨w0, s, m, k, rl⟩, 1, rfl, by omega, hx, hm⟩ | exact ⟨x, 1, rfl, by omega, hy, x3⟩ | exact textsD_scal _ | exact Nat.le_of_eq lx.symm | exact tx | exact ⟨⟨w0, s, m, k, rl⟩, rfl, sm⟩ | omega | (intro h9; exact absurd trivial h9) | (intro h9; exact absurd h9 (by omega)) | (intro _) | apply And.intro)
  all_goals trace_state
theorem ok_eent : FnOk Try.prog 6 s_eent := by
  refine fnOk (fn := Try.f6) (F := F_eent) (hs := hs_eent) (tab_cons ok_szroom (tab_cons ok_toroom (tab_cons ok_sent (tab_cons ok_ient (tab_cons ok_eqroom (tab_cons ok_markroom (tab_cons ok_heldroom tab_nil))))))) mixed rfl rfl rfl [.str, .int .i64, .int .i64, .bool, .list 9, .str, .int .i64, .int .i64] (by kernel_rfl) (by simp) ?_
  intro w0 s m k n cs w nn p hw
  obtain ⟨⟨_, e0, a0⟩, -, -, -, a4, -⟩ := hw
  injection e0 with e0
  subst e0
  obtain ⟨rl, e, hl, hm⟩ := wf_texts a4
  simp only [D.list.injEq, true_and] at e
  obtain ⟨rfl, rfl⟩ := e
  refine ⟨fun h ys => False, fun h ys => 0, ?_, fun _ _ h => h.elim⟩
  rw [t_eent]
  have hu : unRm [.str w0, .int .i64 s, .int .i64 m, .bool k, .list 9 rl.length (textsD rl), .str w, .int .i64 nn, .int .i64 p] = ⟨w0, s, m, k, rl⟩ := unRm_room ⟨w0, s, m, k, rl⟩ _
  have hu6 : unRm [.str w0, .int .i64 s, .int .i64 m, .bool k, .list 9 rl.length (textsD rl), .int .i64 1048576] = ⟨w0, s, m, k, rl⟩ := unRm_room ⟨w0, s, m, k, rl⟩ _
  have wf : wfRm ⟨w0, s, m, k, rl⟩ := ⟨a0, hl, hm⟩
  have Z : ∃ (r : Rm) (a : Int), [D.str w0, .int .i64 s, .int .i64 m, .bool k, .list 9 rl.length (textsD rl), .int .i64 1048576] = roomD r ++ [.int .i64 a] ∧ wfRm r ∧ -1 ≤ a ∧ a ≤ 2147483647 := ⟨⟨w0, s, m, k, rl⟩, 1048576, rfl, wf, by omega, by omega⟩
  simp only [F_eent_szroom, F_eent_toroom, F_eent_sent, F_eent_ient, F_eent_eqroom, F_eent_markroom, F_eent_heldroom, s_szroom, s_toroom, s_sent, s_ient, s_eqroom, s_markroom, s_heldroom, Tree.holds, ltI_t, ltI_f, leI_t, leI_f, all_cons, all_nil, and_true, true_and, forall_eq, decide_eq_true_eq, decide_eq_false_iff_not, beq_iff_eq, beq_eq_false_iff_ne, bne_iff_ne, bne_eq_false_iff_eq, ne_eq, Decidable.not_not, selI_z, selB_z, selS_z, selN_z, selL_z, selI_s, selB_s, selS_s, selN_s, selL_s, Int.toNat_natCast, Nat.mul_one, Nat.zero_add, Nat.div_one, List.drop_zero, Nat.zero_mul, Nat.le_refl, Bool.not_eq_true', Bool.not_eq_false', Bool.false_eq_true, Bool.true_eq_false, not_true_eq_false, not_false_eq_true, false_imp_iff, true_imp_iff, if_true, if_false, sig, sigF, sigW, sigR, sigO, sigD, sigWD, List.map_cons, List.map_nil, hu6]
  refine ⟨fun _ => trivial, fun hsz => ⟨Z, ?_⟩⟩
  rintro ys ⟨v, rfl, v0, v1, v2⟩
  simp only [F_eent_szroom, F_eent_toroom, F_eent_sent, F_eent_ient, F_eent_eqroom, F_eent_markroom, F_eent_heldroom, s_szroom, s_toroom, s_sent, s_ient, s_eqroom, s_markroom, s_heldroom, Tree.holds, ltI_t, ltI_f, leI_t, leI_f, all_cons, all_nil, and_true, true_and, forall_eq, decide_eq_true_eq, decide_eq_false_iff_not, beq_iff_eq, beq_eq_false_iff_ne, bne_iff_ne, bne_eq_false_iff_eq, ne_eq, Decidable.not_not, selI_z, selB_z, selS_z, selN_z, selL_z, selI_s, selB_s, selS_s, selN_s, selL_s, Int.toNat_natCast, Nat.mul_one, Nat.zero_add, Nat.div_one, List.drop_zero, Nat.zero_mul, Nat.le_refl, Bool.not_eq_true', Bool.not_eq_false', Bool.false_eq_true, Bool.true_eq_false, not_true_eq_false, not_false_eq_true, false_imp_iff, true_imp_iff, if_true, if_false, sig, sigF, sigW, sigR, sigO, sigD, sigWD, List.map_cons, List.map_nil]
  refine ⟨fun _ => trivial, fun h => ?_⟩
  have sm := v2 (by omega) (by omega)
  have hv : unRm [.str w0, .int .i64 s, .int .i64 m, .bool k, .list 9 rl.length (textsD rl)] = ⟨w0, s, m, k, rl⟩ := unRm_one ⟨w0, s, m, k, rl⟩
  simp only [F_eent_szroom, F_eent_toroom, F_eent_sent, F_eent_ient, F_eent_eqroom, F_eent_markroom, F_eent_heldroom, s_szroom, s_toroom, s_sent, s_ient, s_eqroom, s_markroom, s_heldroom, Tree.holds, ltI_t, ltI_f, leI_t, leI_f, all_cons, all_nil, and_true, true_and, forall_eq, decide_eq_true_eq, decide_eq_false_iff_not, beq_iff_eq, beq_eq_false_iff_ne, bne_iff_ne, bne_eq_false_iff_eq, ne_eq, Decidable.not_not, selI_z, selB_z, selS_z, selN_z, selL_z, selI_s, selB_s, selS_s, selN_s, selL_s, Int.toNat_natCast, Nat.mul_one, Nat.zero_add, Nat.div_one, List.drop_zero, Nat.zero_mul, Nat.le_refl, Bool.not_eq_true', Bool.not_eq_false', Bool.false_eq_true, Bool.true_eq_false, not_true_eq_false, not_false_eq_true, false_imp_iff, true_imp_iff, if_true, if_false, sig, sigF, sigW, sigR, sigO, sigD, sigWD, List.map_cons, List.map_nil, hv, hu, roomD, List.cons_append, List.nil_append, textsD_take, textsD_len, unRm_x, unS_texts]
  have h2 : rl.length ≤ 1048576 := sm.2.1
  obtain ⟨x2, x3⟩ : (enterR ⟨w0, s, m, k, rl⟩ w nn p).1.l.length ≤ 1048577 ∧ ∀ x ∈ (enterR ⟨w0, s, m, k, rl⟩ w nn p).1.l, x.size ≤ maxLen := by
    have hw0 : w.size ≤ maxLen := by unfold maxLen; omega
    rcases ent_cases ⟨w0, s, m, k, rl⟩ w nn p with E | E | E | E | ⟨E, -⟩ | ⟨E, -⟩ | ⟨E, -⟩ <;> rw [E]
    · exact ⟨Nat.zero_le _, fun x hx => by cases hx⟩
    · exact ⟨by show rl.length ≤ _; omega, hm⟩
    · exact ⟨by show rl.length ≤ _; omega, hm⟩
    · exact ⟨by show rl.length ≤ _; omega, hm⟩
    · exact ⟨by show rl.length ≤ _; omega, hm⟩
    · exact ⟨by show rl.length ≤ _; omega, hm⟩
    · refine ⟨by show (rl ++ [w]).length ≤ _; rw [List.length_append, List.length_singleton]; omega, fun x hx => ?_⟩
      rcases List.mem_append.mp hx with h | h
      · exact hm x h
      · simp at h; rw [h]; exact hw0
  generalize enterR ⟨w0, s, m, k, rl⟩ w nn p = x at *
  obtain ⟨x, b⟩ := x
  have x2 : x.l.length ≤ 1048577 := x2
  have x3 : ∀ y ∈ x.l, y.size ≤ maxLen := x3
  have lx : (mks [.str] (Int.toNat 1) x.l.length).length = x.l.length := mks_len _ _ _
  have tx : List.take x.l.length (mks [.str] (Int.toNat 1) x.l.length) = mks [.str] (Int.toNat 1) x.l.length := List.take_of_length_le (by omega)
  have hx : (1 : Int) + rl.length ≤ 900000000000000 := by omega
  have hy : (1 : Int) + x.l.length ≤ 900000000000000 := by omega
  repeat' (first | exact trivial | rfl | exact ⟨⟨w0, s, m, k, rl⟩, w, nn, p, rfl, sm, by omega⟩ | exact ⟨⟨w0, s, m, k, rl⟩, rfl, (show rl.length ≤ 1048577 by omega), hm⟩ | exact ⟨x, rfl, x2, x3⟩ | exact ⟨⟨w0, s, m, k, rl⟩, 1, rfl, by omega, hx, hm⟩ | exact ⟨x, 1, rfl, by omega, hy, x3⟩ | exact textsD_scal _ | exact Nat.le_of_eq lx.symm | exact tx | exact ⟨⟨w0, s, m, k, rl⟩, rfl, sm⟩ | omega | (intro h9; exact absurd trivial h9) | (intro h9; exact absurd h9 (by omega)) | (intro _) | apply And.intro)
  all_goals trace_state
theorem ok_elock : FnOk Try.prog 10 s_elock := by
  refine fnOk (fn := Try.f10) (F := F_elock) (hs := hs_elock) (tab_cons ok_szroom (tab_cons ok_toroom (tab_cons ok_slock (tab_cons ok_ilock (tab_cons ok_eqroom (tab_cons ok_eqstr (tab_cons ok_markroom (tab_cons ok_heldroom (tab_cons ok_markstr (tab_cons ok_heldstr tab_nil)))))))))) mixed rfl rfl rfl [.str, .int .i64, .int .i64, .bool, .list 9, .bool] (by kernel_rfl) (by simp) ?_
  intro w0 s m k n cs q hw
  obtain ⟨⟨_, e0, a0⟩, -, -, -, a4, -⟩ := hw
  injection e0 with e0
  subst e0
  obtain ⟨rl, e, hl, hm⟩ := wf_texts a4
  simp only [D.list.injEq, true_and] at e
  obtain ⟨rfl, rfl⟩ := e
  refine ⟨fun h ys => False, fun h ys => 0, ?_, fun _ _ h => h.elim⟩
  rw [t_elock]
  have hu : unRm [.str w0, .int .i64 s, .int .i64 m, .bool k, .list 9 rl.length (textsD rl), .bool q] = ⟨w0, s, m, k, rl⟩ := unRm_room ⟨w0, s, m, k, rl⟩ _
  have hu6 : unRm [.str w0, .int .i64 s, .int .i64 m, .bool k, .list 9 rl.length (textsD rl), .int .i64 1048576] = ⟨w0, s, m, k, rl⟩ := unRm_room ⟨w0, s, m, k, rl⟩ _
  have wf : wfRm ⟨w0, s, m, k, rl⟩ := ⟨a0, hl, hm⟩
  have Z : ∃ (r : Rm) (a : Int), [D.str w0, .int .i64 s, .int .i64 m, .bool k, .list 9 rl.length (textsD rl), .int .i64 1048576] = roomD r ++ [.int .i64 a] ∧ wfRm r ∧ -1 ≤ a ∧ a ≤ 2147483647 := ⟨⟨w0, s, m, k, rl⟩, 1048576, rfl, wf, by omega, by omega⟩
  simp only [F_elock_szroom, F_elock_toroom, F_elock_slock, F_elock_ilock, F_elock_eqroom, F_elock_eqstr, F_elock_markroom, F_elock_heldroom, F_elock_markstr, F_elock_heldstr, s_szroom, s_toroom, s_slock, s_ilock, s_eqroom, s_eqstr, s_markroom, s_heldroom, s_markstr, s_heldstr, Tree.holds, ltI_t, ltI_f, leI_t, leI_f, all_cons, all_nil, and_true, true_and, forall_eq, decide_eq_true_eq, decide_eq_false_iff_not, beq_iff_eq, beq_eq_false_iff_ne, bne_iff_ne, bne_eq_false_iff_eq, ne_eq, Decidable.not_not, selI_z, selB_z, selS_z, selN_z, selL_z, selI_s, selB_s, selS_s, selN_s, selL_s, Int.toNat_natCast, Nat.mul_one, Nat.zero_add, Nat.div_one, List.drop_zero, Nat.zero_mul, Nat.le_refl, Bool.not_eq_true', Bool.not_eq_false', Bool.false_eq_true, Bool.true_eq_false, not_true_eq_false, not_false_eq_true, false_imp_iff, true_imp_iff, if_true, if_false, sig, sigF, sigW, sigR, sigO, sigD, sigWD, List.map_cons, List.map_nil, hu6]
  refine ⟨Z, ?_⟩
  rintro ys ⟨v, rfl, v0, v1, v2⟩
  simp only [F_elock_szroom, F_elock_toroom, F_elock_slock, F_elock_ilock, F_elock_eqroom, F_elock_eqstr, F_elock_markroom, F_elock_heldroom, F_elock_markstr, F_elock_heldstr, s_szroom, s_toroom, s_slock, s_ilock, s_eqroom, s_eqstr, s_markroom, s_heldroom, s_markstr, s_heldstr, Tree.holds, ltI_t, ltI_f, leI_t, leI_f, all_cons, all_nil, and_true, true_and, forall_eq, decide_eq_true_eq, decide_eq_false_iff_not, beq_iff_eq, beq_eq_false_iff_ne, bne_iff_ne, bne_eq_false_iff_eq, ne_eq, Decidable.not_not, selI_z, selB_z, selS_z, selN_z, selL_z, selI_s, selB_s, selS_s, selN_s, selL_s, Int.toNat_natCast, Nat.mul_one, Nat.zero_add, Nat.div_one, List.drop_zero, Nat.zero_mul, Nat.le_refl, Bool.not_eq_true', Bool.not_eq_false', Bool.false_eq_true, Bool.true_eq_false, not_true_eq_false, not_false_eq_true, false_imp_iff, true_imp_iff, if_true, if_false, sig, sigF, sigW, sigR, sigO, sigD, sigWD, List.map_cons, List.map_nil]
  refine ⟨fun _ => trivial, fun h => ?_⟩
  have sm := v2 (by omega) (by omega)
  have hv : unRm [.str w0, .int .i64 s, .int .i64 m, .bool k, .list 9 rl.length (textsD rl)] = ⟨w0, s, m, k, rl⟩ := unRm_one ⟨w0, s, m, k, rl⟩
  simp only [F_elock_szroom, F_elock_toroom, F_elock_slock, F_elock_ilock, F_elock_eqroom, F_elock_eqstr, F_elock_markroom, F_elock_heldroom, F_elock_markstr, F_elock_heldstr, s_szroom, s_toroom, s_slock, s_ilock, s_eqroom, s_eqstr, s_markroom, s_heldroom, s_markstr, s_heldstr, Tree.holds, ltI_t, ltI_f, leI_t, leI_f, all_cons, all_nil, and_true, true_and, forall_eq, decide_eq_true_eq, decide_eq_false_iff_not, beq_iff_eq, beq_eq_false_iff_ne, bne_iff_ne, bne_eq_false_iff_eq, ne_eq, Decidable.not_not, selI_z, selB_z, selS_z, selN_z, selL_z, selI_s, selB_s, selS_s, selN_s, selL_s, Int.toNat_natCast, Nat.mul_one, Nat.zero_add, Nat.div_one, List.drop_zero, Nat.zero_mul, Nat.le_refl, Bool.not_eq_true', Bool.not_eq_false', Bool.false_eq_true, Bool.true_eq_false, not_true_eq_false, not_false_eq_true, false_imp_iff, true_imp_iff, if_true, if_false, sig, sigF, sigW, sigR, sigO, sigD, sigWD, List.map_cons, List.map_nil, hv, hu, roomD, List.cons_append, List.nil_append, textsD_take, textsD_len, unRm_x, unS_texts]
  have h2 : rl.length ≤ 1048576 := sm.2.1
  obtain ⟨x2, x3⟩ : (lockR ⟨w0, s, m, k, rl⟩ q).1.l.length ≤ 1048577 ∧ ∀ x ∈ (lockR ⟨w0, s, m, k, rl⟩ q).1.l, x.size ≤ maxLen := by
    unfold lockR
    split
    · split
      · exact ⟨by show rl.length ≤ _; omega, hm⟩
      · exact ⟨Nat.zero_le _, fun x hx => by cases hx⟩
    · exact ⟨Nat.zero_le _, fun x hx => by cases hx⟩
  obtain ⟨y2, y3⟩ : (lockR ⟨w0, s, m, k, rl⟩ q).2.length ≤ 1048577 ∧ ∀ x ∈ (lockR ⟨w0, s, m, k, rl⟩ q).2, x.size ≤ maxLen := by
    unfold lockR
    split
    · split
      · exact ⟨Nat.zero_le _, fun x hx => by cases hx⟩
      · exact ⟨by show rl.length ≤ _; omega, hm⟩
    · exact ⟨Nat.zero_le _, fun x hx => by cases hx⟩
  have oky := okC_texts y3
  generalize lockR ⟨w0, s, m, k, rl⟩ q = x at *
  obtain ⟨x, y⟩ := x
  have x2 : x.l.length ≤ 1048577 := x2
  have x3 : ∀ y ∈ x.l, y.size ≤ maxLen := x3
  have lx : (mks [.str] (Int.toNat 1) x.l.length).length = x.l.length := mks_len _ _ _
  have tx : List.take x.l.length (mks [.str] (Int.toNat 1) x.l.length) = mks [.str] (Int.toNat 1) x.l.length := List.take_of_length_le (by omega)
  have ly := mks_len [.str] (1 + (x.l.length : Int)).toNat y.length
  have ty : List.take y.length (mks [.str] (1 + (x.l.length : Int)).toNat y.length) = mks [.str] (1 + (x.l.length : Int)).toNat y.length := List.take_of_length_le (by omega)
  have y2 : y.length ≤ 1048577 := y2
  have hx : (1 : Int) + rl.length ≤ 900000000000000 := by omega
  have hy : (1 : Int) + x.l.length ≤ 900000000000000 := by omega
  repeat' (first | exact trivial | rfl | exact ⟨⟨w0, s, m, k, rl⟩, q, rfl, sm⟩ | exact ⟨⟨w0, s, m, k, rl⟩, rfl, (show rl.length ≤ 1048577 by omega), hm⟩ | exact ⟨x, rfl, x2, x3⟩ | exact ⟨⟨w0, s, m, k, rl⟩, 1, rfl, by omega, hx, hm⟩ | exact ⟨x, 1, rfl, by omega, hy, x3⟩ | exact textsD_scal _ | exact Nat.le_of_eq lx.symm | exact tx | exact ⟨⟨w0, s, m, k, rl⟩, rfl, sm⟩ | exact oky | exact Nat.le_of_eq ly.symm | exact ty | (show (y.length : Int) * 1 + _ ≤ _; omega) | (unfold maxLen; omega) | omega | (intro h9; exact absurd trivial h9) | (intro h9; exact absurd h9 (by omega)) | (intro _) | apply And.intro)
  all_goals trace_state
end Go.Proofs.Ytcnmpghenfbflaa.Mini
end
