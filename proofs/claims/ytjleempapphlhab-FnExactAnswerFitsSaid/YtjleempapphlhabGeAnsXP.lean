/- Parts of the proof: AnsXP. -/
import Derived.Test.YtjleempapphlhabGeAnsX
import Derived.Test.YtjleempapphlhabGeAnsT
section
namespace Go.Proofs.Ytjleempapphlhab.Mini
open Go Go.RowKit
set_option linter.unusedVariables false
set_option linter.unusedSimpArgs false
set_option maxRecDepth 20000
theorem ok_mkmed : FnOk Try.prog 19 s_mkmed := by
  refine fnOkW (fn := Try.f19) (F := F_mkmed) (hs := hs_mkmed) (tab_cons ok_markstr tab_nil) mixed rfl rfl rfl [.str, .int .i64, .bool, .bool, .list 9, .int .i64] [.int .i64] (by kernel_rfl) (by kernel_rfl) (by simp [hs_mkmed, shapeW, lists]) ?_
  rintro k p s h n cs a ⟨m, q, e, h1, h2, hm⟩
  simp only [medD, List.cons_append, List.nil_append, List.cons.injEq, D.str.injEq, D.int.injEq, D.bool.injEq, D.list.injEq, true_and, and_true] at e
  obtain ⟨rfl, rfl, rfl, rfl, ⟨rfl, rfl⟩, rfl⟩ := e
  refine ⟨?_, fun _ _ => False, fun _ _ => 0, ?_, fun _ _ h => h.elim⟩
  · intro yz h
    rw [h]
    exact ⟨rfl, trivial⟩
  rw [t_mkmed]
  simp only [F_mkmed_markstr, s_markstr, Tree.holds, ltI_t, ltI_f, leI_t, leI_f, all_cons, all_nil, and_true, true_and, forall_eq, decide_eq_true_eq, decide_eq_false_iff_not, beq_iff_eq, beq_eq_false_iff_ne, bne_iff_ne, bne_eq_false_iff_eq, ne_eq, Decidable.not_not, selI_z, selB_z, selS_z, selN_z, selL_z, selI_s, selB_s, selS_s, selN_s, selL_s, Int.toNat_natCast, Nat.mul_one, Nat.zero_add, Nat.div_one, List.drop_zero, Nat.zero_mul, Nat.le_refl, Bool.not_eq_true', Bool.not_eq_false', Bool.false_eq_true, Bool.true_eq_false, not_true_eq_false, not_false_eq_true, false_imp_iff, true_imp_iff, if_true, if_false, sig, sigF, sigW, sigR, sigO, sigD, sigWD, List.map_cons, List.map_nil]
  simp only [Int.toNat_natCast, mks_texts, textsD_len, mtx_len]
  exact ⟨⟨trivial, textsD_scal _⟩, ⟨okC_texts hm.2.2, by omega, by omega⟩, textsD_scal _, by rw [Int.mul_one, Int.natCast_add]⟩
theorem ok_hdmed : FnOk Try.prog 20 s_hdmed := by
  refine fnOk (fn := Try.f20) (F := F_hdmed) (hs := hs_hdmed) (tab_cons ok_heldstr tab_nil) mixed rfl rfl rfl [.str, .int .i64, .bool, .bool, .list 9, .int .i64] (by kernel_rfl) (by simp) ?_
  rintro k p s h n cs a ⟨m, q, r, e, hc, h1, h2⟩
  simp only [medD, List.cons_append, List.nil_append, List.cons.injEq, D.str.injEq, D.int.injEq, D.bool.injEq, D.list.injEq, true_and, and_true] at e
  obtain ⟨rfl, rfl, rfl, rfl, ⟨rfl, rfl⟩, rfl⟩ := e
  refine ⟨fun _ _ => False, fun _ _ => 0, ?_, fun _ _ h => h.elim⟩
  rw [t_hdmed]
  simp only [F_hdmed_heldstr, s_heldstr, Tree.holds, ltI_t, ltI_f, leI_t, leI_f, all_cons, all_nil, and_true, true_and, forall_eq, decide_eq_true_eq, decide_eq_false_iff_not, beq_iff_eq, beq_eq_false_iff_ne, bne_iff_ne, bne_eq_false_iff_eq, ne_eq, Decidable.not_not, selI_z, selB_z, selS_z, selN_z, selL_z, selI_s, selB_s, selS_s, selN_s, selL_s, Int.toNat_natCast, Nat.mul_one, Nat.zero_add, Nat.div_one, List.drop_zero, Nat.zero_mul, Nat.le_refl, Bool.not_eq_true', Bool.not_eq_false', Bool.false_eq_true, Bool.true_eq_false, not_true_eq_false, not_false_eq_true, false_imp_iff, true_imp_iff, if_true, if_false, sig, sigF, sigW, sigR, sigO, sigD, sigWD, List.map_cons, List.map_nil]
  simp only [Int.toNat_natCast, mks_texts, textsD_len, mtx_len, hc]
  exact ⟨⟨trivial, by omega, by omega⟩, fun h => by omega, fun _ => by rw [Int.mul_one, Int.natCast_add]⟩
theorem ok_eaf : FnOk Try.prog 8 s_eaf := by
  refine fnOk (fn := Try.f8) (F := F_eaf) (hs := hs_eaf) (tab_cons ok_szoff (tab_cons ok_sfits (tab_cons ok_tooff (tab_cons ok_ifits (tab_cons ok_eqoff tab_nil))))) mixed rfl rfl rfl [.list 35, .list 35] (by kernel_rfl) (by simp) ?_
  intro n cs n' cs' hw
  obtain ⟨w0, w1, -⟩ := hw
  obtain ⟨l, e, hl, hm⟩ := wf_offer w0
  simp only [lawD, List.cons.injEq, D.list.injEq, true_and, and_true] at e
  obtain ⟨rfl, rfl⟩ := e
  obtain ⟨o, e, ho, hm'⟩ := wf_offer w1
  simp only [lawD, List.cons.injEq, D.list.injEq, true_and, and_true] at e
  obtain ⟨rfl, rfl⟩ := e
  refine ⟨fun h ys => False, fun h ys => 0, ?_, fun _ _ h => h.elim⟩
  rw [t_eaf]
  simp only [F_eaf_szoff, F_eaf_sfits, F_eaf_tooff, F_eaf_ifits, F_eaf_eqoff, s_szoff, s_sfits, s_tooff, s_ifits, s_eqoff, Tree.holds, ltI_t, ltI_f, leI_t, leI_f, all_cons, all_nil, and_true, true_and, forall_eq, decide_eq_true_eq, decide_eq_false_iff_not, beq_iff_eq, beq_eq_false_iff_ne, bne_iff_ne, bne_eq_false_iff_eq, ne_eq, Decidable.not_not, selI_z, selB_z, selS_z, selN_z, selL_z, selI_s, selB_s, selS_s, selN_s, selL_s, Int.toNat_natCast, Nat.mul_one, Nat.zero_add, Nat.div_one, List.drop_zero, Nat.zero_mul, Nat.le_refl, Bool.not_eq_true', Bool.not_eq_false', Bool.false_eq_true, Bool.true_eq_false, not_true_eq_false, not_false_eq_true, false_imp_iff, true_imp_iff, if_true, if_false, sig, sigF, sigW, sigR, sigO, sigD, sigWD, List.map_cons, List.map_nil]
  refine ⟨⟨l, 1048576, rfl, hl, hm, by omega, by omega⟩, ?_⟩
  rintro ys ⟨r, rfl, r0, r1, r2⟩
  simp only [F_eaf_szoff, F_eaf_sfits, F_eaf_tooff, F_eaf_ifits, F_eaf_eqoff, s_szoff, s_sfits, s_tooff, s_ifits, s_eqoff, Tree.holds, ltI_t, ltI_f, leI_t, leI_f, all_cons, all_nil, and_true, true_and, forall_eq, decide_eq_true_eq, decide_eq_false_iff_not, beq_iff_eq, beq_eq_false_iff_ne, bne_iff_ne, bne_eq_false_iff_eq, ne_eq, Decidable.not_not, selI_z, selB_z, selS_z, selN_z, selL_z, selI_s, selB_s, selS_s, selN_s, selL_s, Int.toNat_natCast, Nat.mul_one, Nat.zero_add, Nat.div_one, List.drop_zero, Nat.zero_mul, Nat.le_refl, Bool.not_eq_true', Bool.not_eq_false', Bool.false_eq_true, Bool.true_eq_false, not_true_eq_false, not_false_eq_true, false_imp_iff, true_imp_iff, if_true, if_false, sig, sigF, sigW, sigR, sigO, sigD, sigWD, List.map_cons, List.map_nil]
  refine ⟨fun _ => trivial, fun h => ⟨⟨o, r, rfl, ho, hm', by omega, by omega⟩, ?_⟩⟩
  rintro ys ⟨r', rfl, r0', r1', r2'⟩
  simp only [F_eaf_szoff, F_eaf_sfits, F_eaf_tooff, F_eaf_ifits, F_eaf_eqoff, s_szoff, s_sfits, s_tooff, s_ifits, s_eqoff, Tree.holds, ltI_t, ltI_f, leI_t, leI_f, all_cons, all_nil, and_true, true_and, forall_eq, decide_eq_true_eq, decide_eq_false_iff_not, beq_iff_eq, beq_eq_false_iff_ne, bne_iff_ne, bne_eq_false_iff_eq, ne_eq, Decidable.not_not, selI_z, selB_z, selS_z, selN_z, selL_z, selI_s, selB_s, selS_s, selN_s, selL_s, Int.toNat_natCast, Nat.mul_one, Nat.zero_add, Nat.div_one, List.drop_zero, Nat.zero_mul, Nat.le_refl, Bool.not_eq_true', Bool.not_eq_false', Bool.false_eq_true, Bool.true_eq_false, not_true_eq_false, not_false_eq_true, false_imp_iff, true_imp_iff, if_true, if_false, sig, sigF, sigW, sigR, sigO, sigD, sigWD, List.map_cons, List.map_nil]
  refine ⟨fun _ => trivial, fun h' => ?_⟩
  have hs := r2 (by omega) (by omega)
  have hs' := r2' (by omega) (by omega)
  obtain ⟨hs1, hs2⟩ := hs
  obtain ⟨hs1', hs2'⟩ := hs'
  rw [unO_off] at hs2 hs2'
  have e1 : ∀ l : List Med, D.list 25 (selN (impD l) 0) (selL (impD l) 0) = .list 25 l.length (offD l) := fun _ => rfl
  simp only [unO_off, e1, F_eaf_szoff, F_eaf_sfits, F_eaf_tooff, F_eaf_ifits, F_eaf_eqoff, s_szoff, s_sfits, s_tooff, s_ifits, s_eqoff, Tree.holds, ltI_t, ltI_f, leI_t, leI_f, all_cons, all_nil, and_true, true_and, forall_eq, decide_eq_true_eq, decide_eq_false_iff_not, beq_iff_eq, beq_eq_false_iff_ne, bne_iff_ne, bne_eq_false_iff_eq, ne_eq, Decidable.not_not, selI_z, selB_z, selS_z, selN_z, selL_z, selI_s, selB_s, selS_s, selN_s, selL_s, Int.toNat_natCast, Nat.mul_one, Nat.zero_add, Nat.div_one, List.drop_zero, Nat.zero_mul, Nat.le_refl, Bool.not_eq_true', Bool.not_eq_false', Bool.false_eq_true, Bool.true_eq_false, not_true_eq_false, not_false_eq_true, false_imp_iff, true_imp_iff, if_true, if_false, sig, sigF, sigW, sigR, sigO, sigD, sigWD, List.map_cons, List.map_nil]
  have A : ∀ l : List Med, l.length ≤ 1048576 → (∀ m ∈ l, smM m) → ∃ l_1, [D.list 35 l.length (offD l)] = lawD l_1 ∧ l_1.length ≤ 1048576 ∧ ∀ m ∈ l_1, smM m := fun l h1 h2 => ⟨l, rfl, h1, h2⟩
  have E : ∀ l : List Med, l.length ≤ 1048576 → (∀ m ∈ l, smM m) → ∃ l_1, [D.list 25 l.length (offD l), D.list 25 l.length (offD l)] = impD l_1 ++ impD l_1 ∧ l_1.length ≤ 1048576 ∧ ∀ m ∈ l_1, smM m := fun l h1 h2 => ⟨l, rfl, h1, h2⟩
  have P : ∃ l_1 o_1 : List Med, [D.list 25 l.length (offD l), .list 25 o.length (offD o)] = [.list 25 l_1.length (offD l_1), .list 25 o_1.length (offD o_1)] ∧ l_1.length ≤ 1048576 ∧ o_1.length ≤ 1048576 ∧ (∀ m ∈ l_1, smM m) ∧ ∀ m ∈ o_1, smM m := ⟨l, o, rfl, hs1, hs1', hs2, hs2'⟩
  exact ⟨A l hs1 hs2, A o hs1' hs2', P, A l hs1 hs2, A o hs1' hs2', P, A l hs1 hs2, E l hs1 hs2, A o hs1' hs2', E o hs1' hs2'⟩
theorem ok_eam : FnOk Try.prog 4 s_eam := by
  refine fnOk (fn := Try.f4) (F := F_eam) (hs := hs_eam) (tab_cons ok_szmed (tab_cons ok_sansm (tab_cons ok_tomedO (tab_cons ok_iansm (tab_cons ok_eqmed (tab_cons ok_mkmed (tab_cons ok_hdmed tab_nil))))))) mixed rfl rfl rfl [.str, .int .i64, .bool, .bool, .list 9, .str, .int .i64, .bool, .bool, .list 9] (by kernel_rfl) (by simp) ?_
  intro a0 a1 a2 a3 a4n a4 a5 a6 a7 a8 a9n a9 hw
  obtain ⟨w0, w1, w2, w3, w4, w5, w6, w7, w8, w9, -⟩ := hw
  obtain ⟨o, e, ho⟩ := wf_media w0 w1 w2 w3 w4
  obtain ⟨rfl, rfl, rfl, rfl, rfl, rfl⟩ := med_open e
  obtain ⟨w, e, hw'⟩ := wf_media w5 w6 w7 w8 w9
  obtain ⟨rfl, rfl, rfl, rfl, rfl, rfl⟩ := med_open e
  refine ⟨fun h ys => False, fun h ys => 0, ?_, fun _ _ h => h.elim⟩
  rw [t_eam]
  simp only [F_eam_szmed, F_eam_sansm, F_eam_tomedO, F_eam_iansm, F_eam_eqmed, F_eam_mkmed, F_eam_hdmed, s_szmed, s_sansm, s_tomedO, s_iansm, s_eqmed, s_mkmed, s_hdmed, Tree.holds, ltI_t, ltI_f, leI_t, leI_f, all_cons, all_nil, and_true, true_and, forall_eq, decide_eq_true_eq, decide_eq_false_iff_not, beq_iff_eq, beq_eq_false_iff_ne, bne_iff_ne, bne_eq_false_iff_eq, ne_eq, Decidable.not_not, selI_z, selB_z, selS_z, selN_z, selL_z, selI_s, selB_s, selS_s, selN_s, selL_s, Int.toNat_natCast, Nat.mul_one, Nat.zero_add, Nat.div_one, List.drop_zero, Nat.zero_mul, Nat.le_refl, Bool.not_eq_true', Bool.not_eq_false', Bool.false_eq_true, Bool.true_eq_false, not_true_eq_false, not_false_eq_true, false_imp_iff, true_imp_iff, if_true, if_false, sig, sigF, sigW, sigR, sigO, sigD, sigWD, List.map_cons, List.map_nil]
  refine ⟨⟨o, 1048576, rfl, ho, by omega, by omega⟩, ?_⟩
  rintro ys ⟨r, rfl, r0, r1, r2⟩
  simp only [F_eam_szmed, F_eam_sansm, F_eam_tomedO, F_eam_iansm, F_eam_eqmed, F_eam_mkmed, F_eam_hdmed, s_szmed, s_sansm, s_tomedO, s_iansm, s_eqmed, s_mkmed, s_hdmed, Tree.holds, ltI_t, ltI_f, leI_t, leI_f, all_cons, all_nil, and_true, true_and, forall_eq, decide_eq_true_eq, decide_eq_false_iff_not, beq_iff_eq, beq_eq_false_iff_ne, bne_iff_ne, bne_eq_false_iff_eq, ne_eq, Decidable.not_not, selI_z, selB_z, selS_z, selN_z, selL_z, selI_s, selB_s, selS_s, selN_s, selL_s, Int.toNat_natCast, Nat.mul_one, Nat.zero_add, Nat.div_one, List.drop_zero, Nat.zero_mul, Nat.le_refl, Bool.not_eq_true', Bool.not_eq_false', Bool.false_eq_true, Bool.true_eq_false, not_true_eq_false, not_false_eq_true, false_imp_iff, true_imp_iff, if_true, if_false, sig, sigF, sigW, sigR, sigO, sigD, sigWD, List.map_cons, List.map_nil]
  refine ⟨fun _ => trivial, fun h => ⟨⟨w, r, rfl, hw', by omega, by omega⟩, ?_⟩⟩
  rintro ys ⟨r', rfl, r0', r1', r2'⟩
  simp only [F_eam_szmed, F_eam_sansm, F_eam_tomedO, F_eam_iansm, F_eam_eqmed, F_eam_mkmed, F_eam_hdmed, s_szmed, s_sansm, s_tomedO, s_iansm, s_eqmed, s_mkmed, s_hdmed, Tree.holds, ltI_t, ltI_f, leI_t, leI_f, all_cons, all_nil, and_true, true_and, forall_eq, decide_eq_true_eq, decide_eq_false_iff_not, beq_iff_eq, beq_eq_false_iff_ne, bne_iff_ne, bne_eq_false_iff_eq, ne_eq, Decidable.not_not, selI_z, selB_z, selS_z, selN_z, selL_z, selI_s, selB_s, selS_s, selN_s, selL_s, Int.toNat_natCast, Nat.mul_one, Nat.zero_add, Nat.div_one, List.drop_zero, Nat.zero_mul, Nat.le_refl, Bool.not_eq_true', Bool.not_eq_false', Bool.false_eq_true, Bool.true_eq_false, not_true_eq_false, not_false_eq_true, false_imp_iff, true_imp_iff, if_true, if_false, sig, sigF, sigW, sigR, sigO, sigD, sigWD, List.map_cons, List.map_nil]
  refine ⟨fun _ => trivial, fun h' => ?_⟩
  have so := r2 (by omega) (by omega)
  have sw := r2' (by omega) (by show r ≤ 1048576; exact r1)
  have lo : ∀ R : List D, unM (D.str o.k :: .int .i64 o.p :: .bool o.s :: .bool o.h :: .list 9 o.c.length (textsD o.c) :: R) = o := fun R => unM_med o
  have lw : ∀ R : List D, unM (D.str w.k :: .int .i64 w.p :: .bool w.s :: .bool w.h :: .list 9 w.c.length (textsD w.c) :: R) = w := fun R => unM_med w
  rw [lo] at so
  rw [lw] at sw
  have sx := sm_ans (w := w) so
  have lx : medD (ansM o w) = [D.str (ansM o w).k, .int .i64 (ansM o w).p, .bool (ansM o w).s, .bool (ansM o w).h, .list 9 (ansM o w).c.length (textsD (ansM o w).c)] := rfl
  have k1 : ((1 : Int)).toNat = 1 := rfl
  simp only [lo, lw, medD, F_eam_szmed, F_eam_sansm, F_eam_tomedO, F_eam_iansm, F_eam_eqmed, F_eam_mkmed, F_eam_hdmed, s_szmed, s_sansm, s_tomedO, s_iansm, s_eqmed, s_mkmed, s_hdmed, Tree.holds, ltI_t, ltI_f, leI_t, leI_f, all_cons, all_nil, and_true, true_and, forall_eq, decide_eq_true_eq, decide_eq_false_iff_not, beq_iff_eq, beq_eq_false_iff_ne, bne_iff_ne, bne_eq_false_iff_eq, ne_eq, Decidable.not_not, selI_z, selB_z, selS_z, selN_z, selL_z, selI_s, selB_s, selS_s, selN_s, selL_s, Int.toNat_natCast, Nat.mul_one, Nat.zero_add, Nat.div_one, List.drop_zero, Nat.zero_mul, Nat.le_refl, Bool.not_eq_true', Bool.not_eq_false', Bool.false_eq_true, Bool.true_eq_false, not_true_eq_false, not_false_eq_true, false_imp_iff, true_imp_iff, if_true, if_false, sig, sigF, sigW, sigR, sigO, sigD, sigWD, List.map_cons, List.map_nil]
  simp only [textsD_take, textsD_len, lo, lw, lx, k1, List.drop_succ_cons, F_eam_szmed, F_eam_sansm, F_eam_tomedO, F_eam_iansm, F_eam_eqmed, F_eam_mkmed, F_eam_hdmed, s_szmed, s_sansm, s_tomedO, s_iansm, s_eqmed, s_mkmed, s_hdmed, Tree.holds, ltI_t, ltI_f, leI_t, leI_f, all_cons, all_nil, and_true, true_and, forall_eq, decide_eq_true_eq, decide_eq_false_iff_not, beq_iff_eq, beq_eq_false_iff_ne, bne_iff_ne, bne_eq_false_iff_eq, ne_eq, Decidable.not_not, selI_z, selB_z, selS_z, selN_z, selL_z, selI_s, selB_s, selS_s, selN_s, selL_s, Int.toNat_natCast, Nat.mul_one, Nat.zero_add, Nat.div_one, List.drop_zero, Nat.zero_mul, Nat.le_refl, Bool.not_eq_true', Bool.not_eq_false', Bool.false_eq_true, Bool.true_eq_false, not_true_eq_false, not_false_eq_true, false_imp_iff, true_imp_iff, if_true, if_false, sig, sigF, sigW, sigR, sigO, sigD, sigWD, List.map_cons, List.map_nil]
  have Mo : ∃ m : Med, [D.str o.k, .int .i64 o.p, .bool o.s, .bool o.h, .list 9 o.c.length (textsD o.c)] = [.str m.k, .int .i64 m.p, .bool m.s, .bool m.h, .list 9 m.c.length (textsD m.c)] ∧ smM m := ⟨o, rfl, so⟩
  have Mw : ∃ m : Med, [D.str w.k, .int .i64 w.p, .bool w.s, .bool w.h, .list 9 w.c.length (textsD w.c)] = [.str m.k, .int .i64 m.p, .bool m.s, .bool m.h, .list 9 m.c.length (textsD m.c)] ∧ smM m := ⟨w, rfl, sw⟩
  have ho2 := so.2.1
  have hw2 := sw.2.1
  have hx2 := sx.2.1
  generalize ansM o w = x at *
  have tk : List.take x.c.length (textsD (mtx 1 x.c.length)) = textsD (mtx 1 x.c.length) := List.take_of_length_le (by rw [textsD_len, mtx_len]; omega)
  have H : ∃ (m : Med) (k n : Nat), [D.str x.k, .int .i64 x.p, .bool x.s, .bool x.h, .list 9 x.c.length (textsD (mtx 1 x.c.length)), .int .i64 1] = [D.str m.k, .int .i64 m.p, .bool m.s, .bool m.h, .list 9 m.c.length (textsD m.c)] ++ [.int .i64 (k : Int)] ∧ m.c = mtx k n ∧ 1 ≤ k ∧ k + n ≤ 900000000000000 :=
    ⟨⟨x.k, x.p, x.s, x.h, mtx 1 x.c.length⟩, 1, x.c.length, by simp only [mtx_len]; rfl, rfl, by omega, by omega⟩
  simp only [mtx_len, tk]
  repeat' (first | exact trivial | exact H | exact Mo | exact Mw | exact ⟨o, w, rfl, so, sw⟩ | exact ⟨x, rfl, sx⟩ | exact ⟨o, rfl, so⟩ | exact ⟨w, rfl, sw⟩ | exact textsD_scal _ | exact ⟨o, 1, rfl, by omega, by omega, sm_max so⟩ | exact ⟨w, 1 + o.c.length, rfl, by omega, by omega, sm_max sw⟩ | exact ⟨x, 1, rfl, by omega, by omega, sm_max sx⟩ | omega | (intro h9; exact absurd h9 (by omega)) | (intro _) | apply And.intro)
theorem ok_eao : FnOk Try.prog 6 s_eao := by
  refine fnOk (fn := Try.f6) (F := F_eao) (hs := hs_eao) (tab_cons ok_szoff (tab_cons ok_sanso (tab_cons ok_tooffD (tab_cons ok_iansoD (tab_cons ok_eqoff (tab_cons ok_mkoff (tab_cons ok_hdoff tab_nil))))))) mixed rfl rfl rfl [.list 35, .list 35] (by kernel_rfl) (by simp) ?_
  intro n cs n' cs' hw
  obtain ⟨w0, w1, -⟩ := hw
  obtain ⟨l, e, hl, hm⟩ := wf_offer w0
  simp only [lawD, List.cons.injEq, D.list.injEq, true_and, and_true] at e
  obtain ⟨rfl, rfl⟩ := e
  obtain ⟨o, e, ho, hm'⟩ := wf_offer w1
  simp only [lawD, List.cons.injEq, D.list.injEq, true_and, and_true] at e
  obtain ⟨rfl, rfl⟩ := e
  refine ⟨fun h ys => False, fun h ys => 0, ?_, fun _ _ h => h.elim⟩
  rw [t_eao]
  simp only [F_eao_szoff, F_eao_sanso, F_eao_tooffD, F_eao_iansoD, F_eao_eqoff, F_eao_mkoff, F_eao_hdoff, s_szoff, s_sanso, s_tooffD, s_iansoD, s_eqoff, s_mkoff, s_hdoff, Tree.holds, ltI_t, ltI_f, leI_t, leI_f, all_cons, all_nil, and_true, true_and, forall_eq, decide_eq_true_eq, decide_eq_false_iff_not, beq_iff_eq, beq_eq_false_iff_ne, bne_iff_ne, bne_eq_false_iff_eq, ne_eq, Decidable.not_not, selI_z, selB_z, selS_z, selN_z, selL_z, selI_s, selB_s, selS_s, selN_s, selL_s, Int.toNat_natCast, Nat.mul_one, Nat.zero_add, Nat.div_one, List.drop_zero, Nat.zero_mul, Nat.le_refl, Bool.not_eq_true', Bool.not_eq_false', Bool.false_eq_true, Bool.true_eq_false, not_true_eq_false, not_false_eq_true, false_imp_iff, true_imp_iff, if_true, if_false, sig, sigF, sigW, sigR, sigO, sigD, sigWD, List.map_cons, List.map_nil]
  refine ⟨⟨l, 1048576, rfl, hl, hm, by omega, by omega⟩, ?_⟩
  rintro ys ⟨r, rfl, r0, r1, r2⟩
  simp only [F_eao_szoff, F_eao_sanso, F_eao_tooffD, F_eao_iansoD, F_eao_eqoff, F_eao_mkoff, F_eao_hdoff, s_szoff, s_sanso, s_tooffD, s_iansoD, s_eqoff, s_mkoff, s_hdoff, Tree.holds, ltI_t, ltI_f, leI_t, leI_f, all_cons, all_nil, and_true, true_and, forall_eq, decide_eq_true_eq, decide_eq_false_iff_not, beq_iff_eq, beq_eq_false_iff_ne, bne_iff_ne, bne_eq_false_iff_eq, ne_eq, Decidable.not_not, selI_z, selB_z, selS_z, selN_z, selL_z, selI_s, selB_s, selS_s, selN_s, selL_s, Int.toNat_natCast, Nat.mul_one, Nat.zero_add, Nat.div_one, List.drop_zero, Nat.zero_mul, Nat.le_refl, Bool.not_eq_true', Bool.not_eq_false', Bool.false_eq_true, Bool.true_eq_false, not_true_eq_false, not_false_eq_true, false_imp_iff, true_imp_iff, if_true, if_false, sig, sigF, sigW, sigR, sigO, sigD, sigWD, List.map_cons, List.map_nil]
  refine ⟨fun _ => trivial, fun h => ⟨⟨o, r, rfl, ho, hm', by omega, by omega⟩, ?_⟩⟩
  rintro ys ⟨r', rfl, r0', r1', r2'⟩
  simp only [F_eao_szoff, F_eao_sanso, F_eao_tooffD, F_eao_iansoD, F_eao_eqoff, F_eao_mkoff, F_eao_hdoff, s_szoff, s_sanso, s_tooffD, s_iansoD, s_eqoff, s_mkoff, s_hdoff, Tree.holds, ltI_t, ltI_f, leI_t, leI_f, all_cons, all_nil, and_true, true_and, forall_eq, decide_eq_true_eq, decide_eq_false_iff_not, beq_iff_eq, beq_eq_false_iff_ne, bne_iff_ne, bne_eq_false_iff_eq, ne_eq, Decidable.not_not, selI_z, selB_z, selS_z, selN_z, selL_z, selI_s, selB_s, selS_s, selN_s, selL_s, Int.toNat_natCast, Nat.mul_one, Nat.zero_add, Nat.div_one, List.drop_zero, Nat.zero_mul, Nat.le_refl, Bool.not_eq_true', Bool.not_eq_false', Bool.false_eq_true, Bool.true_eq_false, not_true_eq_false, not_false_eq_true, false_imp_iff, true_imp_iff, if_true, if_false, sig, sigF, sigW, sigR, sigO, sigD, sigWD, List.map_cons, List.map_nil]
  refine ⟨fun _ => trivial, fun h' => ?_⟩
  obtain ⟨hs1, hs2⟩ := r2 (by omega) (by omega)
  obtain ⟨hs1', hs2'⟩ := r2' (by omega) (by omega)
  rw [unO_off] at hs2 hs2'
  have hx2 := sm_ansO hs2 hs2'
  have hxl := @ansO_len l o
  have e1 : ∀ l : List Med, D.list 25 (selN (impD l) 0) (selL (impD l) 0) = .list 25 l.length (offD l) := fun _ => rfl
  have e2 : ∀ l : List Med, selL (impD l) 0 = offD l := fun _ => rfl
  have e3 : ∀ l : List Med, selN (impD l) 0 = l.length := fun _ => rfl
  have k1 : ((1 : Int)).toNat = 1 := rfl
  have c1 := cntO_sm hs2
  have c2 := cntO_sm hs2'
  have c3 := cntO_sm hx2
  clear r2 r2' w0 w1
  simp only [unO_off, e1, e2, e3, k1, offD_take, offD_len, Int.toNat_natCast, mkO_len, cntO_mk, F_eao_szoff, F_eao_sanso, F_eao_tooffD, F_eao_iansoD, F_eao_eqoff, F_eao_mkoff, F_eao_hdoff, s_szoff, s_sanso, s_tooffD, s_iansoD, s_eqoff, s_mkoff, s_hdoff, Tree.holds, ltI_t, ltI_f, leI_t, leI_f, all_cons, all_nil, and_true, true_and, forall_eq, decide_eq_true_eq, decide_eq_false_iff_not, beq_iff_eq, beq_eq_false_iff_ne, bne_iff_ne, bne_eq_false_iff_eq, ne_eq, Decidable.not_not, selI_z, selB_z, selS_z, selN_z, selL_z, selI_s, selB_s, selS_s, selN_s, selL_s, Int.toNat_natCast, Nat.mul_one, Nat.zero_add, Nat.div_one, List.drop_zero, Nat.zero_mul, Nat.le_refl, Bool.not_eq_true', Bool.not_eq_false', Bool.false_eq_true, Bool.true_eq_false, not_true_eq_false, not_false_eq_true, false_imp_iff, true_imp_iff, if_true, if_false, sig, sigF, sigW, sigR, sigO, sigD, sigWD, List.map_cons, List.map_nil]
  generalize ansO l o = x at *
  have tk : List.take (x.length * 5) (offD (mkO 1 x)) = offD (mkO 1 x) := List.take_of_length_le (by rw [offD_len, mkO_len]; omega)
  simp only [tk, unO_off, mkO_len, cntO_mk, offD_len]
  have F := flat_off
  have A : ∀ l : List Med, l.length ≤ 1048576 → (∀ m ∈ l, smM m) → ∃ l_1, [D.list 35 l.length (offD l)] = lawD l_1 ∧ l_1.length ≤ 1048576 ∧ ∀ m ∈ l_1, smM m := fun l h1 h2 => ⟨l, rfl, h1, h2⟩
  have E : ∀ l : List Med, l.length ≤ 1048576 → (∀ m ∈ l, smM m) → ∃ l_1, [D.list 25 l.length (offD l), D.list 25 l.length (offD l)] = impD l_1 ++ impD l_1 ∧ l_1.length ≤ 1048576 ∧ ∀ m ∈ l_1, smM m := fun l h1 h2 => ⟨l, rfl, h1, h2⟩
  have P : ∃ l_1 o_1 : List Med, [D.list 25 l.length (offD l), .list 25 o.length (offD o)] = [.list 25 l_1.length (offD l_1), .list 25 o_1.length (offD o_1)] ∧ l_1.length ≤ 1048576 ∧ o_1.length ≤ 1048576 ∧ (∀ m ∈ l_1, smM m) ∧ ∀ m ∈ o_1, smM m := ⟨l, o, rfl, hs1, hs1', hs2, hs2'⟩
  have M : ∀ (l : List Med) (k : Nat), 1 ≤ k → k + cntO l ≤ 900000000000000 → (∀ m ∈ l, smM m) → ∃ (l_1 : List Med) (k_1 : Nat), [D.list 25 l.length (offD l), .int .i64 (k : Int)] = impD l_1 ++ [.int .i64 (k_1 : Int)] ∧ 1 ≤ k_1 ∧ k_1 + cntO l_1 ≤ 900000000000000 ∧ ∀ m ∈ l_1, wfM m := fun l k h1 h2 h3 => ⟨l, k, rfl, h1, h2, fun m hx => sm_max (h3 m hx)⟩
  have H : ∃ (l_1 : List Med) (k_1 : Nat), [D.list 25 x.length (offD (mkO 1 x)), .int .i64 1] = impD (mkO k_1 l_1) ++ [.int .i64 (k_1 : Int)] ∧ 1 ≤ k_1 ∧ k_1 + cntO l_1 ≤ 900000000000000 := ⟨x, 1, by unfold impD; rw [mkO_len]; rfl, by omega, by omega⟩
  have hxl' : x.length ≤ 1048576 := by omega
  repeat' (first | exact trivial | exact F _ | exact P | exact A l hs1 hs2 | exact A o hs1' hs2' | exact E l hs1 hs2 | exact E o hs1' hs2' | exact E x hxl' hx2 | exact H | exact same_off _ _ | exact M l 1 (by omega) (by omega) hs2 | exact M o _ (by omega) (by omega) hs2' | exact M x 1 (by omega) (by omega) hx2 | omega | (intro h9; exact absurd trivial h9) | (intro h9; exact absurd h9 (by omega)) | (intro _) | apply And.intro)
end Go.Proofs.Ytjleempapphlhab.Mini
end
