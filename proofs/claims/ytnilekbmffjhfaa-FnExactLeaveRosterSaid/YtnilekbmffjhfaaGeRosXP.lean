/- Parts of the proof: RosXP. -/
import Derived.Test.YtnilekbmffjhfaaGeRosX
import Derived.Test.YtnilekbmffjhfaaGeRosW
section
namespace Go.Proofs.Ytnilekbmffjhfaa.Mini
open Go Go.RowKit
set_option linter.unusedVariables false
set_option linter.unusedSimpArgs false
set_option maxRecDepth 20000
theorem ok_erv : FnOk Try.prog 4 s_erv := by
  refine fnOk (fn := Try.f4) (F := F_erv) (hs := hs_erv) (tab_cons ok_szS_Person (tab_cons ok_toS_Person (tab_cons ok_srosv (tab_cons ok_irosv (tab_cons ok_eqS_Person tab_nil))))) mixed rfl rfl rfl [.list 43] (by kernel_rfl) (by simp) ?_
  intro n cs hw
  obtain ⟨w0, -⟩ := hw
  obtain ⟨l, e, hl, hm⟩ := wf_roster w0
  simp only [D.list.injEq, true_and] at e
  obtain ⟨rfl, rfl⟩ := e
  refine ⟨fun h ys => False, fun h ys => 0, ?_, fun _ _ h => h.elim⟩
  rw [t_erv]
  have ok := okC_ros hm
  simp only [F_erv_szS_Person, F_erv_toS_Person, F_erv_srosv, F_erv_irosv, F_erv_eqS_Person, s_szS_Person, s_toS_Person, s_srosv, s_irosv, s_eqS_Person, Tree.holds, ltI_t, ltI_f, leI_t, leI_f, all_cons, all_nil, and_true, true_and, forall_eq, decide_eq_true_eq, decide_eq_false_iff_not, beq_iff_eq, beq_eq_false_iff_ne, bne_iff_ne, bne_eq_false_iff_eq, ne_eq, Decidable.not_not, selI_z, selB_z, selS_z, selN_z, selL_z, selI_s, selB_s, selS_s, selN_s, selL_s, Int.toNat_natCast, Nat.mul_one, Nat.zero_add, Nat.div_one, List.drop_zero, Nat.zero_mul, Nat.le_refl, Bool.not_eq_true', Bool.not_eq_false', Bool.false_eq_true, Bool.true_eq_false, not_true_eq_false, not_false_eq_true, false_imp_iff, true_imp_iff, if_true, if_false, sig, sigF, sigW, sigR, sigO, sigD, sigWD, List.map_cons, List.map_nil]
  refine ⟨⟨ok, hl, by omega, by omega⟩, ?_⟩
  rintro ys ⟨r, rfl, r0, r1, r2⟩
  simp only [F_erv_szS_Person, F_erv_toS_Person, F_erv_srosv, F_erv_irosv, F_erv_eqS_Person, s_szS_Person, s_toS_Person, s_srosv, s_irosv, s_eqS_Person, Tree.holds, ltI_t, ltI_f, leI_t, leI_f, all_cons, all_nil, and_true, true_and, forall_eq, decide_eq_true_eq, decide_eq_false_iff_not, beq_iff_eq, beq_eq_false_iff_ne, bne_iff_ne, bne_eq_false_iff_eq, ne_eq, Decidable.not_not, selI_z, selB_z, selS_z, selN_z, selL_z, selI_s, selB_s, selS_s, selN_s, selL_s, Int.toNat_natCast, Nat.mul_one, Nat.zero_add, Nat.div_one, List.drop_zero, Nat.zero_mul, Nat.le_refl, Bool.not_eq_true', Bool.not_eq_false', Bool.false_eq_true, Bool.true_eq_false, not_true_eq_false, not_false_eq_true, false_imp_iff, true_imp_iff, if_true, if_false, sig, sigF, sigW, sigR, sigO, sigD, sigWD, List.map_cons, List.map_nil]
  refine ⟨fun _ => trivial, fun h => ?_⟩
  obtain ⟨q1, q2⟩ := r2 (by omega)
  have sm := smR_of (by omega) q1 q2
  have s1 := sm.1
  simp only [unR_ros, rosD_take, rosD_len, F_erv_szS_Person, F_erv_toS_Person, F_erv_srosv, F_erv_irosv, F_erv_eqS_Person, s_szS_Person, s_toS_Person, s_srosv, s_irosv, s_eqS_Person, Tree.holds, ltI_t, ltI_f, leI_t, leI_f, all_cons, all_nil, and_true, true_and, forall_eq, decide_eq_true_eq, decide_eq_false_iff_not, beq_iff_eq, beq_eq_false_iff_ne, bne_iff_ne, bne_eq_false_iff_eq, ne_eq, Decidable.not_not, selI_z, selB_z, selS_z, selN_z, selL_z, selI_s, selB_s, selS_s, selN_s, selL_s, Int.toNat_natCast, Nat.mul_one, Nat.zero_add, Nat.div_one, List.drop_zero, Nat.zero_mul, Nat.le_refl, Bool.not_eq_true', Bool.not_eq_false', Bool.false_eq_true, Bool.true_eq_false, not_true_eq_false, not_false_eq_true, false_imp_iff, true_imp_iff, if_true, if_false, sig, sigF, sigW, sigR, sigO, sigD, sigWD, List.map_cons, List.map_nil]
  have P : ∃ l_1 : List Per, [D.list 28 l.length (rosD l)] = [.list 28 l_1.length (rosD l_1)] ∧ smR l_1 := ⟨l, rfl, sm⟩
  repeat' (first | exact trivial | exact P | exact ok | exact hl | omega | (intro h9; exact absurd trivial h9) | (intro h9; exact absurd h9 (by omega)) | (intro _) | apply And.intro)
  all_goals trace_state
theorem ok_epa : FnOk Try.prog 6 s_epa := by
  refine fnOk (fn := Try.f6) (F := F_epa) (hs := hs_epa) (tab_cons ok_szS_Person (tab_cons ok_toS_Person (tab_cons ok_sperat (tab_cons ok_iperat (tab_cons ok_eqS_Person tab_nil))))) mixed rfl rfl rfl [.list 43, .str] (by kernel_rfl) (by simp) ?_
  intro n cs w hw
  obtain ⟨w0, -⟩ := hw
  obtain ⟨l, e, hl, hm⟩ := wf_roster w0
  simp only [D.list.injEq, true_and] at e
  obtain ⟨rfl, rfl⟩ := e
  refine ⟨fun h ys => False, fun h ys => 0, ?_, fun _ _ h => h.elim⟩
  rw [t_epa]
  have ok := okC_ros hm
  simp only [F_epa_szS_Person, F_epa_toS_Person, F_epa_sperat, F_epa_iperat, F_epa_eqS_Person, s_szS_Person, s_toS_Person, s_sperat, s_iperat, s_eqS_Person, Tree.holds, ltI_t, ltI_f, leI_t, leI_f, all_cons, all_nil, and_true, true_and, forall_eq, decide_eq_true_eq, decide_eq_false_iff_not, beq_iff_eq, beq_eq_false_iff_ne, bne_iff_ne, bne_eq_false_iff_eq, ne_eq, Decidable.not_not, selI_z, selB_z, selS_z, selN_z, selL_z, selI_s, selB_s, selS_s, selN_s, selL_s, Int.toNat_natCast, Nat.mul_one, Nat.zero_add, Nat.div_one, List.drop_zero, Nat.zero_mul, Nat.le_refl, Bool.not_eq_true', Bool.not_eq_false', Bool.false_eq_true, Bool.true_eq_false, not_true_eq_false, not_false_eq_true, false_imp_iff, true_imp_iff, if_true, if_false, sig, sigF, sigW, sigR, sigO, sigD, sigWD, List.map_cons, List.map_nil]
  refine ⟨fun _ => trivial, fun hsz => ⟨⟨ok, hl, by omega, by omega⟩, ?_⟩⟩
  rintro ys ⟨r, rfl, r0, r1, r2⟩
  simp only [F_epa_szS_Person, F_epa_toS_Person, F_epa_sperat, F_epa_iperat, F_epa_eqS_Person, s_szS_Person, s_toS_Person, s_sperat, s_iperat, s_eqS_Person, Tree.holds, ltI_t, ltI_f, leI_t, leI_f, all_cons, all_nil, and_true, true_and, forall_eq, decide_eq_true_eq, decide_eq_false_iff_not, beq_iff_eq, beq_eq_false_iff_ne, bne_iff_ne, bne_eq_false_iff_eq, ne_eq, Decidable.not_not, selI_z, selB_z, selS_z, selN_z, selL_z, selI_s, selB_s, selS_s, selN_s, selL_s, Int.toNat_natCast, Nat.mul_one, Nat.zero_add, Nat.div_one, List.drop_zero, Nat.zero_mul, Nat.le_refl, Bool.not_eq_true', Bool.not_eq_false', Bool.false_eq_true, Bool.true_eq_false, not_true_eq_false, not_false_eq_true, false_imp_iff, true_imp_iff, if_true, if_false, sig, sigF, sigW, sigR, sigO, sigD, sigWD, List.map_cons, List.map_nil]
  refine ⟨fun _ => trivial, fun h => ?_⟩
  obtain ⟨q1, q2⟩ := r2 (by omega)
  have sm := smR_of (by omega) q1 q2
  have s1 := sm.1
  simp only [unR_ros, rosD_take, rosD_len, F_epa_szS_Person, F_epa_toS_Person, F_epa_sperat, F_epa_iperat, F_epa_eqS_Person, s_szS_Person, s_toS_Person, s_sperat, s_iperat, s_eqS_Person, Tree.holds, ltI_t, ltI_f, leI_t, leI_f, all_cons, all_nil, and_true, true_and, forall_eq, decide_eq_true_eq, decide_eq_false_iff_not, beq_iff_eq, beq_eq_false_iff_ne, bne_iff_ne, bne_eq_false_iff_eq, ne_eq, Decidable.not_not, selI_z, selB_z, selS_z, selN_z, selL_z, selI_s, selB_s, selS_s, selN_s, selL_s, Int.toNat_natCast, Nat.mul_one, Nat.zero_add, Nat.div_one, List.drop_zero, Nat.zero_mul, Nat.le_refl, Bool.not_eq_true', Bool.not_eq_false', Bool.false_eq_true, Bool.true_eq_false, not_true_eq_false, not_false_eq_true, false_imp_iff, true_imp_iff, if_true, if_false, sig, sigF, sigW, sigR, sigO, sigD, sigWD, List.map_cons, List.map_nil]
  have P : ∃ (l_1 : List Per) (w_1 : ByteArray), [D.list 28 l.length (rosD l), .str w] = [.list 28 l_1.length (rosD l_1), .str w_1] ∧ smR l_1 := ⟨l, w, rfl, sm⟩
  repeat' (first | exact trivial | exact P | exact ok | exact hl | omega | (intro h9; exact absurd trivial h9) | (intro h9; exact absurd h9 (by omega)) | (intro _) | apply And.intro)
  all_goals trace_state
theorem ok_ejr : FnOk Try.prog 8 s_ejr := by
  refine fnOk (fn := Try.f8) (F := F_ejr) (hs := hs_ejr) (tab_cons ok_szS_Person (tab_cons ok_sz_Person (tab_cons ok_toS_Person (tab_cons ok_to_Person (tab_cons ok_sjoin (tab_cons ok_ijoin (tab_cons ok_eqS_Person (tab_cons ok_markS_Person (tab_cons ok_heldS_Person tab_nil))))))))) mixed rfl rfl rfl [.list 43, .str, .int .i64, .bool] (by kernel_rfl) (by simp) ?_
  intro n cs pw pr pm hw
  obtain ⟨w0, w1, w2, w3, -⟩ := hw
  obtain ⟨l, e, hl, hm⟩ := wf_roster w0
  simp only [D.list.injEq, true_and] at e
  obtain ⟨rfl, rfl⟩ := e
  obtain ⟨p, e, hp⟩ := wf_person w1 w2 w3
  simp only [perD, List.cons.injEq, D.str.injEq, D.int.injEq, D.bool.injEq, true_and, and_true] at e
  obtain ⟨rfl, rfl, rfl⟩ := e
  refine ⟨fun h ys => False, fun h ys => 0, ?_, fun _ _ h => h.elim⟩
  rw [t_ejr]
  have ok := okC_ros hm
  simp only [F_ejr_szS_Person, F_ejr_sz_Person, F_ejr_toS_Person, F_ejr_to_Person, F_ejr_sjoin, F_ejr_ijoin, F_ejr_eqS_Person, F_ejr_markS_Person, F_ejr_heldS_Person, s_szS_Person, s_sz_Person, s_toS_Person, s_to_Person, s_sjoin, s_ijoin, s_eqS_Person, s_markS_Person, s_heldS_Person, Tree.holds, ltI_t, ltI_f, leI_t, leI_f, all_cons, all_nil, and_true, true_and, forall_eq, decide_eq_true_eq, decide_eq_false_iff_not, beq_iff_eq, beq_eq_false_iff_ne, bne_iff_ne, bne_eq_false_iff_eq, ne_eq, Decidable.not_not, selI_z, selB_z, selS_z, selN_z, selL_z, selI_s, selB_s, selS_s, selN_s, selL_s, Int.toNat_natCast, Nat.mul_one, Nat.zero_add, Nat.div_one, List.drop_zero, Nat.zero_mul, Nat.le_refl, Bool.not_eq_true', Bool.not_eq_false', Bool.false_eq_true, Bool.true_eq_false, not_true_eq_false, not_false_eq_true, false_imp_iff, true_imp_iff, if_true, if_false, sig, sigF, sigW, sigR, sigO, sigD, sigWD, List.map_cons, List.map_nil]
  refine ⟨⟨ok, hl, by omega, by omega⟩, ?_⟩
  rintro ys ⟨r, rfl, r0, r1, r2⟩
  simp only [F_ejr_szS_Person, F_ejr_sz_Person, F_ejr_toS_Person, F_ejr_to_Person, F_ejr_sjoin, F_ejr_ijoin, F_ejr_eqS_Person, F_ejr_markS_Person, F_ejr_heldS_Person, s_szS_Person, s_sz_Person, s_toS_Person, s_to_Person, s_sjoin, s_ijoin, s_eqS_Person, s_markS_Person, s_heldS_Person, Tree.holds, ltI_t, ltI_f, leI_t, leI_f, all_cons, all_nil, and_true, true_and, forall_eq, decide_eq_true_eq, decide_eq_false_iff_not, beq_iff_eq, beq_eq_false_iff_ne, bne_iff_ne, bne_eq_false_iff_eq, ne_eq, Decidable.not_not, selI_z, selB_z, selS_z, selN_z, selL_z, selI_s, selB_s, selS_s, selN_s, selL_s, Int.toNat_natCast, Nat.mul_one, Nat.zero_add, Nat.div_one, List.drop_zero, Nat.zero_mul, Nat.le_refl, Bool.not_eq_true', Bool.not_eq_false', Bool.false_eq_true, Bool.true_eq_false, not_true_eq_false, not_false_eq_true, false_imp_iff, true_imp_iff, if_true, if_false, sig, sigF, sigW, sigR, sigO, sigD, sigWD, List.map_cons, List.map_nil]
  refine ⟨fun _ => trivial, fun h => ⟨⟨hp.1, by omega, by omega⟩, ?_⟩⟩
  rintro ys ⟨r', rfl, r0', r1', r2'⟩
  simp only [F_ejr_szS_Person, F_ejr_sz_Person, F_ejr_toS_Person, F_ejr_to_Person, F_ejr_sjoin, F_ejr_ijoin, F_ejr_eqS_Person, F_ejr_markS_Person, F_ejr_heldS_Person, s_szS_Person, s_sz_Person, s_toS_Person, s_to_Person, s_sjoin, s_ijoin, s_eqS_Person, s_markS_Person, s_heldS_Person, Tree.holds, ltI_t, ltI_f, leI_t, leI_f, all_cons, all_nil, and_true, true_and, forall_eq, decide_eq_true_eq, decide_eq_false_iff_not, beq_iff_eq, beq_eq_false_iff_ne, bne_iff_ne, bne_eq_false_iff_eq, ne_eq, Decidable.not_not, selI_z, selB_z, selS_z, selN_z, selL_z, selI_s, selB_s, selS_s, selN_s, selL_s, Int.toNat_natCast, Nat.mul_one, Nat.zero_add, Nat.div_one, List.drop_zero, Nat.zero_mul, Nat.le_refl, Bool.not_eq_true', Bool.not_eq_false', Bool.false_eq_true, Bool.true_eq_false, not_true_eq_false, not_false_eq_true, false_imp_iff, true_imp_iff, if_true, if_false, sig, sigF, sigW, sigR, sigO, sigD, sigWD, List.map_cons, List.map_nil]
  refine ⟨fun _ => trivial, fun h' => ?_⟩
  obtain ⟨q1, q2⟩ := r2 (by omega)
  have sm := smR_of (by omega) q1 q2
  have s1 := sm.1
  have sp := r2' (by omega)
  have hu : ∀ R : List D, unP (D.str p.w :: .int .i64 p.r :: .bool p.m :: R) = p := fun R => rfl
  have hp' := hp
  obtain ⟨hp, hpr⟩ := hp
  obtain ⟨j1, j2⟩ := join_ok sm hm hp'
  have okx := okC_ros j2
  have k1 : ((1 : Int)).toNat = 1 := rfl
  simp only [unR_ros, rosD_take, rosD_len, hu, rosR, k1, List.drop_succ_cons, List.drop_zero, F_ejr_szS_Person, F_ejr_sz_Person, F_ejr_toS_Person, F_ejr_to_Person, F_ejr_sjoin, F_ejr_ijoin, F_ejr_eqS_Person, F_ejr_markS_Person, F_ejr_heldS_Person, s_szS_Person, s_sz_Person, s_toS_Person, s_to_Person, s_sjoin, s_ijoin, s_eqS_Person, s_markS_Person, s_heldS_Person, Tree.holds, ltI_t, ltI_f, leI_t, leI_f, all_cons, all_nil, and_true, true_and, forall_eq, decide_eq_true_eq, decide_eq_false_iff_not, beq_iff_eq, beq_eq_false_iff_ne, bne_iff_ne, bne_eq_false_iff_eq, ne_eq, Decidable.not_not, selI_z, selB_z, selS_z, selN_z, selL_z, selI_s, selB_s, selS_s, selN_s, selL_s, Int.toNat_natCast, Nat.mul_one, Nat.zero_add, Nat.div_one, List.drop_zero, Nat.zero_mul, Nat.le_refl, Bool.not_eq_true', Bool.not_eq_false', Bool.false_eq_true, Bool.true_eq_false, not_true_eq_false, not_false_eq_true, false_imp_iff, true_imp_iff, if_true, if_false, sig, sigF, sigW, sigR, sigO, sigD, sigWD, List.map_cons, List.map_nil]
  generalize joinP l p = x at *
  obtain ⟨x, b⟩ := x
  have P : ∃ (l_1 : List Per) (p_1 : Per), [D.list 28 l.length (rosD l), .str p.w, .int .i64 p.r, .bool p.m] = D.list 28 l_1.length (rosD l_1) :: perD p_1 ∧ smR l_1 ∧ p_1.w.size ≤ 1048576 := ⟨l, p, rfl, sm, by omega⟩
  have lx : (mks [.str, .int .i64, .bool] 1 (x.length * 3)).length = x.length * 3 := mks_len _ _ _
  have tx : List.take (x.length * 3) (mks [.str, .int .i64, .bool] 1 (x.length * 3)) = mks [.str, .int .i64, .bool] 1 (x.length * 3) := List.take_of_length_le (by omega)
  have scl := rosD_scal l
  have scx := rosD_scal x
  have j1 : x.length ≤ 1048577 := j1
  have okx : okC [.str, .int .i64, .bool] x.length (rosD x) := okx
  repeat' (first | exact trivial | exact P | exact ok | exact okx | exact tx | exact Nat.le_of_eq lx.symm | (unfold maxLen; omega) | exact scl | exact scx | exact hl | omega | (intro h9; exact absurd trivial h9) | (intro h9; exact absurd h9 (by omega)) | (intro _) | apply And.intro)
  all_goals trace_state
theorem ok_elr : FnOk Try.prog 10 s_elr := by
  refine fnOk (fn := Try.f10) (F := F_elr) (hs := hs_elr) (tab_cons ok_szS_Person (tab_cons ok_toS_Person (tab_cons ok_sleave (tab_cons ok_ileave (tab_cons ok_eqS_Person (tab_cons ok_markS_Person (tab_cons ok_heldS_Person tab_nil))))))) mixed rfl rfl rfl [.list 43, .str] (by kernel_rfl) (by simp) ?_
  intro n cs w hw
  obtain ⟨w0, -⟩ := hw
  obtain ⟨l, e, hl, hm⟩ := wf_roster w0
  simp only [D.list.injEq, true_and] at e
  obtain ⟨rfl, rfl⟩ := e
  refine ⟨fun h ys => False, fun h ys => 0, ?_, fun _ _ h => h.elim⟩
  rw [t_elr]
  have ok := okC_ros hm
  simp only [F_elr_szS_Person, F_elr_toS_Person, F_elr_sleave, F_elr_ileave, F_elr_eqS_Person, F_elr_markS_Person, F_elr_heldS_Person, s_szS_Person, s_toS_Person, s_sleave, s_ileave, s_eqS_Person, s_markS_Person, s_heldS_Person, Tree.holds, ltI_t, ltI_f, leI_t, leI_f, all_cons, all_nil, and_true, true_and, forall_eq, decide_eq_true_eq, decide_eq_false_iff_not, beq_iff_eq, beq_eq_false_iff_ne, bne_iff_ne, bne_eq_false_iff_eq, ne_eq, Decidable.not_not, selI_z, selB_z, selS_z, selN_z, selL_z, selI_s, selB_s, selS_s, selN_s, selL_s, Int.toNat_natCast, Nat.mul_one, Nat.zero_add, Nat.div_one, List.drop_zero, Nat.zero_mul, Nat.le_refl, Bool.not_eq_true', Bool.not_eq_false', Bool.false_eq_true, Bool.true_eq_false, not_true_eq_false, not_false_eq_true, false_imp_iff, true_imp_iff, if_true, if_false, sig, sigF, sigW, sigR, sigO, sigD, sigWD, List.map_cons, List.map_nil]
  refine ⟨fun _ => trivial, fun hsz => ⟨⟨ok, hl, by omega, by omega⟩, ?_⟩⟩
  rintro ys ⟨r, rfl, r0, r1, r2⟩
  simp only [F_elr_szS_Person, F_elr_toS_Person, F_elr_sleave, F_elr_ileave, F_elr_eqS_Person, F_elr_markS_Person, F_elr_heldS_Person, s_szS_Person, s_toS_Person, s_sleave, s_ileave, s_eqS_Person, s_markS_Person, s_heldS_Person, Tree.holds, ltI_t, ltI_f, leI_t, leI_f, all_cons, all_nil, and_true, true_and, forall_eq, decide_eq_true_eq, decide_eq_false_iff_not, beq_iff_eq, beq_eq_false_iff_ne, bne_iff_ne, bne_eq_false_iff_eq, ne_eq, Decidable.not_not, selI_z, selB_z, selS_z, selN_z, selL_z, selI_s, selB_s, selS_s, selN_s, selL_s, Int.toNat_natCast, Nat.mul_one, Nat.zero_add, Nat.div_one, List.drop_zero, Nat.zero_mul, Nat.le_refl, Bool.not_eq_true', Bool.not_eq_false', Bool.false_eq_true, Bool.true_eq_false, not_true_eq_false, not_false_eq_true, false_imp_iff, true_imp_iff, if_true, if_false, sig, sigF, sigW, sigR, sigO, sigD, sigWD, List.map_cons, List.map_nil]
  refine ⟨fun _ => trivial, fun h => ?_⟩
  obtain ⟨q1, q2⟩ := r2 (by omega)
  have sm := smR_of (by omega) q1 q2
  have s1 := sm.1
  obtain ⟨j1, j2⟩ := leave_ok (w := w) hm
  have okx := okC_ros j2
  have k1 : ((1 : Int)).toNat = 1 := rfl
  simp only [unR_ros, rosD_take, rosD_len, rosR, k1, List.drop_succ_cons, List.drop_zero, F_elr_szS_Person, F_elr_toS_Person, F_elr_sleave, F_elr_ileave, F_elr_eqS_Person, F_elr_markS_Person, F_elr_heldS_Person, s_szS_Person, s_toS_Person, s_sleave, s_ileave, s_eqS_Person, s_markS_Person, s_heldS_Person, Tree.holds, ltI_t, ltI_f, leI_t, leI_f, all_cons, all_nil, and_true, true_and, forall_eq, decide_eq_true_eq, decide_eq_false_iff_not, beq_iff_eq, beq_eq_false_iff_ne, bne_iff_ne, bne_eq_false_iff_eq, ne_eq, Decidable.not_not, selI_z, selB_z, selS_z, selN_z, selL_z, selI_s, selB_s, selS_s, selN_s, selL_s, Int.toNat_natCast, Nat.mul_one, Nat.zero_add, Nat.div_one, List.drop_zero, Nat.zero_mul, Nat.le_refl, Bool.not_eq_true', Bool.not_eq_false', Bool.false_eq_true, Bool.true_eq_false, not_true_eq_false, not_false_eq_true, false_imp_iff, true_imp_iff, if_true, if_false, sig, sigF, sigW, sigR, sigO, sigD, sigWD, List.map_cons, List.map_nil]
  generalize leaveP l w = x at *
  obtain ⟨x, b⟩ := x
  have P : ∃ (l_1 : List Per) (w_1 : ByteArray), [D.list 28 l.length (rosD l), .str w] = [.list 28 l_1.length (rosD l_1), .str w_1] ∧ smR l_1 := ⟨l, w, rfl, sm⟩
  have lx : (mks [.str, .int .i64, .bool] 1 (x.length * 3)).length = x.length * 3 := mks_len _ _ _
  have tx : List.take (x.length * 3) (mks [.str, .int .i64, .bool] 1 (x.length * 3)) = mks [.str, .int .i64, .bool] 1 (x.length * 3) := List.take_of_length_le (by omega)
  have scl := rosD_scal l
  have scx := rosD_scal x
  have j1 : x.length ≤ l.length := j1
  have okx : okC [.str, .int .i64, .bool] x.length (rosD x) := okx
  repeat' (first | exact trivial | exact P | exact ok | exact okx | exact tx | exact Nat.le_of_eq lx.symm | (unfold maxLen; omega) | exact scl | exact scx | exact hl | omega | (intro h9; exact absurd trivial h9) | (intro h9; exact absurd h9 (by omega)) | (intro _) | apply And.intro)
  all_goals trace_state
end Go.Proofs.Ytnilekbmffjhfaa.Mini
end
