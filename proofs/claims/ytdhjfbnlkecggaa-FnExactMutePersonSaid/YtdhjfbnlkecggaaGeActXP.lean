/- Parts of the proof: ActXP. -/
import Derived.Test.YtdhjfbnlkecggaaGeActX
section
namespace Go.Proofs.Ytdhjfbnlkecggaa.Mini
open Go Go.RowKit
set_option linter.unusedVariables false
set_option linter.unusedSimpArgs false
set_option maxRecDepth 20000
theorem setM_ok {l : List Per} {w : ByteArray} {m : Bool} (hl : ∀ q ∈ l, okP q) (p : 0 ≤ atP l w) : ∀ q ∈ setM l w m, okP q := fun q hq => by
  rcases List.mem_or_eq_of_mem_set hq with hq | rfl
  · exact hl q hq
  · exact hl (oneP l w) (one_in p).2
theorem setR_ok {l : List Per} {w : ByteArray} {r : Int} (hl : ∀ q ∈ l, okP q) (p : 0 ≤ atP l w) (hr : inB r 0 2 = true) : ∀ q ∈ setR l w r, okP q := fun q hq => by
  rcases List.mem_or_eq_of_mem_set hq with hq | rfl
  · exact hl q hq
  · refine ⟨(hl (oneP l w) (one_in p).2).1, ?_⟩
    show inK .i64 r
    have hr := inB_iff.mp hr
    unfold inK
    omega
theorem mute_ok {l : List Per} {a b : ByteArray} {m : Bool} (hl : ∀ q ∈ l, okP q) : (muteP l a b m).1.length ≤ l.length ∧ ∀ q ∈ (muteP l a b m).1, okP q := by
  rcases mute_cases l a b m with ⟨_, e | e⟩ | ⟨_, _, e, _, e2⟩
  · rw [e]; exact ⟨Nat.le_refl _, hl⟩
  · rw [e]; exact ⟨Nat.zero_le _, fun q hq => by cases hq⟩
  · rw [e2]; exact ⟨by rw [setM_len]; omega, setM_ok hl (act_at e).2.1⟩
theorem raise_ok {l : List Per} {a b : ByteArray} {r : Int} (hl : ∀ q ∈ l, okP q) : (raiseP l a b r).1.length ≤ l.length ∧ ∀ q ∈ (raiseP l a b r).1, okP q := by
  rcases raise_cases l a b r with ⟨_, e | e⟩ | ⟨_, _, e, e3, _, e2⟩
  · rw [e]; exact ⟨Nat.le_refl _, hl⟩
  · rw [e]; exact ⟨Nat.zero_le _, fun q hq => by cases hq⟩
  · rw [e2]; exact ⟨by rw [setR_len]; omega, setR_ok hl (act_at e).2.1 e3⟩
theorem ok_ema : FnOk Try.prog 4 s_ema := by
  refine fnOk (fn := Try.f4) (F := F_ema) (hs := hs_ema) (tab_cons ok_szS_Person (tab_cons ok_toS_Person (tab_cons ok_sact (tab_cons ok_iact (tab_cons ok_eqS_Person tab_nil))))) mixed rfl rfl rfl [.list 56, .str, .int .i64, .str] (by kernel_rfl) (by simp) ?_
  intro n cs a d b hw
  obtain ⟨w0, -⟩ := hw
  obtain ⟨l, e, hl, hm⟩ := wf_roster w0
  simp only [D.list.injEq, true_and] at e
  obtain ⟨rfl, rfl⟩ := e
  refine ⟨fun h ys => False, fun h ys => 0, ?_, fun _ _ h => h.elim⟩
  rw [t_ema]
  have ok := okC_ros hm
  simp only [F_ema_szS_Person, F_ema_toS_Person, F_ema_sact, F_ema_iact, F_ema_eqS_Person, s_szS_Person, s_toS_Person, s_sact, s_iact, s_eqS_Person, Tree.holds, ltI_t, ltI_f, leI_t, leI_f, all_cons, all_nil, and_true, true_and, forall_eq, decide_eq_true_eq, decide_eq_false_iff_not, beq_iff_eq, beq_eq_false_iff_ne, bne_iff_ne, bne_eq_false_iff_eq, ne_eq, Decidable.not_not, selI_z, selB_z, selS_z, selN_z, selL_z, selI_s, selB_s, selS_s, selN_s, selL_s, Int.toNat_natCast, Nat.mul_one, Nat.zero_add, Nat.div_one, List.drop_zero, Nat.zero_mul, Nat.le_refl, Bool.not_eq_true', Bool.not_eq_false', Bool.false_eq_true, Bool.true_eq_false, not_true_eq_false, not_false_eq_true, false_imp_iff, true_imp_iff, if_true, if_false, sig, sigF, sigW, sigR, sigO, sigD, sigWD, List.map_cons, List.map_nil]
  refine ⟨fun _ => trivial, fun hsz => ⟨fun _ => trivial, fun hsz2 => ⟨⟨ok, hl, by omega, by omega⟩, ?_⟩⟩⟩
  rintro ys ⟨r, rfl, r0, r1, r2⟩
  simp only [F_ema_szS_Person, F_ema_toS_Person, F_ema_sact, F_ema_iact, F_ema_eqS_Person, s_szS_Person, s_toS_Person, s_sact, s_iact, s_eqS_Person, Tree.holds, ltI_t, ltI_f, leI_t, leI_f, all_cons, all_nil, and_true, true_and, forall_eq, decide_eq_true_eq, decide_eq_false_iff_not, beq_iff_eq, beq_eq_false_iff_ne, bne_iff_ne, bne_eq_false_iff_eq, ne_eq, Decidable.not_not, selI_z, selB_z, selS_z, selN_z, selL_z, selI_s, selB_s, selS_s, selN_s, selL_s, Int.toNat_natCast, Nat.mul_one, Nat.zero_add, Nat.div_one, List.drop_zero, Nat.zero_mul, Nat.le_refl, Bool.not_eq_true', Bool.not_eq_false', Bool.false_eq_true, Bool.true_eq_false, not_true_eq_false, not_false_eq_true, false_imp_iff, true_imp_iff, if_true, if_false, sig, sigF, sigW, sigR, sigO, sigD, sigWD, List.map_cons, List.map_nil]
  refine ⟨fun _ => trivial, fun h => ?_⟩
  obtain ⟨q1, q2⟩ := r2 (by omega)
  have sm := smR_of (by omega) q1 q2
  have s1 := sm.1
  simp only [unR_ros, rosD_take, rosD_len, F_ema_szS_Person, F_ema_toS_Person, F_ema_sact, F_ema_iact, F_ema_eqS_Person, s_szS_Person, s_toS_Person, s_sact, s_iact, s_eqS_Person, Tree.holds, ltI_t, ltI_f, leI_t, leI_f, all_cons, all_nil, and_true, true_and, forall_eq, decide_eq_true_eq, decide_eq_false_iff_not, beq_iff_eq, beq_eq_false_iff_ne, bne_iff_ne, bne_eq_false_iff_eq, ne_eq, Decidable.not_not, selI_z, selB_z, selS_z, selN_z, selL_z, selI_s, selB_s, selS_s, selN_s, selL_s, Int.toNat_natCast, Nat.mul_one, Nat.zero_add, Nat.div_one, List.drop_zero, Nat.zero_mul, Nat.le_refl, Bool.not_eq_true', Bool.not_eq_false', Bool.false_eq_true, Bool.true_eq_false, not_true_eq_false, not_false_eq_true, false_imp_iff, true_imp_iff, if_true, if_false, sig, sigF, sigW, sigR, sigO, sigD, sigWD, List.map_cons, List.map_nil]
  have P : ∃ (l_1 : List Per) (a_1 : ByteArray) (d_1 : Int) (b_1 : ByteArray), [D.list 30 l.length (rosD l), .str a, .int .i64 d, .str b] = [.list 30 l_1.length (rosD l_1), .str a_1, .int .i64 d_1, .str b_1] ∧ smR l_1 := ⟨l, a, d, b, rfl, sm⟩
  repeat' (first | exact trivial | exact P | exact ok | exact hl | omega | (intro h9; exact absurd trivial h9) | (intro h9; exact absurd h9 (by omega)) | (intro _) | apply And.intro)
  all_goals trace_state
theorem ok_emp : FnOk Try.prog 6 s_emp := by
  refine fnOk (fn := Try.f6) (F := F_emp) (hs := hs_emp) (tab_cons ok_szS_Person (tab_cons ok_toS_Person (tab_cons ok_smute (tab_cons ok_imute (tab_cons ok_eqS_Person (tab_cons ok_markS_Person (tab_cons ok_heldS_Person tab_nil))))))) mixed rfl rfl rfl [.list 56, .str, .str, .bool] (by kernel_rfl) (by simp) ?_
  intro n cs a b m hw
  obtain ⟨w0, -⟩ := hw
  obtain ⟨l, e, hl, hm⟩ := wf_roster w0
  simp only [D.list.injEq, true_and] at e
  obtain ⟨rfl, rfl⟩ := e
  refine ⟨fun h ys => False, fun h ys => 0, ?_, fun _ _ h => h.elim⟩
  rw [t_emp]
  have ok := okC_ros hm
  simp only [F_emp_szS_Person, F_emp_toS_Person, F_emp_smute, F_emp_imute, F_emp_eqS_Person, F_emp_markS_Person, F_emp_heldS_Person, s_szS_Person, s_toS_Person, s_smute, s_imute, s_eqS_Person, s_markS_Person, s_heldS_Person, Tree.holds, ltI_t, ltI_f, leI_t, leI_f, all_cons, all_nil, and_true, true_and, forall_eq, decide_eq_true_eq, decide_eq_false_iff_not, beq_iff_eq, beq_eq_false_iff_ne, bne_iff_ne, bne_eq_false_iff_eq, ne_eq, Decidable.not_not, selI_z, selB_z, selS_z, selN_z, selL_z, selI_s, selB_s, selS_s, selN_s, selL_s, Int.toNat_natCast, Nat.mul_one, Nat.zero_add, Nat.div_one, List.drop_zero, Nat.zero_mul, Nat.le_refl, Bool.not_eq_true', Bool.not_eq_false', Bool.false_eq_true, Bool.true_eq_false, not_true_eq_false, not_false_eq_true, false_imp_iff, true_imp_iff, if_true, if_false, sig, sigF, sigW, sigR, sigO, sigD, sigWD, List.map_cons, List.map_nil]
  refine ⟨fun _ => trivial, fun hsz => ⟨fun _ => trivial, fun hsz2 => ⟨⟨ok, hl, by omega, by omega⟩, ?_⟩⟩⟩
  rintro ys ⟨r, rfl, r0, r1, r2⟩
  simp only [F_emp_szS_Person, F_emp_toS_Person, F_emp_smute, F_emp_imute, F_emp_eqS_Person, F_emp_markS_Person, F_emp_heldS_Person, s_szS_Person, s_toS_Person, s_smute, s_imute, s_eqS_Person, s_markS_Person, s_heldS_Person, Tree.holds, ltI_t, ltI_f, leI_t, leI_f, all_cons, all_nil, and_true, true_and, forall_eq, decide_eq_true_eq, decide_eq_false_iff_not, beq_iff_eq, beq_eq_false_iff_ne, bne_iff_ne, bne_eq_false_iff_eq, ne_eq, Decidable.not_not, selI_z, selB_z, selS_z, selN_z, selL_z, selI_s, selB_s, selS_s, selN_s, selL_s, Int.toNat_natCast, Nat.mul_one, Nat.zero_add, Nat.div_one, List.drop_zero, Nat.zero_mul, Nat.le_refl, Bool.not_eq_true', Bool.not_eq_false', Bool.false_eq_true, Bool.true_eq_false, not_true_eq_false, not_false_eq_true, false_imp_iff, true_imp_iff, if_true, if_false, sig, sigF, sigW, sigR, sigO, sigD, sigWD, List.map_cons, List.map_nil]
  refine ⟨fun _ => trivial, fun h => ?_⟩
  obtain ⟨q1, q2⟩ := r2 (by omega)
  have sm := smR_of (by omega) q1 q2
  have s1 := sm.1
  obtain ⟨j1, j2⟩ := mute_ok (a := a) (b := b) (m := m) hm
  have okx := okC_ros j2
  have k1 : ((1 : Int)).toNat = 1 := rfl
  simp only [unR_ros, rosD_take, rosD_len, rosR, k1, List.drop_succ_cons, List.drop_zero, F_emp_szS_Person, F_emp_toS_Person, F_emp_smute, F_emp_imute, F_emp_eqS_Person, F_emp_markS_Person, F_emp_heldS_Person, s_szS_Person, s_toS_Person, s_smute, s_imute, s_eqS_Person, s_markS_Person, s_heldS_Person, Tree.holds, ltI_t, ltI_f, leI_t, leI_f, all_cons, all_nil, and_true, true_and, forall_eq, decide_eq_true_eq, decide_eq_false_iff_not, beq_iff_eq, beq_eq_false_iff_ne, bne_iff_ne, bne_eq_false_iff_eq, ne_eq, Decidable.not_not, selI_z, selB_z, selS_z, selN_z, selL_z, selI_s, selB_s, selS_s, selN_s, selL_s, Int.toNat_natCast, Nat.mul_one, Nat.zero_add, Nat.div_one, List.drop_zero, Nat.zero_mul, Nat.le_refl, Bool.not_eq_true', Bool.not_eq_false', Bool.false_eq_true, Bool.true_eq_false, not_true_eq_false, not_false_eq_true, false_imp_iff, true_imp_iff, if_true, if_false, sig, sigF, sigW, sigR, sigO, sigD, sigWD, List.map_cons, List.map_nil]
  generalize muteP l a b m = x at *
  obtain ⟨x, bb⟩ := x
  have lx : (mks [.str, .int .i64, .bool] 1 (x.length * 3)).length = x.length * 3 := mks_len _ _ _
  have tx : List.take (x.length * 3) (mks [.str, .int .i64, .bool] 1 (x.length * 3)) = mks [.str, .int .i64, .bool] 1 (x.length * 3) := List.take_of_length_le (by omega)
  have scl := rosD_scal l
  have scx := rosD_scal x
  have j1 : x.length ≤ l.length := j1
  have okx : okC [.str, .int .i64, .bool] x.length (rosD x) := okx
  have P : ∃ (l_1 : List Per) (a_1 b_1 : ByteArray) (m_1 : Bool), [D.list 30 l.length (rosD l), .str a, .str b, .bool m] = [.list 30 l_1.length (rosD l_1), .str a_1, .str b_1, .bool m_1] ∧ smR l_1 := ⟨l, a, b, m, rfl, sm⟩
  repeat' (first | exact trivial | exact P | exact ok | exact okx | exact tx | exact Nat.le_of_eq lx.symm | (unfold maxLen; omega) | exact scl | exact scx | exact hl | omega | (intro h9; exact absurd trivial h9) | (intro h9; exact absurd h9 (by omega)) | (intro _) | apply And.intro)
  all_goals trace_state
theorem ok_erp : FnOk Try.prog 8 s_erp := by
  refine fnOk (fn := Try.f8) (F := F_erp) (hs := hs_erp) (tab_cons ok_szS_Person (tab_cons ok_toS_Person (tab_cons ok_sraise (tab_cons ok_iraise (tab_cons ok_eqS_Person (tab_cons ok_markS_Person (tab_cons ok_heldS_Person tab_nil))))))) mixed rfl rfl rfl [.list 56, .str, .str, .int .i64] (by kernel_rfl) (by simp) ?_
  intro n cs a b r hw
  obtain ⟨w0, -⟩ := hw
  obtain ⟨l, e, hl, hm⟩ := wf_roster w0
  simp only [D.list.injEq, true_and] at e
  obtain ⟨rfl, rfl⟩ := e
  refine ⟨fun h ys => False, fun h ys => 0, ?_, fun _ _ h => h.elim⟩
  rw [t_erp]
  have ok := okC_ros hm
  simp only [F_erp_szS_Person, F_erp_toS_Person, F_erp_sraise, F_erp_iraise, F_erp_eqS_Person, F_erp_markS_Person, F_erp_heldS_Person, s_szS_Person, s_toS_Person, s_sraise, s_iraise, s_eqS_Person, s_markS_Person, s_heldS_Person, Tree.holds, ltI_t, ltI_f, leI_t, leI_f, all_cons, all_nil, and_true, true_and, forall_eq, decide_eq_true_eq, decide_eq_false_iff_not, beq_iff_eq, beq_eq_false_iff_ne, bne_iff_ne, bne_eq_false_iff_eq, ne_eq, Decidable.not_not, selI_z, selB_z, selS_z, selN_z, selL_z, selI_s, selB_s, selS_s, selN_s, selL_s, Int.toNat_natCast, Nat.mul_one, Nat.zero_add, Nat.div_one, List.drop_zero, Nat.zero_mul, Nat.le_refl, Bool.not_eq_true', Bool.not_eq_false', Bool.false_eq_true, Bool.true_eq_false, not_true_eq_false, not_false_eq_true, false_imp_iff, true_imp_iff, if_true, if_false, sig, sigF, sigW, sigR, sigO, sigD, sigWD, List.map_cons, List.map_nil]
  refine ⟨fun _ => trivial, fun hsz => ⟨fun _ => trivial, fun hsz2 => ⟨⟨ok, hl, by omega, by omega⟩, ?_⟩⟩⟩
  rintro ys ⟨rr, rfl, r0, r1, r2⟩
  simp only [F_erp_szS_Person, F_erp_toS_Person, F_erp_sraise, F_erp_iraise, F_erp_eqS_Person, F_erp_markS_Person, F_erp_heldS_Person, s_szS_Person, s_toS_Person, s_sraise, s_iraise, s_eqS_Person, s_markS_Person, s_heldS_Person, Tree.holds, ltI_t, ltI_f, leI_t, leI_f, all_cons, all_nil, and_true, true_and, forall_eq, decide_eq_true_eq, decide_eq_false_iff_not, beq_iff_eq, beq_eq_false_iff_ne, bne_iff_ne, bne_eq_false_iff_eq, ne_eq, Decidable.not_not, selI_z, selB_z, selS_z, selN_z, selL_z, selI_s, selB_s, selS_s, selN_s, selL_s, Int.toNat_natCast, Nat.mul_one, Nat.zero_add, Nat.div_one, List.drop_zero, Nat.zero_mul, Nat.le_refl, Bool.not_eq_true', Bool.not_eq_false', Bool.false_eq_true, Bool.true_eq_false, not_true_eq_false, not_false_eq_true, false_imp_iff, true_imp_iff, if_true, if_false, sig, sigF, sigW, sigR, sigO, sigD, sigWD, List.map_cons, List.map_nil]
  refine ⟨fun _ => trivial, fun h => ?_⟩
  obtain ⟨q1, q2⟩ := r2 (by omega)
  have sm := smR_of (by omega) q1 q2
  have s1 := sm.1
  obtain ⟨j1, j2⟩ := raise_ok (a := a) (b := b) (r := r) hm
  have okx := okC_ros j2
  have k1 : ((1 : Int)).toNat = 1 := rfl
  simp only [unR_ros, rosD_take, rosD_len, rosR, k1, List.drop_succ_cons, List.drop_zero, F_erp_szS_Person, F_erp_toS_Person, F_erp_sraise, F_erp_iraise, F_erp_eqS_Person, F_erp_markS_Person, F_erp_heldS_Person, s_szS_Person, s_toS_Person, s_sraise, s_iraise, s_eqS_Person, s_markS_Person, s_heldS_Person, Tree.holds, ltI_t, ltI_f, leI_t, leI_f, all_cons, all_nil, and_true, true_and, forall_eq, decide_eq_true_eq, decide_eq_false_iff_not, beq_iff_eq, beq_eq_false_iff_ne, bne_iff_ne, bne_eq_false_iff_eq, ne_eq, Decidable.not_not, selI_z, selB_z, selS_z, selN_z, selL_z, selI_s, selB_s, selS_s, selN_s, selL_s, Int.toNat_natCast, Nat.mul_one, Nat.zero_add, Nat.div_one, List.drop_zero, Nat.zero_mul, Nat.le_refl, Bool.not_eq_true', Bool.not_eq_false', Bool.false_eq_true, Bool.true_eq_false, not_true_eq_false, not_false_eq_true, false_imp_iff, true_imp_iff, if_true, if_false, sig, sigF, sigW, sigR, sigO, sigD, sigWD, List.map_cons, List.map_nil]
  generalize raiseP l a b r = x at *
  obtain ⟨x, bb⟩ := x
  have lx : (mks [.str, .int .i64, .bool] 1 (x.length * 3)).length = x.length * 3 := mks_len _ _ _
  have tx : List.take (x.length * 3) (mks [.str, .int .i64, .bool] 1 (x.length * 3)) = mks [.str, .int .i64, .bool] 1 (x.length * 3) := List.take_of_length_le (by omega)
  have scl := rosD_scal l
  have scx := rosD_scal x
  have j1 : x.length ≤ l.length := j1
  have okx : okC [.str, .int .i64, .bool] x.length (rosD x) := okx
  have P : ∃ (l_1 : List Per) (a_1 b_1 : ByteArray) (r_1 : Int), [D.list 30 l.length (rosD l), .str a, .str b, .int .i64 r] = [.list 30 l_1.length (rosD l_1), .str a_1, .str b_1, .int .i64 r_1] ∧ smR l_1 := ⟨l, a, b, r, rfl, sm⟩
  repeat' (first | exact trivial | exact P | exact ok | exact okx | exact tx | exact Nat.le_of_eq lx.symm | (unfold maxLen; omega) | exact scl | exact scx | exact hl | omega | (intro h9; exact absurd trivial h9) | (intro h9; exact absurd h9 (by omega)) | (intro _) | apply And.intro)
  all_goals trace_state
end Go.Proofs.Ytdhjfbnlkecggaa.Mini
end
