/- Parts of the proof: ActLP. -/
import Derived.Test.YtdhjfbnlkecggaaGdActL
section
namespace Go.Proofs.Ytdhjfbnlkecggaa.Mini
open Go Go.RowKit
set_option linter.unusedVariables false
set_option linter.unusedSimpArgs false
set_option maxRecDepth 20000
theorem setR_sm {l : List Per} {w : ByteArray} {r : Int} (h : smR l) (p : 0 ≤ atP l w) : smR (setR l w r) := ⟨by rw [setR_len]; exact h.1, fun q hq => by
  rcases List.mem_or_eq_of_mem_set hq with hq | rfl
  · exact h.2 q hq
  · exact h.2 (oneP l w) (one_in p).2⟩
theorem setM_sm {l : List Per} {w : ByteArray} {m : Bool} (h : smR l) (p : 0 ≤ atP l w) : smR (setM l w m) := ⟨by rw [setM_len]; exact h.1, fun q hq => by
  rcases List.mem_or_eq_of_mem_set hq with hq | rfl
  · exact h.2 q hq
  · exact h.2 (oneP l w) (one_in p).2⟩
theorem backM {l : List Per} {w : ByteArray} {m : Bool} (p : 0 ≤ atP l w) : setL (rosD (setM l w m)) ((atP l w).toNat * 3 + 2) [.bool (oneP l w).m] = rosD l := by
  obtain ⟨h1, h2, h3, h4⟩ := at_one p
  have e : (setM l w m)[(atP l w).toNat]? = some { oneP l w with m := m } := List.getElem?_set_self h2
  rw [ros_setM e]
  exact congrArg rosD (set_back h3)
theorem backR {l : List Per} {w : ByteArray} {r : Int} (p : 0 ≤ atP l w) : setL (rosD (setR l w r)) ((atP l w).toNat * 3 + 1) [.int .i64 (oneP l w).r] = rosD l := by
  obtain ⟨h1, h2, h3, h4⟩ := at_one p
  have e : (setR l w r)[(atP l w).toNat]? = some { oneP l w with r := r } := List.getElem?_set_self h2
  rw [ros_setR e]
  exact congrArg rosD (set_back h3)
theorem mute_sm {l : List Per} {a b : ByteArray} {m : Bool} (h : smR l) : smR (muteP l a b m).1 := by
  rcases mute_cases l a b m with ⟨_, e | e⟩ | ⟨_, _, e, _, e2⟩
  · rwa [e]
  · rw [e]; exact ⟨Nat.zero_le _, fun q hq => by cases hq⟩
  · rw [e2]; exact setM_sm h (act_at e).2.1
theorem raise_sm {l : List Per} {a b : ByteArray} {r : Int} (h : smR l) : smR (raiseP l a b r).1 := by
  rcases raise_cases l a b r with ⟨_, e | e⟩ | ⟨_, _, e, _, _, e2⟩
  · rwa [e]
  · rw [e]; exact ⟨Nat.zero_le _, fun q hq => by cases hq⟩
  · rw [e2]; exact setR_sm h (act_at e).2.1
theorem ok_lma : FnOk Try.prog 3 s_lma := by
  refine fnOk (fn := Try.f3) (F := F_lma) (hs := hs_lma) (tab_cons ok_dma (tab_cons ok_iact (tab_cons ok_sact (tab_cons ok_iperat (tab_cons ok_alive tab_nil))))) mixed rfl rfl rfl [.list 5] (by kernel_rfl) (by simp) ?_
  intro n l hw
  refine ⟨fun _ _ => False, fun _ _ => 0, ?_, fun _ _ h => h.elim⟩
  rw [t_lma]
  simp only [F_lma_dma, F_lma_iact, F_lma_sact, F_lma_iperat, F_lma_alive, s_dma, s_iact, s_sact, s_iperat, s_alive, Tree.holds, ltI_t, ltI_f, leI_t, leI_f, all_cons, all_nil, and_true, true_and, forall_eq, decide_eq_true_eq, decide_eq_false_iff_not, beq_iff_eq, beq_eq_false_iff_ne, bne_iff_ne, bne_eq_false_iff_eq, ne_eq, Decidable.not_not, selI_z, selB_z, selS_z, selN_z, selL_z, selI_s, selB_s, selS_s, selN_s, selL_s, Int.toNat_natCast, Nat.mul_one, Nat.zero_add, Nat.div_one, List.drop_zero, Nat.zero_mul, Nat.le_refl, Bool.not_eq_true', Bool.not_eq_false', Bool.false_eq_true, Bool.true_eq_false, not_true_eq_false, not_false_eq_true, false_imp_iff, true_imp_iff, if_true, if_false, sig, sigF, sigW, sigR, sigO, sigD, sigWD, List.map_cons, List.map_nil]
  refine ⟨fun _ => trivial, fun _ => ⟨bytes_wf hw, ?_⟩⟩
  rintro ys ⟨l, a, d, b, rfl, hl, ha, hb, d0, d1⟩
  have sm := drR_sm hl
  simp only [F_lma_dma, F_lma_iact, F_lma_sact, F_lma_iperat, F_lma_alive, s_dma, s_iact, s_sact, s_iperat, s_alive, Tree.holds, ltI_t, ltI_f, leI_t, leI_f, all_cons, all_nil, and_true, true_and, forall_eq, decide_eq_true_eq, decide_eq_false_iff_not, beq_iff_eq, beq_eq_false_iff_ne, bne_iff_ne, bne_eq_false_iff_eq, ne_eq, Decidable.not_not, selI_z, selB_z, selS_z, selN_z, selL_z, selI_s, selB_s, selS_s, selN_s, selL_s, Int.toNat_natCast, Nat.mul_one, Nat.zero_add, Nat.div_one, List.drop_zero, Nat.zero_mul, Nat.le_refl, Bool.not_eq_true', Bool.not_eq_false', Bool.false_eq_true, Bool.true_eq_false, not_true_eq_false, not_false_eq_true, false_imp_iff, true_imp_iff, if_true, if_false, sig, sigF, sigW, sigR, sigO, sigD, sigWD, List.map_cons, List.map_nil, sel_kstr, sel_kint, sel_kbool, unR_ros, rosR, rosD_take, rosD_len, ByteArray.toList_eq]
  refine ⟨⟨l, a, d, b, rfl, sm⟩, ⟨l, a, d, b, rfl, sm⟩, ⟨l, a, rfl, sm⟩, fun h => ⟨fun _ => trivial, fun h2 => (by rw [h] at h2; cases h2)⟩, fun h => ?_⟩
  obtain ⟨pa, pb, -⟩ := act_at h
  obtain ⟨h1, h2, h3, h4⟩ := at_one pa
  obtain ⟨c0, c1, c2⟩ := ros_cell h3
  have c2 : (rosD l)[(atP l a).toNat * 3 + 2]? = some (.bool (oneP l a).m) := c2
  have lS := setR_len l a 2
  have tS := rosD_take (setR l a 2)
  have nS := rosD_len (setR l a 2)
  rw [lS] at tS nS
  have eS : setL (rosD l) ((atP l a).toNat * 3 + 1) [D.int .i64 2] = rosD (setR l a 2) := ros_setR h3 2
  simp only [List.take_zero, List.nil_append, eS, tS, nS, unR_ros, rosD_len]
  rw [selB_of c2]
  have h10 := hl.1
  refine ⟨fun h => absurd h (by omega), fun _ => ⟨fun h => absurd h (by omega), fun _ => ⟨by omega, ⟨by omega, by omega⟩, by omega, by omega, ⟨setR l a 2, a, d, b, by rw [lS], setR_sm sm pa⟩, fun _ => ⟨fun _ => trivial, fun h0 => ?_⟩, fun h9 => (by rw [act_host h] at h9; cases h9)⟩⟩⟩
  subst h0
  obtain ⟨s1, s2⟩ := act_self h
  exact ⟨fun e => ⟨⟨by omega, by omega⟩, c2, ret_bool' (by rw [s2]; rfl)⟩, fun e => absurd (by rw [s1]) e⟩
theorem ok_lmp : FnOk Try.prog 5 s_lmp := by
  refine fnOk (fn := Try.f5) (F := F_lmp) (hs := hs_lmp) (tab_cons ok_dmp (tab_cons ok_imute (tab_cons ok_smute (tab_cons ok_samer (tab_cons ok_iperat (tab_cons ok_irosv (tab_cons ok_iact (tab_cons ok_alive tab_nil)))))))) mixed rfl rfl rfl [.list 5] (by kernel_rfl) (by simp) ?_
  intro n l hw
  refine ⟨fun _ _ => False, fun _ _ => 0, ?_, fun _ _ h => h.elim⟩
  rw [t_lmp]
  simp only [F_lmp_dmp, F_lmp_imute, F_lmp_smute, F_lmp_samer, F_lmp_iperat, F_lmp_irosv, F_lmp_iact, F_lmp_alive, s_dmp, s_imute, s_smute, s_samer, s_iperat, s_irosv, s_iact, s_alive, Tree.holds, ltI_t, ltI_f, leI_t, leI_f, all_cons, all_nil, and_true, true_and, forall_eq, decide_eq_true_eq, decide_eq_false_iff_not, beq_iff_eq, beq_eq_false_iff_ne, bne_iff_ne, bne_eq_false_iff_eq, ne_eq, Decidable.not_not, selI_z, selB_z, selS_z, selN_z, selL_z, selI_s, selB_s, selS_s, selN_s, selL_s, Int.toNat_natCast, Nat.mul_one, Nat.zero_add, Nat.div_one, List.drop_zero, Nat.zero_mul, Nat.le_refl, Bool.not_eq_true', Bool.not_eq_false', Bool.false_eq_true, Bool.true_eq_false, not_true_eq_false, not_false_eq_true, false_imp_iff, true_imp_iff, if_true, if_false, sig, sigF, sigW, sigR, sigO, sigD, sigWD, List.map_cons, List.map_nil]
  refine ⟨fun _ => trivial, fun _ => ⟨bytes_wf hw, ?_⟩⟩
  rintro ys ⟨l, a, b, m, rfl, hl, ha, hb⟩
  have sm := drR_sm hl
  simp only [F_lmp_dmp, F_lmp_imute, F_lmp_smute, F_lmp_samer, F_lmp_iperat, F_lmp_irosv, F_lmp_iact, F_lmp_alive, s_dmp, s_imute, s_smute, s_samer, s_iperat, s_irosv, s_iact, s_alive, Tree.holds, ltI_t, ltI_f, leI_t, leI_f, all_cons, all_nil, and_true, true_and, forall_eq, decide_eq_true_eq, decide_eq_false_iff_not, beq_iff_eq, beq_eq_false_iff_ne, bne_iff_ne, bne_eq_false_iff_eq, ne_eq, Decidable.not_not, selI_z, selB_z, selS_z, selN_z, selL_z, selI_s, selB_s, selS_s, selN_s, selL_s, Int.toNat_natCast, Nat.mul_one, Nat.zero_add, Nat.div_one, List.drop_zero, Nat.zero_mul, Nat.le_refl, Bool.not_eq_true', Bool.not_eq_false', Bool.false_eq_true, Bool.true_eq_false, not_true_eq_false, not_false_eq_true, false_imp_iff, true_imp_iff, if_true, if_false, sig, sigF, sigW, sigR, sigO, sigD, sigWD, List.map_cons, List.map_nil, sel_kstr, sel_kint, sel_kbool, unR_ros, rosR, rosD_take, rosD_len, ByteArray.toList_eq]
  have sx := mute_sm (a := a) (b := b) (m := m) sm
  have SR : ∀ a b : List Per, a.length ≤ 1048576 → ∃ (l_1 m : List Per), [D.list 30 a.length (rosD a), .list 30 b.length (rosD b)] = [.list 30 l_1.length (rosD l_1), .list 30 m.length (rosD m)] ∧ l_1.length ≤ 1048576 := fun a b h => ⟨a, b, rfl, h⟩
  refine ⟨⟨l, a, b, m, rfl, sm⟩, ⟨l, a, b, m, rfl, sm⟩, SR _ _ sx.1, fun h => (by rw [sameR_self] at h; cases h), fun _ => ⟨fun h2 => ⟨SR _ _ sx.1, fun _ => trivial, fun h => ⟨fun _ => trivial, fun h3 => ?_⟩⟩, fun h2 => ?_⟩⟩
  · rcases mute_cases l a b m with ⟨_, e | e⟩ | ⟨e, _⟩
    · rw [e, sameR_self] at h; cases h
    · exact absurd (by rw [e]; rfl) h3
    · rw [h2] at e; cases e
  · rcases mute_cases l a b m with ⟨e, _⟩ | ⟨_, hr, ac, hc, e⟩
    · rw [h2] at e; cases e
    obtain ⟨-, pb, -⟩ := act_at ac
    obtain ⟨h1, h2', h3, h4⟩ := at_one pb
    obtain ⟨c0, c1, c2⟩ := ros_cell h3
    have c2 : (rosD l)[(atP l b).toNat * 3 + 2]? = some (.bool (oneP l b).m) := c2
    have h10 := hl.1
    have lS := setM_len l b m
    have hl3 := rosD_len l
    rw [e] at sx ⊢
    simp only [selB_of c2, List.take_zero, List.nil_append, backM pb, lS, rosD_take, unR_ros, sameR_self, mute_speak pb, mute_valid (m := m) pb]
    have nS := rosD_len (setM l b m)
    rw [lS] at nS
    refine ⟨⟨l, b, rfl, sm⟩, fun h => absurd h (by omega), fun _ => ⟨fun h => absurd h (by omega), fun _ => ⟨fun h => absurd h (by omega), fun _ => ⟨by omega, ⟨by omega, by omega⟩, c2, ⟨by omega, by omega⟩, by omega, ⟨setM l b m, by rw [lS], sx⟩, fun _ => ⟨by omega, SR l l (by omega), fun _ => ⟨⟨setM l b m, b, 0, b, by rw [lS], sx⟩, fun _ => ⟨fun _ => trivial, fun hm => ret_bool' ?_⟩, fun h9 => absurd trivial h9⟩, fun h9 => by cases h9⟩, fun h9 => by cases h9⟩⟩⟩⟩
    rcases hc with hc | hc
    · rw [hm] at hc; cases hc
    · rw [hc]; exact beq_self_eq_true _
theorem ok_lrp : FnOk Try.prog 7 s_lrp := by
  refine fnOk (fn := Try.f7) (F := F_lrp) (hs := hs_lrp) (tab_cons ok_drp (tab_cons ok_iraise (tab_cons ok_sraise (tab_cons ok_samer (tab_cons ok_iperat (tab_cons ok_irosv (tab_cons ok_alive tab_nil))))))) mixed rfl rfl rfl [.list 5] (by kernel_rfl) (by simp) ?_
  intro n l hw
  refine ⟨fun h ys => h = 0 ∧ ∃ (l : List Per) (b : ByteArray) (r : Int) (k : Nat), ys = [.list 30 l.length (rosD l), .int .i64 (0 : Nat), .int .i64 (l.length : Nat), .int .i64 (atP l b), .bool (((setR l b r).take k).any fun p => p.r == 2), .int .i64 k, .list 30 0 (rosD (setR l b r))] ∧ drR l ∧ 0 ≤ atP l b ∧ inB r 0 2 = true ∧ anyH (setR l b r) = true ∧ k ≤ l.length, fun h ys => selN ys 0 - (selI ys 5).toNat, ?_, ?_⟩
  rotate_left
  · rintro h ys ⟨rfl, l, b, r, k, rfl, hl, pb, hc, hh, hk⟩
    rw [t_lrp0]
    have sm := drR_sm hl
    obtain ⟨h1, h2', h3, h4⟩ := at_one pb
    obtain ⟨c0, c1, c2⟩ := ros_cell h3
    have h10 := hl.1
    have lS := setR_len l b r
    have tS := rosD_take (setR l b r)
    have nS := rosD_len (setR l b r)
    rw [lS] at tS nS
    have hl3 := rosD_len l
    simp only [F_lrp_drp, F_lrp_iraise, F_lrp_sraise, F_lrp_samer, F_lrp_iperat, F_lrp_irosv, F_lrp_alive, s_drp, s_iraise, s_sraise, s_samer, s_iperat, s_irosv, s_alive, Tree.holds, ltI_t, ltI_f, leI_t, leI_f, all_cons, all_nil, and_true, true_and, forall_eq, decide_eq_true_eq, decide_eq_false_iff_not, beq_iff_eq, beq_eq_false_iff_ne, bne_iff_ne, bne_eq_false_iff_eq, ne_eq, Decidable.not_not, selI_z, selB_z, selS_z, selN_z, selL_z, selI_s, selB_s, selS_s, selN_s, selL_s, Int.toNat_natCast, Nat.mul_one, Nat.zero_add, Nat.div_one, List.drop_zero, Nat.zero_mul, Nat.le_refl, Bool.not_eq_true', Bool.not_eq_false', Bool.false_eq_true, Bool.true_eq_false, not_true_eq_false, not_false_eq_true, false_imp_iff, true_imp_iff, if_true, if_false, sig, sigF, sigW, sigR, sigO, sigD, sigWD, List.map_cons, List.map_nil, sel_kint, rosD_take, unR_ros, tS, nS, selI_of c1, List.take_zero, List.nil_append, backR pb]
    have W : ∀ c : Bool, c = ((setR l b r).take (k + 1)).any (fun p => p.r == 2) → k + 1 ≤ l.length → ∃ (l_1 : List Per) (b_1 : ByteArray) (r_1 : Int) (k_1 : Nat), [D.list 30 l.length (rosD l), .int .i64 (0 : Nat), .int .i64 (l.length : Nat), .int .i64 (atP l b), .bool c, .int .i64 ((k : Int) + 1), .list 30 0 (rosD (setR l b r))] = [.list 30 l_1.length (rosD l_1), .int .i64 (0 : Nat), .int .i64 (l_1.length : Nat), .int .i64 (atP l_1 b_1), .bool (((setR l_1 b_1 r_1).take k_1).any fun p => p.r == 2), .int .i64 k_1, .list 30 0 (rosD (setR l_1 b_1 r_1))] ∧ drR l_1 ∧ 0 ≤ atP l_1 b_1 ∧ inB r_1 0 2 = true ∧ anyH (setR l_1 b_1 r_1) = true ∧ k_1 ≤ l_1.length := fun c e h => ⟨l, b, r, k + 1, by rw [e]; rfl, hl, pb, hc, hh, h⟩
    refine ⟨fun hj => ⟨fun h => ⟨by unfold inK; omega, W _ ?_ (by omega), by omega⟩, fun h => ?_⟩, fun hj => ?_⟩
    · symm
      obtain ⟨q, q1, q2⟩ := List.any_eq_true.mp h
      exact List.any_eq_true.mpr ⟨q, List.take_subset_take_left _ (Nat.le_succ k) q1, q2⟩
    · obtain ⟨q, q1, q2⟩ := ros_get (l := setR l b r) (i := k) (by omega)
      obtain ⟨d0, d1, d2⟩ := ros_cell q1
      rw [selI_of d1]
      refine ⟨⟨by omega, by omega⟩, d1, by unfold inK; omega, W _ ?_ (by omega), by omega⟩
      rw [List.take_add_one, q1, List.any_append, h]
      simp
    · have e : List.take k (setR l b r) = setR l b r := List.take_of_length_le (by omega)
      have hh' : ((setR l b r).any fun p => p.r == 2) = true := hh
      have SR : ∃ (l_1 m : List Per), [D.list 30 l.length (rosD l), .list 30 l.length (rosD l)] = [.list 30 l_1.length (rosD l_1), .list 30 m.length (rosD m)] ∧ l_1.length ≤ 1048576 := ⟨l, l, rfl, by omega⟩
      rw [e, hh', sameR_self]
      exact ⟨by omega, ⟨by omega, by omega⟩, c1, ⟨by omega, by omega⟩, by omega, ⟨setR l b r, by rw [lS], setR_sm sm pb⟩, fun _ => ⟨fun _ => ⟨by omega, SR, rfl⟩, fun h9 => by cases h9⟩, fun h9 => by rw [raise_valid pb hc] at h9; cases h9⟩
  rw [t_lrp]
  simp only [F_lrp_drp, F_lrp_iraise, F_lrp_sraise, F_lrp_samer, F_lrp_iperat, F_lrp_irosv, F_lrp_alive, s_drp, s_iraise, s_sraise, s_samer, s_iperat, s_irosv, s_alive, Tree.holds, ltI_t, ltI_f, leI_t, leI_f, all_cons, all_nil, and_true, true_and, forall_eq, decide_eq_true_eq, decide_eq_false_iff_not, beq_iff_eq, beq_eq_false_iff_ne, bne_iff_ne, bne_eq_false_iff_eq, ne_eq, Decidable.not_not, selI_z, selB_z, selS_z, selN_z, selL_z, selI_s, selB_s, selS_s, selN_s, selL_s, Int.toNat_natCast, Nat.mul_one, Nat.zero_add, Nat.div_one, List.drop_zero, Nat.zero_mul, Nat.le_refl, Bool.not_eq_true', Bool.not_eq_false', Bool.false_eq_true, Bool.true_eq_false, not_true_eq_false, not_false_eq_true, false_imp_iff, true_imp_iff, if_true, if_false, sig, sigF, sigW, sigR, sigO, sigD, sigWD, List.map_cons, List.map_nil]
  refine ⟨fun _ => trivial, fun _ => ⟨bytes_wf hw, ?_⟩⟩
  rintro ys ⟨l, a, b, r, rfl, hl, ha, hb, r0, r1⟩
  have sm := drR_sm hl
  simp only [F_lrp_drp, F_lrp_iraise, F_lrp_sraise, F_lrp_samer, F_lrp_iperat, F_lrp_irosv, F_lrp_alive, s_drp, s_iraise, s_sraise, s_samer, s_iperat, s_irosv, s_alive, Tree.holds, ltI_t, ltI_f, leI_t, leI_f, all_cons, all_nil, and_true, true_and, forall_eq, decide_eq_true_eq, decide_eq_false_iff_not, beq_iff_eq, beq_eq_false_iff_ne, bne_iff_ne, bne_eq_false_iff_eq, ne_eq, Decidable.not_not, selI_z, selB_z, selS_z, selN_z, selL_z, selI_s, selB_s, selS_s, selN_s, selL_s, Int.toNat_natCast, Nat.mul_one, Nat.zero_add, Nat.div_one, List.drop_zero, Nat.zero_mul, Nat.le_refl, Bool.not_eq_true', Bool.not_eq_false', Bool.false_eq_true, Bool.true_eq_false, not_true_eq_false, not_false_eq_true, false_imp_iff, true_imp_iff, if_true, if_false, sig, sigF, sigW, sigR, sigO, sigD, sigWD, List.map_cons, List.map_nil, sel_kstr, sel_kint, sel_kbool, unR_ros, rosR, rosD_take, rosD_len, ByteArray.toList_eq]
  have sx := raise_sm (a := a) (b := b) (r := r) sm
  have SR : ∀ a b : List Per, a.length ≤ 1048576 → ∃ (l_1 m : List Per), [D.list 30 a.length (rosD a), .list 30 b.length (rosD b)] = [.list 30 l_1.length (rosD l_1), .list 30 m.length (rosD m)] ∧ l_1.length ≤ 1048576 := fun a b h => ⟨a, b, rfl, h⟩
  refine ⟨⟨l, a, b, r, rfl, sm⟩, ⟨l, a, b, r, rfl, sm⟩, SR _ _ sx.1, fun h => (by rw [sameR_self] at h; cases h), fun _ => ⟨fun h2 => ⟨SR _ _ sx.1, fun _ => trivial, fun h => ⟨fun _ => trivial, fun h3 => ?_⟩⟩, fun h2 => ?_⟩⟩
  · rcases raise_cases l a b r with ⟨_, e | e⟩ | ⟨e, _⟩
    · rw [e, sameR_self] at h; cases h
    · exact absurd (by rw [e]; rfl) h3
    · rw [h2] at e; cases e
  · rcases raise_cases l a b r with ⟨e, _⟩ | ⟨_, hr, ac, hc, hh, e⟩
    · rw [h2] at e; cases e
    obtain ⟨-, pb, -⟩ := act_at ac
    obtain ⟨h1, h2', h3, h4⟩ := at_one pb
    obtain ⟨c0, c1, c2⟩ := ros_cell h3
    have c2 : (rosD l)[(atP l b).toNat * 3 + 2]? = some (.bool (oneP l b).m) := c2
    have h10 := hl.1
    have lS := setR_len l b r
    have hl3 := rosD_len l
    rw [e] at sx ⊢
    have k3 : (setR l b r)[(atP l b).toNat]? = some { oneP l b with r := r } := List.getElem?_set_self h2'
    obtain ⟨d0, d1, d2⟩ := ros_cell k3
    simp only [selI_of d1, lS]
    exact ⟨⟨l, b, rfl, sm⟩, fun h => absurd h (by omega), fun _ => ⟨fun h => absurd h (by omega), fun _ => ⟨fun h => absurd h (by omega), fun _ => ⟨⟨by omega, by omega⟩, d1, fun h9 => absurd trivial h9, fun _ => ⟨l, b, r, 0, rfl, hl, pb, hc, hh, by omega⟩⟩⟩⟩⟩
end Go.Proofs.Ytdhjfbnlkecggaa.Mini
end
