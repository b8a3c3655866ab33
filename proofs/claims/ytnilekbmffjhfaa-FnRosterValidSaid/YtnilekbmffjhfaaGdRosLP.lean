/- Parts of the proof: RosLP. -/
import Derived.Test.YtnilekbmffjhfaaGdRosL
section
namespace Go.Proofs.Ytnilekbmffjhfaa.Mini
open Go Go.RowKit
set_option linter.unusedVariables false
set_option linter.unusedSimpArgs false
set_option maxRecDepth 20000
theorem join_cases (l : List Per) (p : Per) : ((joinP l p).2 = false ∧ ((joinP l p).1 = l ∨ (joinP l p).1 = [])) ∨ ((joinP l p).2 = true ∧ rosB l = true ∧ (joinP l p).1 = insP p l ∧ rosB (insP p l) = true) := by
  unfold joinP
  split
  · rename_i h
    split
    · rename_i h2
      exact .inr ⟨rfl, h, rfl, h2⟩
    · exact .inl ⟨rfl, .inl rfl⟩
  · exact .inl ⟨rfl, .inr rfl⟩
theorem leave_cases (l : List Per) (w : ByteArray) : ((leaveP l w).2 = false ∧ ((leaveP l w).1 = l ∨ (leaveP l w).1 = [])) ∨ ((leaveP l w).2 = true ∧ rosB l = true ∧ placeP w l < l.length ∧ (leaveP l w).1 = hostP (l.eraseIdx (placeP w l))) := by
  unfold leaveP
  split
  · rename_i h
    split
    · rename_i h2
      exact .inr ⟨rfl, h, h2, rfl⟩
    · exact .inl ⟨rfl, .inl rfl⟩
  · exact .inl ⟨rfl, .inr rfl⟩
theorem ok_lrv : FnOk Try.prog 3 s_lrv := by
  refine fnOk (fn := Try.f3) (F := F_lrv) (hs := hs_lrv) (tab_cons ok_drv (tab_cons ok_irosv (tab_cons ok_srosv (tab_cons ok_alive tab_nil)))) mixed rfl rfl rfl [.list 5] (by kernel_rfl) (by simp) ?_
  intro n l hw
  refine ⟨fun _ _ => False, fun _ _ => 0, ?_, fun _ _ h => h.elim⟩
  rw [t_lrv]
  simp only [F_lrv_drv, F_lrv_irosv, F_lrv_srosv, F_lrv_alive, s_drv, s_irosv, s_srosv, s_alive, Tree.holds, ltI_t, ltI_f, leI_t, leI_f, all_cons, all_nil, and_true, true_and, forall_eq, decide_eq_true_eq, decide_eq_false_iff_not, beq_iff_eq, beq_eq_false_iff_ne, bne_iff_ne, bne_eq_false_iff_eq, ne_eq, Decidable.not_not, selI_z, selB_z, selS_z, selN_z, selL_z, selI_s, selB_s, selS_s, selN_s, selL_s, Int.toNat_natCast, Nat.mul_one, Nat.zero_add, Nat.div_one, List.drop_zero, Nat.zero_mul, Nat.le_refl, Bool.not_eq_true', Bool.not_eq_false', Bool.false_eq_true, Bool.true_eq_false, not_true_eq_false, not_false_eq_true, false_imp_iff, true_imp_iff, if_true, if_false, sig, sigF, sigW, sigR, sigO, sigD, sigWD, List.map_cons, List.map_nil]
  refine ⟨fun _ => trivial, fun _ => ⟨bytes_wf hw, ?_⟩⟩
  rintro ys ⟨l, rfl, hl⟩
  have sm := drR_sm hl
  simp only [F_lrv_drv, F_lrv_irosv, F_lrv_srosv, F_lrv_alive, s_drv, s_irosv, s_srosv, s_alive, Tree.holds, ltI_t, ltI_f, leI_t, leI_f, all_cons, all_nil, and_true, true_and, forall_eq, decide_eq_true_eq, decide_eq_false_iff_not, beq_iff_eq, beq_eq_false_iff_ne, bne_iff_ne, bne_eq_false_iff_eq, ne_eq, Decidable.not_not, selI_z, selB_z, selS_z, selN_z, selL_z, selI_s, selB_s, selS_s, selN_s, selL_s, Int.toNat_natCast, Nat.mul_one, Nat.zero_add, Nat.div_one, List.drop_zero, Nat.zero_mul, Nat.le_refl, Bool.not_eq_true', Bool.not_eq_false', Bool.false_eq_true, Bool.true_eq_false, not_true_eq_false, not_false_eq_true, false_imp_iff, true_imp_iff, if_true, if_false, sig, sigF, sigW, sigR, sigO, sigD, sigWD, List.map_cons, List.map_nil, unR_ros]
  refine ⟨⟨l, rfl, sm⟩, ⟨l, rfl, sm⟩, fun _ => trivial, fun hv => ⟨fun _ => trivial, fun hz => ?_⟩⟩
  have h8 := (ros_iff.mp hv).2.2
  match l, hl, sm, hv, hz, h8 with
  | [], _, _, _, hz, _ => exact absurd rfl hz
  | p :: t, hl, sm, hv, hz, h8 =>
    have e1 : ((((p :: t).length : Nat) : Int) - 1).toNat = t.length := by simp only [List.length_cons]; omega
    have k1 : ((1 : Int)).toNat = 1 := rfl
    have st : smR t := ⟨by have := sm.1; simp only [List.length_cons] at this; omega, fun q hq => sm.2 q (List.mem_cons_of_mem _ hq)⟩
    have s2 : smR (p :: p :: t) := ⟨by simp only [List.length_cons] at h8 ⊢; omega, fun q hq => sm.2 q (by simpa using hq)⟩
    have d1 : List.drop (1 * 3) (rosD (p :: t)) = rosD t := rfl
    have d2 : List.take (1 * 3) [sel (rosD (p :: t)) 0 Kd.str, sel (rosD (p :: t)) 1 (Kd.int .i64), sel (rosD (p :: t)) (1 + 1) Kd.bool] ++ rosD (p :: t) = rosD (p :: p :: t) := rfl
    have d3 : 1 + (p :: t).length = (p :: p :: t).length := by simp only [List.length_cons]; omega
    have ht := ros_sub (List.sublist_cons_self p t) hv
    have hl3 := rosD_len (p :: p :: t)
    simp only [Option.getD_some, Option.getD_none, e1, k1, d1, d2, d3, rosD_take, unR_ros, ros_twice, ht]
    simp only [List.length_cons] at h8 ⊢
    refine ⟨⟨by omega, by omega, by omega⟩, ⟨t, rfl, st⟩, fun _ => ⟨⟨by omega, by omega⟩, ⟨rfl, rfl, rfl⟩, by omega, by rw [hl3]; simp only [List.length_cons]; omega, ⟨p :: p :: t, rfl, s2⟩, rfl⟩, fun h => by cases h⟩
theorem ok_lpa : FnOk Try.prog 5 s_lpa := by
  refine fnOk (fn := Try.f5) (F := F_lpa) (hs := hs_lpa) (tab_cons ok_dpa (tab_cons ok_iperat (tab_cons ok_sperat (tab_cons ok_irosv (tab_cons ok_alive tab_nil))))) mixed rfl rfl rfl [.list 5] (by kernel_rfl) (by simp) ?_
  intro n l hw
  refine ⟨fun h ys => h = 0 ∧ ∃ (l : List Per) (w : ByteArray) (i : Nat), ys = [.list 28 l.length (rosD l), .str w, .int .i64 (atP l w), .int .i64 i] ∧ drR l ∧ i ≤ l.length ∧ (i ≠ 0 → rosB l = true) ∧ ∀ (j : Nat) (q : Per), j < i → l[j]? = some q → q.w ≠ w, fun h ys => selN ys 0 - (selI ys 3).toNat, ?_, ?_⟩
  · rw [t_lpa]
    simp only [F_lpa_dpa, F_lpa_iperat, F_lpa_sperat, F_lpa_irosv, F_lpa_alive, s_dpa, s_iperat, s_sperat, s_irosv, s_alive, Tree.holds, ltI_t, ltI_f, leI_t, leI_f, all_cons, all_nil, and_true, true_and, forall_eq, decide_eq_true_eq, decide_eq_false_iff_not, beq_iff_eq, beq_eq_false_iff_ne, bne_iff_ne, bne_eq_false_iff_eq, ne_eq, Decidable.not_not, selI_z, selB_z, selS_z, selN_z, selL_z, selI_s, selB_s, selS_s, selN_s, selL_s, Int.toNat_natCast, Nat.mul_one, Nat.zero_add, Nat.div_one, List.drop_zero, Nat.zero_mul, Nat.le_refl, Bool.not_eq_true', Bool.not_eq_false', Bool.false_eq_true, Bool.true_eq_false, not_true_eq_false, not_false_eq_true, false_imp_iff, true_imp_iff, if_true, if_false, sig, sigF, sigW, sigR, sigO, sigD, sigWD, List.map_cons, List.map_nil]
    refine ⟨fun _ => trivial, fun _ => ⟨bytes_wf hw, ?_⟩⟩
    rintro ys ⟨l, w, rfl, hl, hw'⟩
    have sm := drR_sm hl
    simp only [F_lpa_dpa, F_lpa_iperat, F_lpa_sperat, F_lpa_irosv, F_lpa_alive, s_dpa, s_iperat, s_sperat, s_irosv, s_alive, Tree.holds, ltI_t, ltI_f, leI_t, leI_f, all_cons, all_nil, and_true, true_and, forall_eq, decide_eq_true_eq, decide_eq_false_iff_not, beq_iff_eq, beq_eq_false_iff_ne, bne_iff_ne, bne_eq_false_iff_eq, ne_eq, Decidable.not_not, selI_z, selB_z, selS_z, selN_z, selL_z, selI_s, selB_s, selS_s, selN_s, selL_s, Int.toNat_natCast, Nat.mul_one, Nat.zero_add, Nat.div_one, List.drop_zero, Nat.zero_mul, Nat.le_refl, Bool.not_eq_true', Bool.not_eq_false', Bool.false_eq_true, Bool.true_eq_false, not_true_eq_false, not_false_eq_true, false_imp_iff, true_imp_iff, if_true, if_false, sig, sigF, sigW, sigR, sigO, sigD, sigWD, List.map_cons, List.map_nil, unR_ros]
    exact ⟨⟨l, w, rfl, sm⟩, ⟨l, w, rfl, sm⟩, ⟨l, w, 0, rfl, hl, by omega, fun h => absurd rfl h, fun j q h => by omega⟩⟩
  · rintro h ys ⟨rfl, l, w, i, rfl, hl, hi, hr, hv⟩
    have sm := drR_sm hl
    rw [t_lpa0]
    simp only [F_lpa_dpa, F_lpa_iperat, F_lpa_sperat, F_lpa_irosv, F_lpa_alive, s_dpa, s_iperat, s_sperat, s_irosv, s_alive, Tree.holds, ltI_t, ltI_f, leI_t, leI_f, all_cons, all_nil, and_true, true_and, forall_eq, decide_eq_true_eq, decide_eq_false_iff_not, beq_iff_eq, beq_eq_false_iff_ne, bne_iff_ne, bne_eq_false_iff_eq, ne_eq, Decidable.not_not, selI_z, selB_z, selS_z, selN_z, selL_z, selI_s, selB_s, selS_s, selN_s, selL_s, Int.toNat_natCast, Nat.mul_one, Nat.zero_add, Nat.div_one, List.drop_zero, Nat.zero_mul, Nat.le_refl, Bool.not_eq_true', Bool.not_eq_false', Bool.false_eq_true, Bool.true_eq_false, not_true_eq_false, not_false_eq_true, false_imp_iff, true_imp_iff, if_true, if_false, sig, sigF, sigW, sigR, sigO, sigD, sigWD, List.map_cons, List.map_nil, sel_kstr, unR_ros, ByteArray.toList_eq]
    have no : (rosB l = true → i = l.length) → atP l w = -1 := fun h => at_no fun hr q hq => by
      obtain ⟨j, hj, rfl⟩ := List.getElem_of_mem hq
      exact hv j _ (by rw [h hr]; exact hj) (List.getElem?_eq_getElem hj)
    refine ⟨fun hj => ⟨⟨l, rfl, sm⟩, fun v1 => ?_, fun v1 => ?_⟩, fun hj => ?_⟩
    · obtain ⟨p, p1, p2⟩ := ros_get (l := l) (i := i) (by omega)
      obtain ⟨c0, -⟩ := ros_cell p1
      rw [selS_of c0]
      refine ⟨⟨by omega, by omega⟩, c0, fun h => ret_bool' ?_, fun h => ⟨by have := hl.1; unfold inK; omega, ⟨l, w, i + 1, rfl, hl, by omega, fun _ => v1, fun j q hj hq => ?_⟩, by omega⟩⟩
      · rw [at_is v1 p1 (text_eqR h) hv]; simp
      · by_cases e : j = i
        · rw [e, p1] at hq; injection hq with hq; rw [← hq]
          exact fun e => h (by rw [e])
        · exact hv j q (by omega) hq
    · have := no fun h => (by rw [v1] at h; cases h)
      rw [this]
      exact ⟨fun _ => trivial, fun h => absurd rfl h⟩
    · have := no fun _ => by omega
      rw [this]
      exact ⟨fun _ => trivial, fun h => absurd rfl h⟩
theorem ok_ljr : FnOk Try.prog 7 s_ljr := by
  refine fnOk (fn := Try.f7) (F := F_ljr) (hs := hs_ljr) (tab_cons ok_djr (tab_cons ok_ijoin (tab_cons ok_sjoin (tab_cons ok_samer (tab_cons ok_iperat (tab_cons ok_irosv (tab_cons ok_alive tab_nil))))))) mixed rfl rfl rfl [.list 5] (by kernel_rfl) (by simp) ?_
  intro n l hw
  refine ⟨fun _ _ => False, fun _ _ => 0, ?_, fun _ _ h => h.elim⟩
  rw [t_ljr]
  simp only [F_ljr_djr, F_ljr_ijoin, F_ljr_sjoin, F_ljr_samer, F_ljr_iperat, F_ljr_irosv, F_ljr_alive, s_djr, s_ijoin, s_sjoin, s_samer, s_iperat, s_irosv, s_alive, Tree.holds, ltI_t, ltI_f, leI_t, leI_f, all_cons, all_nil, and_true, true_and, forall_eq, decide_eq_true_eq, decide_eq_false_iff_not, beq_iff_eq, beq_eq_false_iff_ne, bne_iff_ne, bne_eq_false_iff_eq, ne_eq, Decidable.not_not, selI_z, selB_z, selS_z, selN_z, selL_z, selI_s, selB_s, selS_s, selN_s, selL_s, Int.toNat_natCast, Nat.mul_one, Nat.zero_add, Nat.div_one, List.drop_zero, Nat.zero_mul, Nat.le_refl, Bool.not_eq_true', Bool.not_eq_false', Bool.false_eq_true, Bool.true_eq_false, not_true_eq_false, not_false_eq_true, false_imp_iff, true_imp_iff, if_true, if_false, sig, sigF, sigW, sigR, sigO, sigD, sigWD, List.map_cons, List.map_nil]
  refine ⟨fun _ => trivial, fun _ => ⟨bytes_wf hw, ?_⟩⟩
  rintro ys ⟨l, p, rfl, hl, hp⟩
  have sm := drR_sm hl
  have hu : ∀ l : List Per, unP (List.drop 1 [.list 28 l.length (rosD l), .str p.w, .int .i64 p.r, .bool p.m]) = p := fun _ => rfl
  have J : ∀ l : List Per, smR l → ∃ (l_1 : List Per) (p_1 : Per), [D.list 28 l.length (rosD l), .str p.w, .int .i64 p.r, .bool p.m] = [.list 28 l_1.length (rosD l_1), .str p_1.w, .int .i64 p_1.r, .bool p_1.m] ∧ smR l_1 ∧ p_1.w.size ≤ 1048576 := fun l h => ⟨l, p, rfl, h, by omega⟩
  have j1 := @join_len l p
  have sx : smR (joinP l p).1 := ⟨by have := hl.1; omega, fun q hq => by
    rcases join_mem hq with h | rfl
    · exact sm.2 q h
    · omega⟩
  simp only [F_ljr_djr, F_ljr_ijoin, F_ljr_sjoin, F_ljr_samer, F_ljr_iperat, F_ljr_irosv, F_ljr_alive, s_djr, s_ijoin, s_sjoin, s_samer, s_iperat, s_irosv, s_alive, Tree.holds, ltI_t, ltI_f, leI_t, leI_f, all_cons, all_nil, and_true, true_and, forall_eq, decide_eq_true_eq, decide_eq_false_iff_not, beq_iff_eq, beq_eq_false_iff_ne, bne_iff_ne, bne_eq_false_iff_eq, ne_eq, Decidable.not_not, selI_z, selB_z, selS_z, selN_z, selL_z, selI_s, selB_s, selS_s, selN_s, selL_s, Int.toNat_natCast, Nat.mul_one, Nat.zero_add, Nat.div_one, List.drop_zero, Nat.zero_mul, Nat.le_refl, Bool.not_eq_true', Bool.not_eq_false', Bool.false_eq_true, Bool.true_eq_false, not_true_eq_false, not_false_eq_true, false_imp_iff, true_imp_iff, if_true, if_false, sig, sigF, sigW, sigR, sigO, sigD, sigWD, List.map_cons, List.map_nil, unR_ros, perD, hu, rosR, rosD_take, rosD_len, ByteArray.toList_eq, sel_kstr, sel_kint, sel_kbool]
  have SR : ∀ a b : List Per, a.length ≤ 1048576 → ∃ (l_1 m : List Per), [D.list 28 a.length (rosD a), .list 28 b.length (rosD b)] = [.list 28 l_1.length (rosD l_1), .list 28 m.length (rosD m)] ∧ l_1.length ≤ 1048576 := fun a b h => ⟨a, b, rfl, h⟩
  refine ⟨J l sm, J l sm, SR _ _ sx.1, fun h => (by rw [sameR_self] at h; cases h), fun _ => ⟨fun h2 => ⟨SR _ _ sx.1, fun _ => trivial, fun h => ⟨fun _ => trivial, fun h3 => ?_⟩⟩, fun h2 => ?_⟩⟩
  · rcases join_cases l p with ⟨_, e | e⟩ | ⟨e, _⟩
    · rw [e, sameR_self] at h; cases h
    · exact absurd (by rw [e]; rfl) h3
    · rw [h2] at e; cases e
  · rcases join_cases l p with ⟨e, _⟩ | ⟨_, hr, e, hv⟩
    · rw [h2] at e; cases e
    have A : atP (insP p l) p.w = gapP p.w l := at_is hv (ins_at p l) rfl fun j q hj hq => ltS_ne (gap_lt hj (by rw [← ins_before hj]; exact hq))
    obtain ⟨c0, c1, c2⟩ := ros_cell (ins_at p l)
    have hlt := (List.getElem?_eq_some_iff.mp (ins_at p l)).1
    rw [e] at sx ⊢
    have k0 : ((gapP p.w l : Int)).toNat = gapP p.w l := Int.toNat_natCast _
    have hi := gap_le p.w l
    have hlen := ins_len p l
    have hback := ins_back p l
    have h8 := (ros_iff.mp hv).2.2
    have ag := join_again hv
    generalize insP p l = x at *
    generalize gapP p.w l = i at *
    have t0 : ∀ X : List D, List.take 0 ([] : List D) ++ X = X := fun _ => rfl
    have e0 : ((0 : Int)).toNat = 0 := rfl
    have e1 : ((x.length : Int) - ((i : Int) + 1)).toNat = x.length - (i + 1) := by omega
    have e2 : ((i : Int) + 1).toNat = i + 1 := by omega
    have T2 : List.take (i * 3) (rosD (x.take i)) = rosD (x.take i) := List.take_of_length_le (by rw [rosD_len, List.length_take]; omega)
    have T5 : List.take ((x.length - (i + 1)) * 3) (rosD (x.drop (i + 1))) = rosD (x.drop (i + 1)) := List.take_of_length_le (by rw [rosD_len, List.length_drop]; omega)
    have T6 : rosD (x.take i) ++ rosD (x.drop (i + 1)) = rosD l := by rw [← rosD_append, hback]
    have hx : i + (x.length - (i + 1)) = l.length := by omega
    have ln : (rosD (x.take i)).length = i * 3 := by rw [rosD_len, List.length_take, Nat.min_eq_left (by omega)]
    simp only [A, k0, selS_of c0, selI_of c1, selB_of c2, ag, Option.getD_some, Option.getD_none, Int.sub_zero, e0, e1, e2, t0, Nat.zero_mul, List.drop_zero, rosD_taken, rosD_drop, T2, T5, T6, ln, hx, List.take_length, unR_ros, sameR_self]
    have hl3 := rosD_len l
    have h10 := hl.1
    refine ⟨⟨x, p.w, rfl, sx⟩, fun h => absurd h (by omega), fun _ => ⟨fun h => absurd h (by omega), fun _ => ⟨⟨by omega, by omega⟩, ⟨c0, c1, c2⟩, fun h => absurd rfl (per_ne h), fun _ => ⟨⟨x, p, rfl, sx, by omega⟩, ⟨x, rfl, sx⟩, fun _ => ⟨fun _ => ⟨⟨by omega, by omega, by omega⟩, ⟨by omega, by omega⟩, by unfold inK; omega, ⟨by omega, by omega, by omega⟩, ⟨by omega, by omega, by omega⟩, by omega, SR l l (by omega), trivial⟩, fun h => by cases h⟩, fun h => by rw [hv] at h; cases h⟩⟩⟩⟩
theorem host_from {l : List Per} {q : Per} (h : q ∈ hostP l) : ∃ p ∈ l, p.w = q.w := by
  obtain ⟨i, hi, e⟩ := List.getElem_of_mem h
  have := host_at (l := l) i
  rw [List.getElem?_eq_getElem hi, e] at this
  cases e2 : l[i]? with
  | none => rw [e2] at this; cases this
  | some p =>
    rw [e2] at this
    injection this with this
    exact ⟨p, List.mem_of_getElem? e2, this.symm⟩
theorem leave_sm {l : List Per} {w : ByteArray} (h : smR l) : smR (leaveP l w).1 := by
  rcases leave_cases l w with ⟨_, e | e⟩ | ⟨_, _, hp, e⟩
  · rwa [e]
  · rw [e]; exact ⟨Nat.zero_le _, fun q hq => by cases hq⟩
  · rw [e]
    refine ⟨by rw [leave_len hp]; have := h.1; omega, fun q hq => ?_⟩
    obtain ⟨p, p1, p2⟩ := host_from hq
    rw [← p2]
    exact h.2 p (List.mem_of_mem_eraseIdx p1)
theorem ok_llr : FnOk Try.prog 9 s_llr := by
  refine fnOk (fn := Try.f9) (F := F_llr) (hs := hs_llr) (tab_cons ok_dlr (tab_cons ok_ileave (tab_cons ok_sleave (tab_cons ok_samer (tab_cons ok_irosv (tab_cons ok_iperat (tab_cons ok_alive tab_nil))))))) mixed rfl rfl rfl [.list 5] (by kernel_rfl) (by simp) ?_
  intro n l hw
  refine ⟨fun h ys => h = 0 ∧ ∃ (l : List Per) (w : ByteArray) (k : Nat), ys = [.list 28 l.length (rosD l), .str w, .int .i64 (0 : Nat), .int .i64 ((hostP (l.eraseIdx (placeP w l))).length : Nat), .bool ((hostP (l.eraseIdx (placeP w l))).isEmpty || ((hostP (l.eraseIdx (placeP w l))).take k).any fun p => p.r == 2), .int .i64 k, .list 28 0 (rosD (hostP (l.eraseIdx (placeP w l))))] ∧ drR l ∧ rosB l = true ∧ placeP w l < l.length ∧ k ≤ (hostP (l.eraseIdx (placeP w l))).length, fun h ys => selN ys 0 - (selI ys 5).toNat, ?_, ?_⟩
  · rw [t_llr]
    simp only [F_llr_dlr, F_llr_ileave, F_llr_sleave, F_llr_samer, F_llr_irosv, F_llr_iperat, F_llr_alive, s_dlr, s_ileave, s_sleave, s_samer, s_irosv, s_iperat, s_alive, Tree.holds, ltI_t, ltI_f, leI_t, leI_f, all_cons, all_nil, and_true, true_and, forall_eq, decide_eq_true_eq, decide_eq_false_iff_not, beq_iff_eq, beq_eq_false_iff_ne, bne_iff_ne, bne_eq_false_iff_eq, ne_eq, Decidable.not_not, selI_z, selB_z, selS_z, selN_z, selL_z, selI_s, selB_s, selS_s, selN_s, selL_s, Int.toNat_natCast, Nat.mul_one, Nat.zero_add, Nat.div_one, List.drop_zero, Nat.zero_mul, Nat.le_refl, Bool.not_eq_true', Bool.not_eq_false', Bool.false_eq_true, Bool.true_eq_false, not_true_eq_false, not_false_eq_true, false_imp_iff, true_imp_iff, if_true, if_false, sig, sigF, sigW, sigR, sigO, sigD, sigWD, List.map_cons, List.map_nil]
    refine ⟨fun _ => trivial, fun _ => ⟨bytes_wf hw, ?_⟩⟩
    rintro ys ⟨l, w, rfl, hl, hw'⟩
    have sm := drR_sm hl
    have j1 : (leaveP l w).1.length ≤ l.length := by
      rcases leave_cases l w with ⟨_, e | e⟩ | ⟨_, _, hp, e⟩
      · rw [e]; omega
      · rw [e]; exact Nat.zero_le _
      · rw [e, leave_len hp]; omega
    have j2 := sm.1
    have SR : ∀ a b : List Per, a.length ≤ 1048576 → ∃ (l_1 m : List Per), [D.list 28 a.length (rosD a), .list 28 b.length (rosD b)] = [.list 28 l_1.length (rosD l_1), .list 28 m.length (rosD m)] ∧ l_1.length ≤ 1048576 := fun a b h => ⟨a, b, rfl, h⟩
    simp only [F_llr_dlr, F_llr_ileave, F_llr_sleave, F_llr_samer, F_llr_irosv, F_llr_iperat, F_llr_alive, s_dlr, s_ileave, s_sleave, s_samer, s_irosv, s_iperat, s_alive, Tree.holds, ltI_t, ltI_f, leI_t, leI_f, all_cons, all_nil, and_true, true_and, forall_eq, decide_eq_true_eq, decide_eq_false_iff_not, beq_iff_eq, beq_eq_false_iff_ne, bne_iff_ne, bne_eq_false_iff_eq, ne_eq, Decidable.not_not, selI_z, selB_z, selS_z, selN_z, selL_z, selI_s, selB_s, selS_s, selN_s, selL_s, Int.toNat_natCast, Nat.mul_one, Nat.zero_add, Nat.div_one, List.drop_zero, Nat.zero_mul, Nat.le_refl, Bool.not_eq_true', Bool.not_eq_false', Bool.false_eq_true, Bool.true_eq_false, not_true_eq_false, not_false_eq_true, false_imp_iff, true_imp_iff, if_true, if_false, sig, sigF, sigW, sigR, sigO, sigD, sigWD, List.map_cons, List.map_nil, unR_ros, rosR, rosD_take, rosD_len]
    refine ⟨⟨l, w, rfl, sm⟩, ⟨l, w, rfl, sm⟩, SR _ _ (by omega), fun h => (by rw [sameR_self] at h; cases h), fun _ => ⟨fun h2 => ⟨SR _ _ (by omega), fun _ => trivial, fun h => ⟨fun _ => trivial, fun h3 => ?_⟩⟩, fun h2 => ?_⟩⟩
    · rcases leave_cases l w with ⟨_, e | e⟩ | ⟨e, _⟩
      · rw [e, sameR_self] at h; cases h
      · exact absurd (by rw [e]; rfl) h3
      · rw [h2] at e; cases e
    · rcases leave_cases l w with ⟨e, _⟩ | ⟨_, hr, hp, e⟩
      · rw [h2] at e; cases e
      rw [e]
      refine ⟨l, w, 0, ?_, hl, hr, hp, by omega⟩
      cases hostP (l.eraseIdx (placeP w l)) with
      | nil => rfl
      | cons a t => 
        have : ((((a :: t).length : Nat) : Int) == 0) = false := by simp only [List.length_cons, beq_eq_false_iff_ne]; omega
        rw [this]; rfl
  · rintro h ys ⟨rfl, l, w, k, rfl, hl, hr, hp, hk⟩
    have y1 := leave_len hp
    have y2 := leave_valid (w := w) hr
    have y3 : atP (hostP (l.eraseIdx (placeP w l))) w = -1 := by
      unfold atP
      rw [if_neg]
      rintro ⟨-, h⟩
      rw [leave_gone hr hp] at h
      omega
    have y4 : ((hostP (l.eraseIdx (placeP w l))).isEmpty || (hostP (l.eraseIdx (placeP w l))).any fun p => p.r == 2) = true := by
      by_cases e : l.eraseIdx (placeP w l) = []
      · rw [e]; rfl
      · obtain ⟨q, q1, q2⟩ := host_some e
        rw [Bool.or_eq_true]
        exact .inr (List.any_eq_true.mpr ⟨q, q1, by rw [q2]; rfl⟩)
    have y5 : smR (hostP (l.eraseIdx (placeP w l))) := by
      have := leave_sm (w := w) (drR_sm hl)
      unfold leaveP at this
      rwa [if_pos hr, if_pos hp] at this
    have h10 := hl.1
    rw [t_llr0]
    simp only [F_llr_dlr, F_llr_ileave, F_llr_sleave, F_llr_samer, F_llr_irosv, F_llr_iperat, F_llr_alive, s_dlr, s_ileave, s_sleave, s_samer, s_irosv, s_iperat, s_alive, Tree.holds, ltI_t, ltI_f, leI_t, leI_f, all_cons, all_nil, and_true, true_and, forall_eq, decide_eq_true_eq, decide_eq_false_iff_not, beq_iff_eq, beq_eq_false_iff_ne, bne_iff_ne, bne_eq_false_iff_eq, ne_eq, Decidable.not_not, selI_z, selB_z, selS_z, selN_z, selL_z, selI_s, selB_s, selS_s, selN_s, selL_s, Int.toNat_natCast, Nat.mul_one, Nat.zero_add, Nat.div_one, List.drop_zero, Nat.zero_mul, Nat.le_refl, Bool.not_eq_true', Bool.not_eq_false', Bool.false_eq_true, Bool.true_eq_false, not_true_eq_false, not_false_eq_true, false_imp_iff, true_imp_iff, if_true, if_false, sig, sigF, sigW, sigR, sigO, sigD, sigWD, List.map_cons, List.map_nil, sel_kint, rosD_take, unR_ros]
    have W : ∀ b : Bool, b = ((hostP (l.eraseIdx (placeP w l))).isEmpty || ((hostP (l.eraseIdx (placeP w l))).take (k + 1)).any fun p => p.r == 2) → k + 1 ≤ (hostP (l.eraseIdx (placeP w l))).length → ∃ (l_1 : List Per) (w_1 : ByteArray) (k_1 : Nat), [D.list 28 l.length (rosD l), .str w, .int .i64 (0 : Nat), .int .i64 ((hostP (l.eraseIdx (placeP w l))).length : Nat), .bool b, .int .i64 ((k : Int) + 1), .list 28 0 (rosD (hostP (l.eraseIdx (placeP w l))))] = [.list 28 l_1.length (rosD l_1), .str w_1, .int .i64 (0 : Nat), .int .i64 ((hostP (l_1.eraseIdx (placeP w_1 l_1))).length : Nat), .bool ((hostP (l_1.eraseIdx (placeP w_1 l_1))).isEmpty || ((hostP (l_1.eraseIdx (placeP w_1 l_1))).take k_1).any fun p => p.r == 2), .int .i64 k_1, .list 28 0 (rosD (hostP (l_1.eraseIdx (placeP w_1 l_1))))] ∧ drR l_1 ∧ rosB l_1 = true ∧ placeP w_1 l_1 < l_1.length ∧ k_1 ≤ (hostP (l_1.eraseIdx (placeP w_1 l_1))).length := fun b hb h => ⟨l, w, k + 1, by rw [hb]; rfl, hl, hr, hp, h⟩
    refine ⟨fun hj => ⟨fun h => ⟨by unfold inK; omega, W _ ?_ (by omega), by omega⟩, fun h => ?_⟩, fun hj => ?_⟩
    · rw [Bool.or_eq_true] at h
      rcases h with h | h
      · rw [h]; rfl
      · symm
        rw [Bool.or_eq_true]
        obtain ⟨q, q1, q2⟩ := List.any_eq_true.mp h
        exact .inr (List.any_eq_true.mpr ⟨q, List.take_subset_take_left _ (Nat.le_succ k) q1, q2⟩)
    · obtain ⟨q, q1, q2⟩ := ros_get (l := hostP (l.eraseIdx (placeP w l))) (i := k) (by omega)
      obtain ⟨c0, c1, c2⟩ := ros_cell q1
      rw [selI_of c1]
      refine ⟨⟨by omega, by omega⟩, c1, by unfold inK; omega, W _ ?_ (by omega), by omega⟩
      rw [Bool.or_eq_false_iff] at h
      rw [h.1, List.take_add_one, q1, List.any_append, h.2]
      simp
    · have e : List.take k (hostP (l.eraseIdx (placeP w l))) = hostP (l.eraseIdx (placeP w l)) := List.take_of_length_le (by omega)
      rw [e, y4, y3]
      have hlen := rosD_len (hostP (l.eraseIdx (placeP w l)))
      exact ⟨by omega, ⟨_, rfl, y5⟩, fun _ => ⟨by unfold inK; omega, fun _ => ⟨by omega, ⟨_, _, rfl, y5⟩, fun _ => rfl, fun h => absurd rfl h⟩, fun h => absurd (by omega) h⟩, fun h => by rw [y2] at h; cases h⟩
end Go.Proofs.Ytnilekbmffjhfaa.Mini
end
