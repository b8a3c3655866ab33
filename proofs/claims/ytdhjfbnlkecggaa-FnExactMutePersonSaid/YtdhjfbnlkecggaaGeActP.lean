/- Parts of the proof: ActP. -/
import Derived.Test.YtdhjfbnlkecggaaGeActM
section
namespace Go.Proofs.Ytdhjfbnlkecggaa.Mini
open Go Go.RowKit
set_option linter.unusedVariables false
set_option linter.unusedSimpArgs false
set_option maxRecDepth 20000
theorem ros_setM {l : List Per} {i : Nat} {p : Per} (h : l[i]? = some p) (m : Bool) : setL (rosD l) (i * 3 + 2) [.bool m] = rosD (l.set i { p with m := m }) := by
  have hi := (List.getElem?_eq_some_iff.mp h).1
  have hA : (rosD (l.take i)).length = i * 3 := by rw [rosD_len, List.length_take]; omega
  have h2 : (l.set i { p with m := m })[i]? = some { p with m := m } := by rw [List.getElem?_set_self hi]
  rw [ros_split h, ros_split h2, List.take_set_of_le (Nat.le_refl _), List.drop_set_of_lt (by omega)]
  unfold setL
  rw [List.take_append, List.drop_append, List.take_of_length_le (l := rosD (l.take i)) (by omega), List.drop_of_length_le (l := rosD (l.take i)) (by show (rosD (l.take i)).length ≤ i * 3 + 2 + 1; omega), hA]
  rw [show i * 3 + 2 - i * 3 = 2 by omega, show i * 3 + 2 + [D.bool m].length - i * 3 = 3 by show i * 3 + 2 + 1 - i * 3 = 3; omega]
  simp [perD]
theorem act_lo {l : List Per} {a b : ByteArray} {d : Int} (h : atP l a < 0 ∨ atP l b < 0) : actB l a d b = false := by unfold actB; rw [if_pos h]
theorem act_0 {l : List Per} {a b : ByteArray} {d : Int} (h : ¬(atP l a < 0 ∨ atP l b < 0)) (hd : d = 0) : actB l a d b = (atP l a == atP l b && !(oneP l a).m) := by unfold actB; rw [if_neg h, if_pos hd]
theorem act_1 {l : List Per} {a b : ByteArray} {d : Int} (h : ¬(atP l a < 0 ∨ atP l b < 0)) (hd : d = 1) : actB l a d b = (atP l a == atP l b || (oneP l a).r == 2) := by unfold actB; rw [if_neg h, if_neg (by omega), if_pos hd]
theorem act_2 {l : List Per} {a b : ByteArray} {d : Int} (h : ¬(atP l a < 0 ∨ atP l b < 0)) (hd : d = 2) : actB l a d b = ((oneP l a).r == 2 && (atP l a == atP l b || (oneP l b).r != 2)) := by unfold actB; rw [if_neg h, if_neg (by omega), if_neg (by omega), if_pos hd]
theorem act_3 {l : List Per} {a b : ByteArray} {d : Int} (h : ¬(atP l a < 0 ∨ atP l b < 0)) (hd : d = 3) : actB l a d b = ((oneP l a).r == 2) := by unfold actB; rw [if_neg h, if_neg (by omega), if_neg (by omega), if_neg (by omega), if_pos hd]
theorem act_4 {l : List Per} {a b : ByteArray} {d : Int} (h0 : d ≠ 0) (h1 : d ≠ 1) (h2 : d ≠ 2) (h3 : d ≠ 3) : actB l a d b = false := by unfold actB; rw [if_neg h0, if_neg h1, if_neg h2, if_neg h3]; split <;> rfl
theorem setM_len (l : List Per) (w : ByteArray) (m : Bool) : (setM l w m).length = l.length := List.length_set
theorem setR_len (l : List Per) (w : ByteArray) (r : Int) : (setR l w r).length = l.length := List.length_set
theorem ok_sact : FnOk Try.prog 11 s_sact := by
  refine fnOk (fn := Try.f11) (F := F_sact) (hs := hs_sact) (tab_cons ok_sperat tab_nil) mixed rfl rfl rfl [.list 30, .str, .int .i64, .str] (by kernel_rfl) (by simp) ?_
  rintro n cs a d b ⟨l, a', d', b', e, sm⟩
  simp only [List.cons.injEq, D.list.injEq, D.str.injEq, D.int.injEq, true_and, and_true] at e
  obtain ⟨⟨rfl, rfl⟩, rfl, rfl, rfl⟩ := e
  refine ⟨fun _ _ => False, fun _ _ => 0, ?_, fun _ _ h => h.elim⟩
  rw [t_sact]
  simp only [F_sact_sperat, s_sperat, Tree.holds, ltI_t, ltI_f, leI_t, leI_f, all_cons, all_nil, and_true, true_and, forall_eq, decide_eq_true_eq, decide_eq_false_iff_not, beq_iff_eq, beq_eq_false_iff_ne, bne_iff_ne, bne_eq_false_iff_eq, ne_eq, Decidable.not_not, selI_z, selB_z, selS_z, selN_z, selL_z, selI_s, selB_s, selS_s, selN_s, selL_s, Int.toNat_natCast, Nat.mul_one, Nat.zero_add, Nat.div_one, List.drop_zero, Nat.zero_mul, Nat.le_refl, Bool.not_eq_true', Bool.not_eq_false', Bool.false_eq_true, Bool.true_eq_false, not_true_eq_false, not_false_eq_true, false_imp_iff, true_imp_iff, if_true, if_false, sig, sigF, sigW, sigR, sigO, sigD, sigWD, List.map_cons, List.map_nil, sel_kstr, sel_kint, sel_kbool, unR_ros]
  refine ⟨⟨l, a, rfl, sm⟩, ⟨l, b, rfl, sm⟩, fun h => ret_bool' (act_lo (.inl h)).symm, fun ha => ⟨fun h => ret_bool' (act_lo (.inr h)).symm, fun hb => ?_⟩⟩
  have hn : ¬(atP l a < 0 ∨ atP l b < 0) := fun h => h.elim ha hb
  have ha' := @at_lt l a
  have hb' := @at_lt l b
  obtain ⟨h1, h2, h3, h4⟩ := at_one (l := l) (w := a) (by omega)
  obtain ⟨g1, g2, g3, g4⟩ := at_one (l := l) (w := b) (by omega)
  obtain ⟨c0, c1, c2⟩ := ros_cell h3
  obtain ⟨d0, d1, d2⟩ := ros_cell g3
  have c2 : (rosD l)[(atP l a).toNat * 3 + 2]? = some (.bool (oneP l a).m) := c2
  rw [selI_of c1, selI_of d1, selB_of c2]
  refine ⟨⟨by omega, by omega⟩, c1, fun h => ⟨fun e => ⟨⟨by omega, by omega⟩, c2, ret_bool' ?_⟩, fun e => ret_bool' ?_⟩, fun n0 => ⟨fun h => ⟨fun e => ret_bool' ?_, fun e => ret_bool' ?_⟩, fun n1 => ⟨fun h => ⟨fun r => ⟨fun e => ret_bool' ?_, fun e => ⟨⟨by omega, by omega⟩, d1, ret_bool' ?_⟩⟩, fun r => ret_bool' ?_⟩, fun n2 => ⟨fun h => ret_bool' ?_, fun n3 => ret_bool' (act_4 n0 n1 n2 n3).symm⟩⟩⟩⟩
  · rw [act_0 hn h, e]; simp
  · rw [act_0 hn h]; simp [e]
  · rw [act_1 hn h, e]; simp
  · rw [act_1 hn h]; simp [e]
  · rw [act_2 hn h, e, r]; simp
  · rw [act_2 hn h, r]; simp [e]
  · rw [act_2 hn h]; simp [r]
  · rw [act_3 hn h]
theorem ok_smute : FnOk Try.prog 19 s_smute := by
  refine fnOk (fn := Try.f19) (F := F_smute) (hs := hs_smute) (tab_cons ok_srosv (tab_cons ok_sact (tab_cons ok_sperat tab_nil))) mixed rfl rfl rfl [.list 30, .str, .str, .bool] (by kernel_rfl) (by simp) ?_
  rintro n cs a b m ⟨l, a', b', m', e, sm⟩
  simp only [List.cons.injEq, D.list.injEq, D.str.injEq, D.bool.injEq, true_and, and_true] at e
  obtain ⟨⟨rfl, rfl⟩, rfl, rfl, rfl⟩ := e
  refine ⟨fun _ _ => False, fun _ _ => 0, ?_, fun _ _ h => h.elim⟩
  rw [t_smute]
  simp only [F_smute_srosv, F_smute_sact, F_smute_sperat, s_srosv, s_sact, s_sperat, Tree.holds, ltI_t, ltI_f, leI_t, leI_f, all_cons, all_nil, and_true, true_and, forall_eq, decide_eq_true_eq, decide_eq_false_iff_not, beq_iff_eq, beq_eq_false_iff_ne, bne_iff_ne, bne_eq_false_iff_eq, ne_eq, Decidable.not_not, selI_z, selB_z, selS_z, selN_z, selL_z, selI_s, selB_s, selS_s, selN_s, selL_s, Int.toNat_natCast, Nat.mul_one, Nat.zero_add, Nat.div_one, List.drop_zero, Nat.zero_mul, Nat.le_refl, Bool.not_eq_true', Bool.not_eq_false', Bool.false_eq_true, Bool.true_eq_false, not_true_eq_false, not_false_eq_true, false_imp_iff, true_imp_iff, if_true, if_false, sig, sigF, sigW, sigR, sigO, sigD, sigWD, List.map_cons, List.map_nil, sel_kstr, sel_kint, sel_kbool, unR_ros, List.take_zero, List.nil_append, rosD_take, rosD_len, ByteArray.toList_eq]
  have hl := sm.1
  have no : rosB l = true → ¬(actB l a 1 b = true ∧ (m = true ∨ a = b)) → scal (rosD l) ∧ [D.list 30 l.length (rosD l), .bool false] = rosR (muteP l a b m) := fun hr h => ⟨rosD_scal _, by unfold muteP; rw [if_pos hr, if_neg h]; rfl⟩
  have yes : rosB l = true → actB l a 1 b = true → (m = true ∨ a = b) → (∃ (l_1 : List Per) (w : ByteArray), [D.list 30 l.length (rosD l), .str b] = [.list 30 l_1.length (rosD l_1), .str w] ∧ smR l_1) ∧ (0 ≤ atP l b ∧ atP l b < l.length) ∧ (atP l b).toNat * 3 + 2 + 1 ≤ l.length * 3 ∧ (l.length * 3 ≤ (setL (rosD l) ((atP l b).toNat * 3 + 2) [D.bool m]).length ∧ scal (List.take (l.length * 3) (setL (rosD l) ((atP l b).toNat * 3 + 2) [D.bool m]))) ∧ [D.list 30 l.length (List.take (l.length * 3) (setL (rosD l) ((atP l b).toNat * 3 + 2) [D.bool m])), .bool true] = rosR (muteP l a b m) := fun hr h1 h2 => by
    obtain ⟨-, hb, -⟩ := act_at h1
    obtain ⟨g1, g2, g3, g4⟩ := at_one hb
    have lS := setM_len l b m
    have tS := rosD_take (setM l b m)
    have nS := rosD_len (setM l b m)
    rw [lS] at tS nS
    have eS : setL (rosD l) ((atP l b).toNat * 3 + 2) [D.bool m] = rosD (setM l b m) := ros_setM g3 m
    rw [eS, tS]
    refine ⟨⟨l, b, rfl, sm⟩, ⟨by omega, by omega⟩, by omega, ⟨by omega, rosD_scal _⟩, ?_⟩
    unfold muteP
    rw [if_pos hr, if_pos ⟨h1, h2⟩]
    unfold rosR
    rw [lS]
  refine ⟨⟨l, rfl, sm⟩, fun h => ⟨(by simp [scal]), by unfold muteP; rw [if_neg (by rw [h]; simp)]; rfl⟩, fun hr => ⟨hl, ⟨l, a, 1, b, rfl, sm⟩, fun h => no hr fun h2 => (by rw [h2.1] at h; cases h), fun h1 => ⟨fun hm => ⟨fun e => no hr fun h2 => ?_, fun e => yes hr h1 (.inr (text_eqR e))⟩, fun hm => yes hr h1 (.inl hm)⟩⟩⟩
  rcases h2.2 with h2 | h2
  · rw [hm] at h2; cases h2
  · exact e (by rw [h2])
theorem ok_sraise : FnOk Try.prog 26 s_sraise := by
  refine fnOk (fn := Try.f26) (F := F_sraise) (hs := hs_sraise) (tab_cons ok_srosv (tab_cons ok_sact (tab_cons ok_sperat (tab_cons ok_sin tab_nil)))) mixed rfl rfl rfl [.list 30, .str, .str, .int .i64] (by kernel_rfl) (by simp) ?_
  rintro n cs a b r ⟨l, a', b', r', e, sm⟩
  simp only [List.cons.injEq, D.list.injEq, D.str.injEq, D.int.injEq, true_and, and_true] at e
  obtain ⟨⟨rfl, rfl⟩, rfl, rfl, rfl⟩ := e
  refine ⟨fun h ys => h = 0 ∧ ∃ k : Nat, ys = [.list 30 l.length (rosD l), .int .i64 (0 : Nat), .int .i64 (l.length : Nat), .int .i64 k, .list 30 0 (rosD (setR l b r))] ∧ k ≤ l.length ∧ rosB l = true ∧ actB l a 3 b = true ∧ inB r 0 2 = true ∧ ∀ (j : Nat) (p : Per), j < k → (setR l b r)[j]? = some p → p.r ≠ 2, fun h ys => l.length - (selI ys 3).toNat, ?_, ?_⟩
  · rw [t_sraise]
    simp only [F_sraise_srosv, F_sraise_sact, F_sraise_sperat, F_sraise_sin, s_srosv, s_sact, s_sperat, s_sin, Tree.holds, ltI_t, ltI_f, leI_t, leI_f, all_cons, all_nil, and_true, true_and, forall_eq, decide_eq_true_eq, decide_eq_false_iff_not, beq_iff_eq, beq_eq_false_iff_ne, bne_iff_ne, bne_eq_false_iff_eq, ne_eq, Decidable.not_not, selI_z, selB_z, selS_z, selN_z, selL_z, selI_s, selB_s, selS_s, selN_s, selL_s, Int.toNat_natCast, Nat.mul_one, Nat.zero_add, Nat.div_one, List.drop_zero, Nat.zero_mul, Nat.le_refl, Bool.not_eq_true', Bool.not_eq_false', Bool.false_eq_true, Bool.true_eq_false, not_true_eq_false, not_false_eq_true, false_imp_iff, true_imp_iff, if_true, if_false, sig, sigF, sigW, sigR, sigO, sigD, sigWD, List.map_cons, List.map_nil, sel_kstr, sel_kint, sel_kbool, unR_ros, List.take_zero, List.nil_append, rosD_take, rosD_len, ByteArray.toList_eq]
    have hl := sm.1
    have no : rosB l = true → ¬(actB l a 3 b = true ∧ inB r 0 2 = true) → scal (rosD l) ∧ [D.list 30 l.length (rosD l), .bool false] = rosR (raiseP l a b r) := fun hr h => ⟨rosD_scal _, by unfold raiseP; rw [if_pos hr, if_neg h]; rfl⟩
    refine ⟨⟨l, rfl, sm⟩, fun h => ⟨(by simp [scal]), by unfold raiseP; rw [if_neg (by rw [h]; simp)]; rfl⟩, fun hr => ⟨hl, ⟨l, a, 3, b, rfl, sm⟩, fun h => no hr fun h2 => (by rw [h2.1] at h; cases h), fun h1 => ⟨fun h => no hr fun h2 => (by rw [h2.2] at h; cases h), fun h2 => ?_⟩⟩⟩
    obtain ⟨-, hb, -⟩ := act_at h1
    obtain ⟨g1, g2, g3, g4⟩ := at_one hb
    have eS : setL (rosD l) ((atP l b).toNat * 3 + 1) [D.int .i64 r] = rosD (setR l b r) := ros_setR g3 r
    rw [eS]
    exact ⟨⟨l, b, rfl, sm⟩, ⟨by omega, by omega⟩, by omega, 0, rfl, by omega, hr, h1, h2, fun j p h => by omega⟩
  · rintro h ys ⟨rfl, k, rfl, hk, hr, h1, h2, hv⟩
    have lS := setR_len l b r
    have tS := rosD_take (setR l b r)
    have nS := rosD_len (setR l b r)
    rw [lS] at tS nS
    rw [t_sraise0]
    simp only [F_sraise_srosv, F_sraise_sact, F_sraise_sperat, F_sraise_sin, s_srosv, s_sact, s_sperat, s_sin, Tree.holds, ltI_t, ltI_f, leI_t, leI_f, all_cons, all_nil, and_true, true_and, forall_eq, decide_eq_true_eq, decide_eq_false_iff_not, beq_iff_eq, beq_eq_false_iff_ne, bne_iff_ne, bne_eq_false_iff_eq, ne_eq, Decidable.not_not, selI_z, selB_z, selS_z, selN_z, selL_z, selI_s, selB_s, selS_s, selN_s, selL_s, Int.toNat_natCast, Nat.mul_one, Nat.zero_add, Nat.div_one, List.drop_zero, Nat.zero_mul, Nat.le_refl, Bool.not_eq_true', Bool.not_eq_false', Bool.false_eq_true, Bool.true_eq_false, not_true_eq_false, not_false_eq_true, false_imp_iff, true_imp_iff, if_true, if_false, sig, sigF, sigW, sigR, sigO, sigD, sigWD, List.map_cons, List.map_nil, sel_kstr, sel_kint, sel_kbool, unR_ros, tS, nS, rosD_take, rosD_len, List.take_zero, List.nil_append]
    have hl := sm.1
    refine ⟨fun hj => ?_, fun hj => ⟨hl, rosD_scal _, ?_⟩⟩
    · obtain ⟨p, p1, p2⟩ := ros_get (l := setR l b r) (i := k) (by omega)
      obtain ⟨c0, c1, c2⟩ := ros_cell p1
      rw [selI_of c1]
      refine ⟨⟨by omega, by omega⟩, c1, fun h => ⟨rosD_scal _, ?_⟩, fun h => ⟨by unfold inK; omega, ⟨k + 1, rfl, by omega, hr, h1, h2, fun j q hj hq => ?_⟩, by omega⟩⟩
      · have : anyH (setR l b r) = true := List.any_eq_true.mpr ⟨p, p2, by rw [h]; rfl⟩
        unfold raiseP
        rw [if_pos hr, if_pos ⟨h1, h2⟩, if_pos this]
        unfold rosR
        rw [lS]
      · by_cases e : j = k
        · rw [e, p1] at hq; injection hq with hq; rw [← hq]; exact h
        · exact hv j q (by omega) hq
    · have : ¬anyH (setR l b r) = true := fun h => by
        obtain ⟨q, q1, q2⟩ := List.any_eq_true.mp h
        obtain ⟨j, hj', rfl⟩ := List.getElem_of_mem q1
        exact hv j _ (by omega) (List.getElem?_eq_getElem hj') (by simpa using q2)
      unfold raiseP
      rw [if_pos hr, if_pos ⟨h1, h2⟩, if_neg this]
      rfl
end Go.Proofs.Ytdhjfbnlkecggaa.Mini
end
