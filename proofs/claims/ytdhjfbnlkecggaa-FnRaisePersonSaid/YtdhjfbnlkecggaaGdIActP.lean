/- Parts of the proof: IActP. -/
import Derived.Test.YtdhjfbnlkecggaaGdIAct
section
namespace Go.Proofs.Ytdhjfbnlkecggaa.Mini
open Go Go.RowKit
set_option linter.unusedVariables false
set_option linter.unusedSimpArgs false
set_option maxRecDepth 20000
/-- Who may do what, as the program says it. -/
theorem act_is {l : List Per} {a b : ByteArray} {d : Int} (h : ¬(atP l a < 0 ∨ atP l b < 0)) : actB l a d b = isP (oneP l a) (oneP l b) (if atP l a = atP l b then itsP d else othP d) := by
  by_cases e : atP l a = atP l b
  · rw [if_pos e]
    by_cases h0 : d = 0
    · subst h0; rw [act_0 h rfl]; simp [e, itsP, isP]
    by_cases h1 : d = 1
    · subst h1; rw [act_1 h rfl]; simp [e, itsP, isP]
    by_cases h2 : d = 2
    · subst h2; rw [act_2 h rfl]; simp [e, itsP, isP]
    by_cases h3 : d = 3
    · subst h3; rw [act_3 h rfl]; simp [itsP, isP]
    rw [act_4 h0 h1 h2 h3]; simp [h0, h1, h2, h3, itsP, isP]
  · rw [if_neg e]
    have e' : (atP l a == atP l b) = false := by simpa using e
    by_cases h0 : d = 0
    · subst h0; rw [act_0 h rfl, e']; simp [othP, isP]
    by_cases h1 : d = 1
    · subst h1; rw [act_1 h rfl, e']; simp [othP, isP]
    by_cases h2 : d = 2
    · subst h2; rw [act_2 h rfl, e']; simp [othP, isP]
    by_cases h3 : d = 3
    · subst h3; rw [act_3 h rfl]; simp [othP, isP]
    rw [act_4 h0 h1 h2 h3]; simp [h0, h1, h2, h3, othP, isP]
/-- Nobody is a host. -/
theorem fr_any (l : List Per) : frP 2 l < 0 ↔ ¬anyH l = true := by
  have hle := fr_le 2 l
  unfold frP anyH
  constructor
  · intro h e
    obtain ⟨p, hp, hr⟩ := List.any_eq_true.mp e
    have : frN 2 l < l.length := List.findIdx_lt_length_of_exists ⟨p, hp, hr⟩
    rw [if_pos this] at h; omega
  · intro h
    rw [if_neg]
    · omega
    · intro hlt
      refine h (List.any_eq_true.mpr ⟨_, List.getElem_mem hlt, ?_⟩)
      exact List.findIdx_getElem (w := hlt)
theorem ok_iits : FnOk Try.prog 32 s_iits := by
  refine fnOk (fn := Try.f32) (F := F_iits) (hs := hs_iits) tab_nil mixed rfl rfl rfl [.int .i64] (by kernel_rfl) (by simp) ?_
  intro d _
  refine ⟨fun _ _ => False, fun _ _ => 0, ?_, fun _ _ h => h.elim⟩
  rw [t_iits]
  simp only [Tree.holds, ltI_t, ltI_f, leI_t, leI_f, all_cons, all_nil, and_true, true_and, forall_eq, decide_eq_true_eq, decide_eq_false_iff_not, beq_iff_eq, beq_eq_false_iff_ne, bne_iff_ne, bne_eq_false_iff_eq, ne_eq, Decidable.not_not, selI_z, selB_z, selS_z, selN_z, selL_z, selI_s, selB_s, selS_s, selN_s, selL_s, Int.toNat_natCast, Nat.mul_one, Nat.zero_add, Nat.div_one, List.drop_zero, Nat.zero_mul, Nat.le_refl, Bool.not_eq_true', Bool.not_eq_false', Bool.false_eq_true, Bool.true_eq_false, not_true_eq_false, not_false_eq_true, false_imp_iff, true_imp_iff, if_true, if_false, sig, sigF, sigW, sigR, sigO, sigD, sigWD, List.map_cons, List.map_nil]
  have e : ∀ {x : Int}, x = itsP d → [D.int .i64 x] = [D.int .i64 (itsP d)] := fun h => by rw [h]
  exact ⟨fun h => e (by subst h; rfl), fun h0 => ⟨fun h => e (by subst h; rfl), fun h1 => ⟨fun h => e (by subst h; rfl), fun h2 => ⟨fun h => e (by subst h; rfl), fun h3 => e (by unfold itsP; rw [if_neg h0, if_neg h1, if_neg (by omega)])⟩⟩⟩⟩
theorem ok_iaot : FnOk Try.prog 33 s_iaot := by
  refine fnOk (fn := Try.f33) (F := F_iaot) (hs := hs_iaot) tab_nil mixed rfl rfl rfl [.int .i64] (by kernel_rfl) (by simp) ?_
  intro d _
  refine ⟨fun _ _ => False, fun _ _ => 0, ?_, fun _ _ h => h.elim⟩
  rw [t_iaot]
  simp only [Tree.holds, ltI_t, ltI_f, leI_t, leI_f, all_cons, all_nil, and_true, true_and, forall_eq, decide_eq_true_eq, decide_eq_false_iff_not, beq_iff_eq, beq_eq_false_iff_ne, bne_iff_ne, bne_eq_false_iff_eq, ne_eq, Decidable.not_not, selI_z, selB_z, selS_z, selN_z, selL_z, selI_s, selB_s, selS_s, selN_s, selL_s, Int.toNat_natCast, Nat.mul_one, Nat.zero_add, Nat.div_one, List.drop_zero, Nat.zero_mul, Nat.le_refl, Bool.not_eq_true', Bool.not_eq_false', Bool.false_eq_true, Bool.true_eq_false, not_true_eq_false, not_false_eq_true, false_imp_iff, true_imp_iff, if_true, if_false, sig, sigF, sigW, sigR, sigO, sigD, sigWD, List.map_cons, List.map_nil]
  have e : ∀ {x : Int}, x = othP d → [D.int .i64 x] = [D.int .i64 (othP d)] := fun h => by rw [h]
  exact ⟨fun h => e (by subst h; rfl), fun h1 => ⟨fun h => e (by subst h; rfl), fun h3 => ⟨fun h => e (by subst h; rfl), fun h2 => e (by unfold othP; rw [if_neg (by omega), if_neg h2])⟩⟩⟩
theorem ok_iisas : FnOk Try.prog 31 s_iisas := by
  refine fnOk (fn := Try.f31) (F := F_iisas) (hs := hs_iisas) tab_nil mixed rfl rfl rfl [.str, .int .i64, .bool, .str, .int .i64, .bool, .int .i64] (by kernel_rfl) (by simp) ?_
  rintro pw pr pm qw qr qm a ⟨p, q, a', e⟩
  simp only [perD, List.cons_append, List.nil_append, List.cons.injEq, D.list.injEq, D.str.injEq, D.int.injEq, D.bool.injEq, true_and, and_true] at e
  obtain ⟨rfl, rfl, rfl, rfl, rfl, rfl, rfl⟩ := e
  refine ⟨fun _ _ => False, fun _ _ => 0, ?_, fun _ _ h => h.elim⟩
  rw [t_iisas]
  simp only [Tree.holds, ltI_t, ltI_f, leI_t, leI_f, all_cons, all_nil, and_true, true_and, forall_eq, decide_eq_true_eq, decide_eq_false_iff_not, beq_iff_eq, beq_eq_false_iff_ne, bne_iff_ne, bne_eq_false_iff_eq, ne_eq, Decidable.not_not, selI_z, selB_z, selS_z, selN_z, selL_z, selI_s, selB_s, selS_s, selN_s, selL_s, Int.toNat_natCast, Nat.mul_one, Nat.zero_add, Nat.div_one, List.drop_zero, Nat.zero_mul, Nat.le_refl, Bool.not_eq_true', Bool.not_eq_false', Bool.false_eq_true, Bool.true_eq_false, not_true_eq_false, not_false_eq_true, false_imp_iff, true_imp_iff, if_true, if_false, sig, sigF, sigW, sigR, sigO, sigD, sigWD, List.map_cons, List.map_nil]
  have u1 : unP [D.str p.w, .int .i64 p.r, .bool p.m, .str q.w, .int .i64 q.r, .bool q.m, .int .i64 a] = p := rfl
  have u2 : unP (List.drop 3 [D.str p.w, .int .i64 p.r, .bool p.m, .str q.w, .int .i64 q.r, .bool q.m, .int .i64 a]) = q := rfl
  rw [u1, u2]
  refine ⟨fun h => ret_bool' ?_, fun h0 => ⟨fun h => ret_bool' ?_, fun h1 => ⟨fun h => ret_bool' ?_, fun h2 => ⟨fun h => ⟨fun h4 => ret_bool' ?_, fun h4 => ret_bool' ?_⟩, fun h3 => ret_bool' ?_⟩⟩⟩⟩
  · subst h; rfl
  · subst h; rfl
  · subst h; rfl
  · subst h
    show _ = (p.r == 2 && q.r != 2)
    rw [h4]; rfl
  · subst h
    show _ = (p.r == 2 && q.r != 2)
    rw [beq_false_of_ne h4]; rfl
  · unfold isP
    rw [if_neg h0, if_neg h1, if_neg h2, if_neg h3]
theorem ok_iact : FnOk Try.prog 10 s_iact := by
  refine fnOk (fn := Try.f10) (F := F_iact) (hs := hs_iact) (tab_cons ok_iperat (tab_cons ok_iits (tab_cons ok_iaot (tab_cons ok_iisas tab_nil)))) mixed rfl rfl rfl [.list 30, .str, .int .i64, .str] (by kernel_rfl) (by simp) ?_
  rintro n cs a d b ⟨l, a', d', b', e, sm⟩
  simp only [List.cons.injEq, D.list.injEq, D.str.injEq, D.int.injEq, true_and, and_true] at e
  obtain ⟨⟨rfl, rfl⟩, rfl, rfl, rfl⟩ := e
  refine ⟨fun _ _ => False, fun _ _ => 0, ?_, fun _ _ h => h.elim⟩
  rw [t_iact]
  simp only [F_iact_iperat, F_iact_iits, F_iact_iaot, F_iact_iisas, s_iperat, s_iits, s_iaot, s_iisas, Tree.holds, ltI_t, ltI_f, leI_t, leI_f, all_cons, all_nil, and_true, true_and, forall_eq, decide_eq_true_eq, decide_eq_false_iff_not, beq_iff_eq, beq_eq_false_iff_ne, bne_iff_ne, bne_eq_false_iff_eq, ne_eq, Decidable.not_not, selI_z, selB_z, selS_z, selN_z, selL_z, selI_s, selB_s, selS_s, selN_s, selL_s, Int.toNat_natCast, Nat.mul_one, Nat.zero_add, Nat.div_one, List.drop_zero, Nat.zero_mul, Nat.le_refl, Bool.not_eq_true', Bool.not_eq_false', Bool.false_eq_true, Bool.true_eq_false, not_true_eq_false, not_false_eq_true, false_imp_iff, true_imp_iff, if_true, if_false, sig, sigF, sigW, sigR, sigO, sigD, sigWD, List.map_cons, List.map_nil, sel_kstr, sel_kint, sel_kbool, unR_ros]
  refine ⟨⟨l, a, rfl, sm⟩, ⟨l, b, rfl, sm⟩, fun h => ret_bool' (act_lo (.inl h)).symm, fun ha => ⟨fun h => ret_bool' (act_lo (.inr h)).symm, fun hb => ?_⟩⟩
  have hn : ¬(atP l a < 0 ∨ atP l b < 0) := fun h => h.elim ha hb
  have ha' := @at_lt l a
  have hb' := @at_lt l b
  obtain ⟨h1, h2, h3, h4⟩ := at_one (l := l) (w := a) (by omega)
  obtain ⟨g1, g2, g3, g4⟩ := at_one (l := l) (w := b) (by omega)
  obtain ⟨c0, c1, c2⟩ := ros_cell h3
  obtain ⟨d0, d1, d2⟩ := ros_cell g3
  rw [selS_of c0, selI_of c1, selB_of c2, selS_of d0, selI_of d1, selB_of d2, act_is hn]
  refine ⟨fun e => ⟨⟨by omega, by omega⟩, ⟨c0, c1, c2⟩, ⟨by omega, by omega⟩, ⟨d0, d1, d2⟩, ⟨oneP l a, oneP l b, _, rfl⟩, ret_bool' ?_⟩, fun e => ⟨⟨by omega, by omega⟩, ⟨c0, c1, c2⟩, ⟨by omega, by omega⟩, ⟨d0, d1, d2⟩, ⟨oneP l a, oneP l b, _, rfl⟩, ret_bool' ?_⟩⟩
  · rw [if_pos e]; rfl
  · rw [if_neg e]; rfl
theorem ok_imute : FnOk Try.prog 18 s_imute := by
  refine fnOk (fn := Try.f18) (F := F_imute) (hs := hs_imute) (tab_cons ok_irosv (tab_cons ok_icpp (tab_cons ok_iact (tab_cons ok_iperat tab_nil)))) mixed rfl rfl rfl [.list 30, .str, .str, .bool] (by kernel_rfl) (by simp) ?_
  rintro n cs a b m ⟨l, a', b', m', e, sm⟩
  simp only [List.cons.injEq, D.list.injEq, D.str.injEq, D.bool.injEq, true_and, and_true] at e
  obtain ⟨⟨rfl, rfl⟩, rfl, rfl, rfl⟩ := e
  refine ⟨fun _ _ => False, fun _ _ => 0, ?_, fun _ _ h => h.elim⟩
  rw [t_imute]
  simp only [F_imute_irosv, F_imute_icpp, F_imute_iact, F_imute_iperat, s_irosv, s_icpp, s_iact, s_iperat, Tree.holds, ltI_t, ltI_f, leI_t, leI_f, all_cons, all_nil, and_true, true_and, forall_eq, decide_eq_true_eq, decide_eq_false_iff_not, beq_iff_eq, beq_eq_false_iff_ne, bne_iff_ne, bne_eq_false_iff_eq, ne_eq, Decidable.not_not, selI_z, selB_z, selS_z, selN_z, selL_z, selI_s, selB_s, selS_s, selN_s, selL_s, Int.toNat_natCast, Nat.mul_one, Nat.zero_add, Nat.div_one, List.drop_zero, Nat.zero_mul, Nat.le_refl, Bool.not_eq_true', Bool.not_eq_false', Bool.false_eq_true, Bool.true_eq_false, not_true_eq_false, not_false_eq_true, false_imp_iff, true_imp_iff, if_true, if_false, sig, sigF, sigW, sigR, sigO, sigD, sigWD, List.map_cons, List.map_nil, sel_kstr, sel_kint, sel_kbool, unR_ros, List.take_zero, List.nil_append, rosD_take, rosD_len, ByteArray.toList_eq]
  have hl := sm.1
  have no : rosB l = true → ¬(actB l a 1 b = true ∧ (m = true ∨ a = b)) → scal (rosD l) ∧ [D.list 30 l.length (rosD l), .bool false] = rosR (muteP l a b m) := fun hr h => ⟨rosD_scal _, by unfold muteP; rw [if_pos hr, if_neg h]; rfl⟩
  have yes : rosB l = true → actB l a 1 b = true → (m = true ∨ a = b) → (∃ (l_1 : List Per) (w : ByteArray), [D.list 30 l.length (rosD l), .str b] = [.list 30 l_1.length (rosD l_1), .str w] ∧ smR l_1) ∧ (0 ≤ atP l b ∧ atP l b < l.length) ∧ (atP l b).toNat * 3 + 2 + 1 ≤ l.length * 3 ∧ (l.length * 3 ≤ (setL (rosD l) ((atP l b).toNat * 3 + 2) [D.bool m]).length ∧ scal (List.take (l.length * 3) (setL (rosD l) ((atP l b).toNat * 3 + 2) [D.bool m]))) ∧ [D.list 30 l.length (List.take (l.length * 3) (setL (rosD l) ((atP l b).toNat * 3 + 2) [D.bool m])), .bool true] = rosR (muteP l a b m) := fun hr h1 h2 => by
    obtain ⟨-, hb, -⟩ := act_at h1
    obtain ⟨g1, g2, g3, g4⟩ := at_one hb
    have lS := setM_len l b m
    have tS := rosD_take (setM l b m)
    have nS := rosD_len (setM l b m)
    rw [lS] at tS nS
    have eS : setL (rosD l) ((atP l b).toNat * 3 + 2) [D.bool m] = rosD (setM l b m) := ros_setM g3 m
    rw [eS, tS]
    refine ⟨⟨l, b, rfl, sm⟩, ⟨by omega, by omega⟩, by omega, ⟨by omega, rosD_scal _⟩, ?_⟩
    unfold muteP
    rw [if_pos hr, if_pos ⟨h1, h2⟩]
    unfold rosR
    rw [lS]
  refine ⟨⟨l, rfl, sm⟩, fun h => (by unfold muteP; rw [if_neg (by rw [h]; simp)]; rfl), fun hr => ⟨⟨l, rfl, hl⟩, ⟨l, a, 1, b, rfl, sm⟩, fun h => no hr fun h2 => (by rw [h2.1] at h; cases h), fun h1 => ⟨fun hm => ⟨fun e => no hr fun h2 => ?_, fun e => yes hr h1 (.inr (text_eqR e))⟩, fun hm => yes hr h1 (.inl hm)⟩⟩⟩
  rcases h2.2 with h2 | h2
  · rw [hm] at h2; cases h2
  · exact e (by rw [h2])
theorem ok_iraise : FnOk Try.prog 25 s_iraise := by
  refine fnOk (fn := Try.f25) (F := F_iraise) (hs := hs_iraise) (tab_cons ok_irosv (tab_cons ok_irole (tab_cons ok_iact (tab_cons ok_icpp (tab_cons ok_iperat (tab_cons ok_ifwr tab_nil)))))) mixed rfl rfl rfl [.list 30, .str, .str, .int .i64] (by kernel_rfl) (by simp) ?_
  rintro n cs a b r ⟨l, a', b', r', e, sm⟩
  simp only [List.cons.injEq, D.list.injEq, D.str.injEq, D.int.injEq, true_and, and_true] at e
  obtain ⟨⟨rfl, rfl⟩, rfl, rfl, rfl⟩ := e
  refine ⟨fun _ _ => False, fun _ _ => 0, ?_, fun _ _ h => h.elim⟩
  rw [t_iraise]
  simp only [F_iraise_irosv, F_iraise_irole, F_iraise_iact, F_iraise_icpp, F_iraise_iperat, F_iraise_ifwr, s_irosv, s_irole, s_iact, s_icpp, s_iperat, s_ifwr, Tree.holds, ltI_t, ltI_f, leI_t, leI_f, all_cons, all_nil, and_true, true_and, forall_eq, decide_eq_true_eq, decide_eq_false_iff_not, beq_iff_eq, beq_eq_false_iff_ne, bne_iff_ne, bne_eq_false_iff_eq, ne_eq, Decidable.not_not, selI_z, selB_z, selS_z, selN_z, selL_z, selI_s, selB_s, selS_s, selN_s, selL_s, Int.toNat_natCast, Nat.mul_one, Nat.zero_add, Nat.div_one, List.drop_zero, Nat.zero_mul, Nat.le_refl, Bool.not_eq_true', Bool.not_eq_false', Bool.false_eq_true, Bool.true_eq_false, not_true_eq_false, not_false_eq_true, false_imp_iff, true_imp_iff, if_true, if_false, sig, sigF, sigW, sigR, sigO, sigD, sigWD, List.map_cons, List.map_nil, sel_kstr, sel_kint, sel_kbool, unR_ros, List.take_zero, List.nil_append, rosD_take, rosD_len, ByteArray.toList_eq]
  have hl := sm.1
  have no : rosB l = true → ¬(actB l a 3 b = true ∧ inB r 0 2 = true) → (∃ l_1 : List Per, [D.list 30 l.length (rosD l)] = [.list 30 l_1.length (rosD l_1)] ∧ l_1.length ≤ 1048576) ∧ scal (rosD l) ∧ [D.list 30 l.length (rosD l), .bool false] = rosR (raiseP l a b r) := fun hr h => ⟨⟨l, rfl, hl⟩, rosD_scal _, by unfold raiseP; rw [if_pos hr, if_neg h]; rfl⟩
  refine ⟨⟨l, rfl, sm⟩, fun h => (by unfold raiseP; rw [if_neg (by rw [h]; simp)]; rfl), fun hr => ⟨fun h => no hr fun h2 => (by rw [h2.2] at h; cases h), fun h2 => ⟨⟨l, a, 3, b, rfl, sm⟩, fun h => no hr fun h2 => (by rw [h2.1] at h; cases h), fun h1 => ?_⟩⟩⟩
  obtain ⟨-, hb, -⟩ := act_at h1
  obtain ⟨g1, g2, g3, g4⟩ := at_one hb
  have lS := setR_len l b r
  have tS := rosD_take (setR l b r)
  have nS := rosD_len (setR l b r)
  rw [lS] at tS nS
  have eS : setL (rosD l) ((atP l b).toNat * 3 + 1) [D.int .i64 r] = rosD (setR l b r) := ros_setR g3 r
  rw [eS, tS, unR_ros]
  have hr' : raiseP l a b r = if anyH (setR l b r) = true then (setR l b r, true) else (l, false) := by unfold raiseP; rw [if_pos hr, if_pos ⟨h1, h2⟩]
  refine ⟨⟨l, rfl, hl⟩, ⟨l, b, rfl, sm⟩, ⟨by omega, by omega⟩, by omega, by omega, ⟨setR l b r, 2, by rw [lS], by omega⟩, fun h => ⟨⟨l, rfl, hl⟩, rosD_scal _, ?_⟩, fun h => ⟨⟨by omega, rosD_scal _⟩, ?_⟩⟩
  · rw [hr', if_neg ((fr_any _).mp h)]; rfl
  · rw [fr_any, Classical.not_not] at h
    rw [hr', if_pos h]
    unfold rosR
    rw [lS]
end Go.Proofs.Ytdhjfbnlkecggaa.Mini
end
