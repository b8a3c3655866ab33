/- Parts of the proof: OffLP. -/
import Derived.Test.YtjleempapphlhaaGdOffL
section
namespace Go.Proofs.Ytjleempapphlhaa.Mini
open Go Go.RowKit
set_option linter.unusedVariables false
set_option linter.unusedSimpArgs false
set_option maxRecDepth 20000
theorem ok_samem : FnOk Try.prog 50 s_samem := by
  refine fnOk (fn := Try.f50) (F := F_samem) (hs := hs_samem) (tab_cons ok_samet tab_nil) mixed rfl rfl rfl [.str, .int .i64, .bool, .bool, .list 9, .str, .int .i64, .bool, .bool, .list 9] (by kernel_rfl) (by simp) ?_
  rintro a0 a1 a2 a3 a4n a4 a5 a6 a7 a8 a9n a9 ⟨m, e, hm⟩
  simp only [medD, List.cons_append, List.nil_append, List.cons.injEq, D.str.injEq, D.int.injEq, D.bool.injEq, D.list.injEq, true_and, and_true] at e
  obtain ⟨rfl, rfl, rfl, rfl, ⟨rfl, rfl⟩, rfl, rfl, rfl, rfl, rfl, rfl⟩ := e
  refine ⟨fun _ _ => False, fun _ _ => 0, ?_, fun _ _ h => h.elim⟩
  rw [t_samem]
  simp only [F_samem_samet, s_samet, Tree.holds, ltI_t, ltI_f, leI_t, leI_f, all_cons, all_nil, and_true, true_and, forall_eq, decide_eq_true_eq, decide_eq_false_iff_not, beq_iff_eq, beq_eq_false_iff_ne, bne_iff_ne, bne_eq_false_iff_eq, ne_eq, Decidable.not_not, selI_z, selB_z, selS_z, selN_z, selL_z, selI_s, selB_s, selS_s, selN_s, selL_s, Int.toNat_natCast, Nat.mul_one, Nat.zero_add, Nat.div_one, List.drop_zero, Nat.zero_mul, Nat.le_refl, Bool.not_eq_true', Bool.not_eq_false', Bool.false_eq_true, Bool.true_eq_false, not_true_eq_false, not_false_eq_true, false_imp_iff, true_imp_iff, if_true, if_false, sig, sigF, sigW, sigR, sigO, sigD, sigWD, List.map_cons, List.map_nil, unS_texts, sameB_rfl]
  exact ⟨m.c, m.c, rfl, hm⟩
theorem ok_sameo : FnOk Try.prog 29 s_sameo := by
  refine fnOk (fn := Try.f29) (F := F_sameo) (hs := hs_sameo) (tab_cons ok_samem tab_nil) mixed rfl rfl rfl [.list 25, .list 25] (by kernel_rfl) (by simp) ?_
  rintro n cs n' cs' ⟨l, e, hl, hm⟩
  simp only [impD, List.cons_append, List.nil_append, List.cons.injEq, D.list.injEq, true_and, and_true] at e
  obtain ⟨⟨rfl, rfl⟩, rfl, rfl⟩ := e
  refine ⟨fun h ys => h = 0 ∧ ∃ i : Nat, ys = [.list 25 l.length (offD l), .list 25 l.length (offD l), .int .i64 i] ∧ i ≤ l.length, fun h ys => l.length - (selI ys 2).toNat, ?_, ?_⟩
  · rw [t_sameo]
    simp only [F_sameo_samem, s_samem, Tree.holds, ltI_t, ltI_f, leI_t, leI_f, all_cons, all_nil, and_true, true_and, forall_eq, decide_eq_true_eq, decide_eq_false_iff_not, beq_iff_eq, beq_eq_false_iff_ne, bne_iff_ne, bne_eq_false_iff_eq, ne_eq, Decidable.not_not, selI_z, selB_z, selS_z, selN_z, selL_z, selI_s, selB_s, selS_s, selN_s, selL_s, Int.toNat_natCast, Nat.mul_one, Nat.zero_add, Nat.div_one, List.drop_zero, Nat.zero_mul, Nat.le_refl, Bool.not_eq_true', Bool.not_eq_false', Bool.false_eq_true, Bool.true_eq_false, not_true_eq_false, not_false_eq_true, false_imp_iff, true_imp_iff, if_true, if_false, sig, sigF, sigW, sigR, sigO, sigD, sigWD, List.map_cons, List.map_nil]
    exact ⟨0, rfl, by omega⟩
  · rintro h ys ⟨rfl, i, rfl, hi⟩
    rw [t_sameo0]
    simp only [F_sameo_samem, s_samem, Tree.holds, ltI_t, ltI_f, leI_t, leI_f, all_cons, all_nil, and_true, true_and, forall_eq, decide_eq_true_eq, decide_eq_false_iff_not, beq_iff_eq, beq_eq_false_iff_ne, bne_iff_ne, bne_eq_false_iff_eq, ne_eq, Decidable.not_not, selI_z, selB_z, selS_z, selN_z, selL_z, selI_s, selB_s, selS_s, selN_s, selL_s, Int.toNat_natCast, Nat.mul_one, Nat.zero_add, Nat.div_one, List.drop_zero, Nat.zero_mul, Nat.le_refl, Bool.not_eq_true', Bool.not_eq_false', Bool.false_eq_true, Bool.true_eq_false, not_true_eq_false, not_false_eq_true, false_imp_iff, true_imp_iff, if_true, if_false, sig, sigF, sigW, sigR, sigO, sigD, sigWD, List.map_cons, List.map_nil, sel_kstr, sel_kint, sel_kbool]
    refine ⟨fun hj => ?_, fun hj => trivial⟩
    obtain ⟨m, m1, m2⟩ := off_get (l := l) (i := i) (by omega)
    obtain ⟨c0, c1, c2, c3, c4⟩ := off_at m1
    rw [selS_of c0, selI_of c1, selB_of c2, selB_of c3, selN_of c4, selL_of c4]
    exact ⟨⟨by omega, by omega⟩, ⟨c0, c1, c2, c3, .inl c4⟩, ⟨by omega, by omega⟩, ⟨c0, c1, c2, c3, .inl c4⟩, ⟨m, rfl, hm m m2⟩, by unfold inK; omega, ⟨i + 1, rfl, by omega⟩, by omega⟩
theorem med_nil (k : ByteArray) (p : Int) (s h : Bool) : medB ⟨k, p, s, h, []⟩ = false := by
  cases e : medB ⟨k, p, s, h, []⟩ with
  | false => rfl
  | true =>
    have := (med_parts e).2.2.2.2.2.1
    simp at this
theorem med_zero {m : Med} (h : medB m = true) : medB ⟨m.k, 0, false, false, m.c⟩ = true := by
  unfold medB at h ⊢
  simp only [Bool.and_eq_true, inB_iff] at h ⊢
  exact ⟨h.1, h.2.1, ⟨by omega, by omega⟩, h.2.2.2⟩
theorem ok_lmv : FnOk Try.prog 3 s_lmv := by
  refine fnOk (fn := Try.f3) (F := F_lmv) (hs := hs_lmv) (tab_cons ok_dmv (tab_cons ok_imed (tab_cons ok_smed (tab_cons ok_alive tab_nil)))) mixed rfl rfl rfl [.list 5] (by kernel_rfl) (by simp) ?_
  intro n l hw
  refine ⟨fun _ _ => False, fun _ _ => 0, ?_, fun _ _ h => h.elim⟩
  rw [t_lmv]
  simp only [F_lmv_dmv, F_lmv_imed, F_lmv_smed, F_lmv_alive, s_dmv, s_imed, s_smed, s_alive, Tree.holds, ltI_t, ltI_f, leI_t, leI_f, all_cons, all_nil, and_true, true_and, forall_eq, decide_eq_true_eq, decide_eq_false_iff_not, beq_iff_eq, beq_eq_false_iff_ne, bne_iff_ne, bne_eq_false_iff_eq, ne_eq, Decidable.not_not, selI_z, selB_z, selS_z, selN_z, selL_z, selI_s, selB_s, selS_s, selN_s, selL_s, Int.toNat_natCast, Nat.mul_one, Nat.zero_add, Nat.div_one, List.drop_zero, Nat.zero_mul, Nat.le_refl, Bool.not_eq_true', Bool.not_eq_false', Bool.false_eq_true, Bool.true_eq_false, not_true_eq_false, not_false_eq_true, false_imp_iff, true_imp_iff, if_true, if_false, sig, sigF, sigW, sigR, sigO, sigD, sigWD, List.map_cons, List.map_nil]
  refine ⟨fun _ => trivial, fun _ => ⟨bytes_wf hw, ?_⟩⟩
  rintro ys ⟨m, rfl, hm⟩
  have hs := drM_sm hm
  have hs0 : smM ⟨m.k, m.p, false, false, []⟩ := ⟨hs.1, by simp, by simp⟩
  have hs1 : smM ⟨m.k, 0, false, false, m.c⟩ := ⟨hs.1, hs.2.1, hs.2.2⟩
  have u0 : unM [D.str m.k, .int .i64 m.p, .bool false, .bool false, .list 9 0 []] = ⟨m.k, m.p, false, false, []⟩ := rfl
  have u1 : unM [D.str m.k, .int .i64 0, .bool false, .bool false, .list 9 m.c.length (textsD m.c)] = ⟨m.k, 0, false, false, m.c⟩ := unM_med ⟨m.k, 0, false, false, m.c⟩
  simp only [medD, F_lmv_dmv, F_lmv_imed, F_lmv_smed, F_lmv_alive, s_dmv, s_imed, s_smed, s_alive, Tree.holds, ltI_t, ltI_f, leI_t, leI_f, all_cons, all_nil, and_true, true_and, forall_eq, decide_eq_true_eq, decide_eq_false_iff_not, beq_iff_eq, beq_eq_false_iff_ne, bne_iff_ne, bne_eq_false_iff_eq, ne_eq, Decidable.not_not, selI_z, selB_z, selS_z, selN_z, selL_z, selI_s, selB_s, selS_s, selN_s, selL_s, Int.toNat_natCast, Nat.mul_one, Nat.zero_add, Nat.div_one, List.drop_zero, Nat.zero_mul, Nat.le_refl, Bool.not_eq_true', Bool.not_eq_false', Bool.false_eq_true, Bool.true_eq_false, not_true_eq_false, not_false_eq_true, false_imp_iff, true_imp_iff, if_true, if_false, sig, sigF, sigW, sigR, sigO, sigD, sigWD, List.map_cons, List.map_nil, unM_lit, u0, u1, med_nil]
  exact ⟨⟨m, rfl, hs⟩, ⟨m, rfl, hs⟩, ⟨_, rfl, hs0⟩, fun _ => trivial, fun h => ⟨⟨_, rfl, hs1⟩, fun _ => trivial, fun h2 => by rw [med_zero h] at h2; cases h2⟩⟩
theorem offE_of : ∀ l : List Med, offE l (offD l)
  | [] => rfl
  | m :: l => ⟨_, _, rfl, .inl rfl, offE_of l⟩
theorem offE_un : ∀ {l : List Med} {cs : List D}, offE l cs → unO cs = l
  | [], cs, h => by rw [show cs = [] from h]; rfl
  | m :: l, cs, h => by
    obtain ⟨t, r, rfl, h1, h2⟩ := h
    rcases h1 with rfl | ⟨rfl, h1⟩
    · show Med.mk m.k m.p m.s m.h (unS (textsD m.c)) :: unO r = m :: l
      rw [unS_texts, offE_un h2]
    · show Med.mk m.k m.p m.s m.h [] :: unO r = m :: l
      rw [← h1, offE_un h2]
theorem offE_at : ∀ {l : List Med} {cs : List D} {i : Nat} {m : Med}, offE l cs → l[i]? = some m → cs[i * 5]? = some (.str m.k) ∧ cs[i * 5 + 1]? = some (.int .i64 m.p) ∧ cs[i * 5 + 1 + 1]? = some (.bool m.s) ∧ cs[i * 5 + 1 + 1 + 1]? = some (.bool m.h) ∧ (cs[i * 5 + 1 + 1 + 1 + 1]? = some (.list 9 m.c.length (textsD m.c)) ∨ cs[i * 5 + 1 + 1 + 1 + 1]? = some (.list 0 0 []) ∧ m.c = [])
  | [], _, _, _, _, h => by simp at h
  | m' :: l, cs, 0, m, h, hm => by
    obtain ⟨t, r, rfl, h1, h2⟩ := h
    simp at hm
    subst hm
    rcases h1 with rfl | ⟨rfl, h1⟩
    · exact ⟨rfl, rfl, rfl, rfl, .inl rfl⟩
    · exact ⟨rfl, rfl, rfl, rfl, .inr ⟨rfl, h1⟩⟩
  | m' :: l, cs, i + 1, m, h, hm => by
    obtain ⟨t, r, rfl, h1, h2⟩ := h
    have := offE_at h2 (i := i) (m := m) (by simpa using hm)
    rw [Nat.add_mul, Nat.one_mul]
    exact this
theorem offE_take : ∀ {l : List Med} {cs : List D}, offE l cs → cs.length = l.length * 5
  | [], cs, h => by rw [show cs = [] from h]; rfl
  | m :: l, cs, h => by
    obtain ⟨t, r, rfl, h1, h2⟩ := h
    simp only [List.length_cons, offE_take h2]
    omega
theorem offD_drop (l : List Med) (i : Nat) : List.drop (i * 5) (offD l) = offD (l.drop i) := by
  by_cases h : i ≤ l.length
  · have e : offD l = offD (l.take i) ++ offD (l.drop i) := by
      unfold offD; rw [← flatD_append, List.take_append_drop]
    rw [e, List.drop_append, List.drop_of_length_le (by rw [offD_len, List.length_take]; omega), offD_len, List.length_take, Nat.min_eq_left h]
    simp
  · rw [List.drop_of_length_le (by rw [offD_len]; omega), List.drop_of_length_le (by omega)]
    rfl
theorem ok_ioffz : FnOk Try.prog 19 s_ioffz := by
  refine fnOk (fn := Try.f19) (F := F_ioffz) (hs := hs_ioffz) (tab_cons ok_imed tab_nil) mixed rfl rfl rfl [.list 25] (by kernel_rfl) (by simp) ?_
  rintro n cs ⟨l, cs', e, he, hl, hm⟩
  simp only [List.cons.injEq, D.list.injEq, true_and, and_true] at e
  obtain ⟨rfl, rfl⟩ := e
  have hun := offE_un he
  refine ⟨fun h ys => h = 0 ∧ ∃ i : Nat, ys = [.list 25 l.length cs, .int .i64 i] ∧ i ≤ l.length ∧ l.length ≤ 4 ∧ (∀ (a : Nat) (m : Med), a < i → l[a]? = some m → medB m = true), fun h ys => l.length - (selI ys 1).toNat, ?_, ?_⟩
  · rw [t_ioffz]
    simp only [F_ioffz_imed, s_imed, Tree.holds, ltI_t, ltI_f, leI_t, leI_f, all_cons, all_nil, and_true, true_and, forall_eq, decide_eq_true_eq, decide_eq_false_iff_not, beq_iff_eq, beq_eq_false_iff_ne, bne_iff_ne, bne_eq_false_iff_eq, ne_eq, Decidable.not_not, selI_z, selB_z, selS_z, selN_z, selL_z, selI_s, selB_s, selS_s, selN_s, selL_s, Int.toNat_natCast, Nat.mul_one, Nat.zero_add, Nat.div_one, List.drop_zero, Nat.zero_mul, Nat.le_refl, Bool.not_eq_true', Bool.not_eq_false', Bool.false_eq_true, Bool.true_eq_false, not_true_eq_false, not_false_eq_true, false_imp_iff, true_imp_iff, if_true, if_false, sig, sigF, sigW, sigR, sigO, sigD, sigWD, List.map_cons, List.map_nil, hun]
    refine ⟨fun h => ret_bool' ?_, fun h => ⟨0, rfl, by omega, by omega, fun a m h => by omega⟩⟩
    unfold offB
    rw [show decide (l.length ≤ 4) = false from decide_eq_false (by omega)]
    simp
  · rintro h ys ⟨rfl, i, rfl, hi, l4, hv⟩
    rw [t_ioffz0]
    simp only [F_ioffz_imed, s_imed, Tree.holds, ltI_t, ltI_f, leI_t, leI_f, all_cons, all_nil, and_true, true_and, forall_eq, decide_eq_true_eq, decide_eq_false_iff_not, beq_iff_eq, beq_eq_false_iff_ne, bne_iff_ne, bne_eq_false_iff_eq, ne_eq, Decidable.not_not, selI_z, selB_z, selS_z, selN_z, selL_z, selI_s, selB_s, selS_s, selN_s, selL_s, Int.toNat_natCast, Nat.mul_one, Nat.zero_add, Nat.div_one, List.drop_zero, Nat.zero_mul, Nat.le_refl, Bool.not_eq_true', Bool.not_eq_false', Bool.false_eq_true, Bool.true_eq_false, not_true_eq_false, not_false_eq_true, false_imp_iff, true_imp_iff, if_true, if_false, sig, sigF, sigW, sigR, sigO, sigD, sigWD, List.map_cons, List.map_nil, sel_kstr, sel_kint, sel_kbool, hun]
    refine ⟨fun hj => ?_, fun hj => ret_bool' ?_⟩
    · obtain ⟨m, m1, m2⟩ := off_get (l := l) (i := i) (by omega)
      obtain ⟨c0, c1, c2, c3, c4⟩ := offE_at he m1
      have h4 : D.list 9 (selN cs (i * 5 + 1 + 1 + 1 + 1)) (selL cs (i * 5 + 1 + 1 + 1 + 1)) = .list 9 m.c.length (textsD m.c) := by
        rcases c4 with c4 | ⟨c4, e4⟩
        · rw [selN_of c4, selL_of c4]
        · rw [selN_of c4, selL_of c4, e4]; rfl
      have c4' : cs[i * 5 + 1 + 1 + 1 + 1]? = some (D.list 9 (selN cs (i * 5 + 1 + 1 + 1 + 1)) (selL cs (i * 5 + 1 + 1 + 1 + 1))) ∨ cs[i * 5 + 1 + 1 + 1 + 1]? = some (.list 0 0 []) := by
        rcases c4 with c4 | ⟨c4, e4⟩
        · exact .inl (by rw [h4]; exact c4)
        · exact .inr c4
      rw [selS_of c0, selI_of c1, selB_of c2, selB_of c3]
      simp only [h4] at c4' ⊢
      rw [unM_lit]
      refine ⟨⟨by omega, by omega⟩, ⟨c0, c1, c2, c3, c4'⟩, ⟨m, rfl, hm m m2⟩, fun e0 => ret_bool' ?_, fun e0 => ⟨by unfold inK; omega, ⟨i + 1, rfl, by omega, l4, fun a m' ha hm' => ?_⟩, by omega⟩⟩
      · rw [med_no m2 e0]
      · by_cases hai : a = i
        · rw [hai, m1] at hm'; injection hm' with hm'; rw [← hm']; exact e0
        · exact hv a m' (by omega) hm'
    · have ha : l.all medB = true := List.all_eq_true.mpr (fun x hx => by
        obtain ⟨a, ha, rfl⟩ := List.getElem_of_mem hx
        exact hv a _ (by omega) (List.getElem?_eq_getElem ha))
      unfold offB
      rw [ha]
      simp [l4]
theorem ok_lov : FnOk Try.prog 5 s_lov := by
  refine fnOk (fn := Try.f5) (F := F_lov) (hs := hs_lov) (tab_cons ok_dov (tab_cons ok_ioffz (tab_cons ok_soff (tab_cons ok_alive tab_nil)))) mixed rfl rfl rfl [.list 5] (by kernel_rfl) (by simp) ?_
  intro n l hw
  refine ⟨fun _ _ => False, fun _ _ => 0, ?_, fun _ _ h => h.elim⟩
  rw [t_lov]
  simp only [F_lov_dov, F_lov_ioffz, F_lov_soff, F_lov_alive, s_dov, s_ioffz, s_soff, s_alive, Tree.holds, ltI_t, ltI_f, leI_t, leI_f, all_cons, all_nil, and_true, true_and, forall_eq, decide_eq_true_eq, decide_eq_false_iff_not, beq_iff_eq, beq_eq_false_iff_ne, bne_iff_ne, bne_eq_false_iff_eq, ne_eq, Decidable.not_not, selI_z, selB_z, selS_z, selN_z, selL_z, selI_s, selB_s, selS_s, selN_s, selL_s, Int.toNat_natCast, Nat.mul_one, Nat.zero_add, Nat.div_one, List.drop_zero, Nat.zero_mul, Nat.le_refl, Bool.not_eq_true', Bool.not_eq_false', Bool.false_eq_true, Bool.true_eq_false, not_true_eq_false, not_false_eq_true, false_imp_iff, true_imp_iff, if_true, if_false, sig, sigF, sigW, sigR, sigO, sigD, sigWD, List.map_cons, List.map_nil]
  refine ⟨fun _ => trivial, fun _ => ⟨bytes_wf hw, ?_⟩⟩
  rintro ys ⟨l, rfl, h1, hm⟩
  have hs := fun m hx => drM_sm (hm m hx)
  let z : Med := ⟨⟨#[]⟩, 0, false, false, []⟩
  have hz : smM z := ⟨by decide, by simp [z], by simp [z]⟩
  have ez : List.take (1 * 5) [D.str ⟨#[]⟩, .int .i64 0, .bool false, .bool false, .list 0 0 []] = [D.str ⟨#[]⟩, .int .i64 0, .bool false, .bool false, .list 0 0 []] := rfl
  have hE : offE (z :: l) ([D.str ⟨#[]⟩, .int .i64 0, .bool false, .bool false, .list 0 0 []] ++ offD l) := ⟨_, _, rfl, .inr ⟨rfl, rfl⟩, offE_of l⟩
  have hzl : ([D.str ⟨#[]⟩, .int .i64 0, .bool false, .bool false, .list 0 0 []] ++ offD l).length = (1 + l.length) * 5 := by rw [offE_take hE]; simp; omega
  have htk : List.take ((1 + l.length) * 5) ([D.str ⟨#[]⟩, .int .i64 0, .bool false, .bool false, .list 0 0 []] ++ offD l) = [D.str ⟨#[]⟩, .int .i64 0, .bool false, .bool false, .list 0 0 []] ++ offD l := List.take_of_length_le (by omega)
  have hno : offB (z :: l) = false := med_no (m := z) (by simp) (by show medB ⟨⟨#[]⟩, 0, false, false, []⟩ = false; exact med_nil _ _ _ _)
  have hun := offE_un hE
  have h2 : ((l.length : Int)).tdiv 2 = ((l.length / 2 : Nat) : Int) := by rw [Int.tdiv_eq_ediv_of_nonneg (by omega)]; omega
  have h3 : ((l.length : Int) - ((l.length / 2 : Nat) : Int)).toNat = l.length - l.length / 2 := by omega
  have hdl : (l.drop (l.length / 2)).length = l.length - l.length / 2 := by rw [List.length_drop]
  have hd : List.take ((l.length - l.length / 2) * 5) (offD (l.drop (l.length / 2))) = offD (l.drop (l.length / 2)) := List.take_of_length_le (by rw [offD_len, hdl]; omega)
  simp only [F_lov_dov, F_lov_ioffz, F_lov_soff, F_lov_alive, s_dov, s_ioffz, s_soff, s_alive, Tree.holds, ltI_t, ltI_f, leI_t, leI_f, all_cons, all_nil, and_true, true_and, forall_eq, decide_eq_true_eq, decide_eq_false_iff_not, beq_iff_eq, beq_eq_false_iff_ne, bne_iff_ne, bne_eq_false_iff_eq, ne_eq, Decidable.not_not, selI_z, selB_z, selS_z, selN_z, selL_z, selI_s, selB_s, selS_s, selN_s, selL_s, Int.toNat_natCast, Nat.mul_one, Nat.zero_add, Nat.div_one, List.drop_zero, Nat.zero_mul, Nat.le_refl, Bool.not_eq_true', Bool.not_eq_false', Bool.false_eq_true, Bool.true_eq_false, not_true_eq_false, not_false_eq_true, false_imp_iff, true_imp_iff, if_true, if_false, sig, sigF, sigW, sigR, sigO, sigD, sigWD, List.map_cons, List.map_nil, unO_off, ez, htk, hun, hno, h2, Option.getD_some, Option.getD_none, h3, Int.toNat_natCast, offD_drop, hd]
  refine ⟨⟨l, _, rfl, offE_of l, by omega, hs⟩, ⟨l, rfl, by omega, hs⟩, by omega, by omega, ⟨z :: l, _, by rw [List.length_cons, Nat.add_comm 1], hE, by simp; omega, fun m hx => ?_⟩, fun _ => trivial, fun hv => ⟨⟨by omega, by unfold inK; omega⟩, ⟨by omega, by omega, by omega⟩, ⟨l.drop (l.length / 2), _, by rw [hdl], offE_of _, by omega, fun m hx => hs m (List.mem_of_mem_drop hx)⟩, fun _ => trivial, fun hf => ?_⟩⟩
  · rcases List.mem_cons.mp hx with rfl | hx
    · exact hz
    · exact hs m hx
  · exfalso
    have : offB (l.drop (l.length / 2)) = true := by
      obtain ⟨v1, v2⟩ := off_parts hv
      unfold offB
      rw [Bool.and_eq_true, List.all_eq_true, decide_eq_true_eq]
      exact ⟨fun m hx => v1 m (List.mem_of_mem_drop hx), by omega⟩
    rw [this] at hf; cases hf
theorem ok_lol : FnOk Try.prog 7 s_lol := by
  refine fnOk (fn := Try.f7) (F := F_lol) (hs := hs_lol) (tab_cons ok_dol (tab_cons ok_iol (tab_cons ok_soli (tab_cons ok_samet (tab_cons ok_soff (tab_cons ok_iro (tab_cons ok_sameo (tab_cons ok_alive tab_nil)))))))) mixed rfl rfl rfl [.list 5] (by kernel_rfl) (by simp) ?_
  intro n l hw
  refine ⟨fun _ _ => False, fun _ _ => 0, ?_, fun _ _ h => h.elim⟩
  rw [t_lol]
  simp only [F_lol_dol, F_lol_iol, F_lol_soli, F_lol_samet, F_lol_soff, F_lol_iro, F_lol_sameo, F_lol_alive, s_dol, s_iol, s_soli, s_samet, s_soff, s_iro, s_sameo, s_alive, Tree.holds, ltI_t, ltI_f, leI_t, leI_f, all_cons, all_nil, and_true, true_and, forall_eq, decide_eq_true_eq, decide_eq_false_iff_not, beq_iff_eq, beq_eq_false_iff_ne, bne_iff_ne, bne_eq_false_iff_eq, ne_eq, Decidable.not_not, selI_z, selB_z, selS_z, selN_z, selL_z, selI_s, selB_s, selS_s, selN_s, selL_s, Int.toNat_natCast, Nat.mul_one, Nat.zero_add, Nat.div_one, List.drop_zero, Nat.zero_mul, Nat.le_refl, Bool.not_eq_true', Bool.not_eq_false', Bool.false_eq_true, Bool.true_eq_false, not_true_eq_false, not_false_eq_true, false_imp_iff, true_imp_iff, if_true, if_false, sig, sigF, sigW, sigR, sigO, sigD, sigWD, List.map_cons, List.map_nil]
  refine ⟨fun _ => trivial, fun _ => ⟨bytes_wf hw, ?_⟩⟩
  rintro ys ⟨l, rfl, h1, hm⟩
  have hs := fun m hx => drM_sm (hm m hx)
  have hll := linesO_len l
  have hls := linesO_size l
  simp only [F_lol_dol, F_lol_iol, F_lol_soli, F_lol_samet, F_lol_soff, F_lol_iro, F_lol_sameo, F_lol_alive, s_dol, s_iol, s_soli, s_samet, s_soff, s_iro, s_sameo, s_alive, Tree.holds, ltI_t, ltI_f, leI_t, leI_f, all_cons, all_nil, and_true, true_and, forall_eq, decide_eq_true_eq, decide_eq_false_iff_not, beq_iff_eq, beq_eq_false_iff_ne, bne_iff_ne, bne_eq_false_iff_eq, ne_eq, Decidable.not_not, selI_z, selB_z, selS_z, selN_z, selL_z, selI_s, selB_s, selS_s, selN_s, selL_s, Int.toNat_natCast, Nat.mul_one, Nat.zero_add, Nat.div_one, List.drop_zero, Nat.zero_mul, Nat.le_refl, Bool.not_eq_true', Bool.not_eq_false', Bool.false_eq_true, Bool.true_eq_false, not_true_eq_false, not_false_eq_true, false_imp_iff, true_imp_iff, if_true, if_false, sig, sigF, sigW, sigR, sigO, sigD, sigWD, List.map_cons, List.map_nil, unO_off, unS_texts, sameB_rfl, textsD_take]
  have hp : ∃ l_1 : List Med, [D.list 25 l.length (offD l)] = [.list 25 l_1.length (offD l_1)] ∧ l_1.length ≤ 1048576 ∧ ∀ m ∈ l_1, smM m := ⟨l, rfl, by omega, hs⟩
  refine ⟨hp, hp, ⟨by rw [textsD_len]; omega, by rw [textsD_len]; omega⟩, ⟨linesO l, linesO l, rfl, by omega⟩, hp, fun h0 => ?_, fun h0 => ?_⟩
  · have e : linesO l = [] := by unfold linesO; rw [h0]; rfl
    rw [e]
    exact ⟨fun _ => trivial, fun h => absurd rfl h⟩
  · have e := rdOf_lines h0
    rw [e]
    refine ⟨by rw [textsD_len]; omega, ⟨linesO l, rfl, by omega, fun s hx => by have := hls s hx; omega⟩, fun _ => ⟨l, rfl, by omega, fun m hx => (hs m hx).2.1⟩, fun h => by cases h⟩
theorem ok_lro : FnOk Try.prog 9 s_lro := by
  refine fnOk (fn := Try.f9) (F := F_lro) (hs := hs_lro) (tab_cons ok_dro (tab_cons ok_iro (tab_cons ok_srof (tab_cons ok_sameo (tab_cons ok_ioff (tab_cons ok_iol (tab_cons ok_samet (tab_cons ok_alive tab_nil)))))))) mixed rfl rfl rfl [.list 5] (by kernel_rfl) (by simp) ?_
  intro n l hw
  refine ⟨fun _ _ => False, fun _ _ => 0, ?_, fun _ _ h => h.elim⟩
  rw [t_lro]
  simp only [F_lro_dro, F_lro_iro, F_lro_srof, F_lro_sameo, F_lro_ioff, F_lro_iol, F_lro_samet, F_lro_alive, s_dro, s_iro, s_srof, s_sameo, s_ioff, s_iol, s_samet, s_alive, Tree.holds, ltI_t, ltI_f, leI_t, leI_f, all_cons, all_nil, and_true, true_and, forall_eq, decide_eq_true_eq, decide_eq_false_iff_not, beq_iff_eq, beq_eq_false_iff_ne, bne_iff_ne, bne_eq_false_iff_eq, ne_eq, Decidable.not_not, selI_z, selB_z, selS_z, selN_z, selL_z, selI_s, selB_s, selS_s, selN_s, selL_s, Int.toNat_natCast, Nat.mul_one, Nat.zero_add, Nat.div_one, List.drop_zero, Nat.zero_mul, Nat.le_refl, Bool.not_eq_true', Bool.not_eq_false', Bool.false_eq_true, Bool.true_eq_false, not_true_eq_false, not_false_eq_true, false_imp_iff, true_imp_iff, if_true, if_false, sig, sigF, sigW, sigR, sigO, sigD, sigWD, List.map_cons, List.map_nil]
  refine ⟨fun _ => trivial, fun _ => ⟨bytes_wf hw, ?_⟩⟩
  rintro ys ⟨ls, rfl, h1, hm⟩
  have hp : ∃ ls_1 : List ByteArray, [D.list 9 ls.length (textsD ls)] = [.list 9 ls_1.length (textsD ls_1)] ∧ ls_1.length ≤ 1048576 ∧ ∀ s ∈ ls_1, s.size ≤ 1048575 := ⟨ls, rfl, by omega, fun s hx => by have := hm s hx; omega⟩
  cases ho : rdOf ls with
  | none =>
    simp only [rdRes, F_lro_dro, F_lro_iro, F_lro_srof, F_lro_sameo, F_lro_ioff, F_lro_iol, F_lro_samet, F_lro_alive, s_dro, s_iro, s_srof, s_sameo, s_ioff, s_iol, s_samet, s_alive, Tree.holds, ltI_t, ltI_f, leI_t, leI_f, all_cons, all_nil, and_true, true_and, forall_eq, decide_eq_true_eq, decide_eq_false_iff_not, beq_iff_eq, beq_eq_false_iff_ne, bne_iff_ne, bne_eq_false_iff_eq, ne_eq, Decidable.not_not, selI_z, selB_z, selS_z, selN_z, selL_z, selI_s, selB_s, selS_s, selN_s, selL_s, Int.toNat_natCast, Nat.mul_one, Nat.zero_add, Nat.div_one, List.drop_zero, Nat.zero_mul, Nat.le_refl, Bool.not_eq_true', Bool.not_eq_false', Bool.false_eq_true, Bool.true_eq_false, not_true_eq_false, not_false_eq_true, false_imp_iff, true_imp_iff, if_true, if_false, sig, sigF, sigW, sigR, sigO, sigD, sigWD, List.map_cons, List.map_nil, unO_off, unS_texts, ho]
    exact ⟨hp, hp, ⟨[], rfl, by simp, by simp⟩, fun _ => trivial, fun h => absurd rfl h⟩
  | some l =>
    obtain ⟨g1, g2⟩ := lines_rdOf ho
    obtain ⟨g3, g4⟩ := off_parts g1
    have hs : ∀ m ∈ l, smM m := fun m hx => by
      obtain ⟨b1, b2, b3, b4, b5, b6, b7⟩ := med_parts (g3 m hx)
      have := word_size b3
      exact ⟨by omega, by omega, fun x hx => by have := word_size (b1 x hx); omega⟩
    simp only [rdRes, F_lro_dro, F_lro_iro, F_lro_srof, F_lro_sameo, F_lro_ioff, F_lro_iol, F_lro_samet, F_lro_alive, s_dro, s_iro, s_srof, s_sameo, s_ioff, s_iol, s_samet, s_alive, Tree.holds, ltI_t, ltI_f, leI_t, leI_f, all_cons, all_nil, and_true, true_and, forall_eq, decide_eq_true_eq, decide_eq_false_iff_not, beq_iff_eq, beq_eq_false_iff_ne, bne_iff_ne, bne_eq_false_iff_eq, ne_eq, Decidable.not_not, selI_z, selB_z, selS_z, selN_z, selL_z, selI_s, selB_s, selS_s, selN_s, selL_s, Int.toNat_natCast, Nat.mul_one, Nat.zero_add, Nat.div_one, List.drop_zero, Nat.zero_mul, Nat.le_refl, Bool.not_eq_true', Bool.not_eq_false', Bool.false_eq_true, Bool.true_eq_false, not_true_eq_false, not_false_eq_true, false_imp_iff, true_imp_iff, if_true, if_false, sig, sigF, sigW, sigR, sigO, sigD, sigWD, List.map_cons, List.map_nil, unO_off, unS_texts, ho, g1, g2, textsD_take, sameB_rfl]
    exact ⟨hp, hp, ⟨l, rfl, by omega, fun m hx => (hs m hx).2.1⟩, ⟨l, rfl, by omega, hs⟩, ⟨l, rfl, by omega, hs⟩, by rw [textsD_len]; omega, ls, ls, rfl, by omega⟩
end Go.Proofs.Ytjleempapphlhaa.Mini
end
