/- Parts of the proof: OffEP. -/
import Derived.Test.YtjleempapphlhabGeOffE
section
namespace Go.Proofs.Ytjleempapphlhab.Mini
open Go Go.RowKit
set_option linter.unusedVariables false
set_option linter.unusedSimpArgs false
set_option maxRecDepth 20000
theorem wf_media {f : Nat} {a b c d e : D} (ha : wfK Try.prog (f + 1) .str a) (hb : wfK Try.prog (f + 1) (.int .i64) b) (hc : wfK Try.prog (f + 1) .bool c) (hd : wfK Try.prog (f + 1) .bool d) (he : wfK Try.prog (f + 1) (.list 9) e) : ∃ m : Med, [a, b, c, d, e] = medD m ∧ wfM m := by
  obtain ⟨k, rfl, hk⟩ := ha
  obtain ⟨p, rfl, hp⟩ := hb
  obtain ⟨s, rfl⟩ := hc
  obtain ⟨h, rfl⟩ := hd
  obtain ⟨ls, rfl, h1, h2⟩ := wf_texts he
  exact ⟨⟨k, p, s, h, ls⟩, rfl, hk, h1, h2⟩
def kM : List Kd := [.str, .int .i64, .bool, .bool, .list 9]
theorem offs_of {f : Nat} : ∀ (n : Nat) (cs : List D), cs.length = n * 5 → (∀ (j : Nat) (x : D), cs[j]? = some x → ∃ k, kM[j % 5]? = some k ∧ wfK Try.prog (f + 1) k x) → ∃ l, cs = offD l ∧ l.length = n ∧ ∀ m ∈ l, wfM m
  | 0, cs, h, _ => ⟨[], List.eq_nil_of_length_eq_zero (by omega), rfl, by simp⟩
  | n + 1, cs, h, hw => by
    match cs, h, hw with
    | a :: b :: c :: d :: e :: r, h, hw =>
      have get : ∀ (j : Nat) (k : Kd) (x : D), kM[j % 5]? = some k → (a :: b :: c :: d :: e :: r)[j]? = some x → wfK Try.prog (f + 1) k x := fun j k x hk hx => by
        obtain ⟨k', g1, g2⟩ := hw j x hx
        rw [hk] at g1; injection g1 with g1; subst g1; exact g2
      obtain ⟨m, e1, e2⟩ := wf_media (get 0 .str a rfl rfl) (get 1 (.int .i64) b rfl rfl) (get 2 .bool c rfl rfl) (get 3 .bool d rfl rfl) (get 4 (.list 9) e rfl rfl)
      obtain ⟨l, g1, g2, g3⟩ := offs_of n r (by simp only [List.length_cons] at h; omega) (fun j x hx => by
        obtain ⟨k, k1, k2⟩ := hw (j + 5) x (by simpa using hx)
        exact ⟨k, by rw [Nat.add_mod_right] at k1; exact k1, k2⟩)
      refine ⟨m :: l, ?_, by simp [g2], fun x hx => ?_⟩
      · show [a, b, c, d, e] ++ r = medD m ++ offD l
        rw [e1, g1]
      · rcases List.mem_cons.mp hx with rfl | hx
        · exact e2
        · exact g3 x hx
    | [], h, _ => simp at h
    | [_], h, _ => simp at h; omega
    | [_, _], h, _ => simp at h; omega
    | [_, _, _], h, _ => simp at h; omega
    | [_, _, _, _], h, _ => simp at h; omega
theorem wf_offer {f : Nat} {d : D} (h : wfK Try.prog (f + 2) (.list 35) d) : ∃ l, [d] = lawD l ∧ l.length ≤ maxLen ∧ ∀ m ∈ l, wfM m := by
  obtain ⟨n, cs, ks, e, h1, h2, h3, h4⟩ := h
  have hk : ks = kM := by
    have : ksOf Try.prog 35 = some kM := by kernel_rfl
    rw [this] at h2; injection h2 with h2; exact h2.symm
  subst hk
  obtain ⟨l, e1, e2, e3⟩ := offs_of (f := f) n cs h3 h4
  exact ⟨l, by rw [e, e1, ← e2]; rfl, by omega, e3⟩
theorem sm_max {m : Med} (h : smM m) : wfM m := ⟨m20 h.1, m20' h.2.1, fun x hx => m20 (h.2.2 x hx)⟩
  where m20' {n : Nat} (h : n ≤ 1048576) : n ≤ maxLen := by unfold maxLen; omega
theorem ok_szmed : FnOk Try.prog 16 s_szmed := by
  refine fnOk (fn := Try.f16) (F := F_szmed) (hs := hs_szmed) (tab_cons ok_szstr tab_nil) mixed rfl rfl rfl [.str, .int .i64, .bool, .bool, .list 9, .int .i64] (by kernel_rfl) (by simp) ?_
  rintro k p s h n cs a ⟨m, a', e, hm, h1, h2⟩
  simp only [medD, List.cons_append, List.nil_append, List.cons.injEq, D.str.injEq, D.int.injEq, D.bool.injEq, D.list.injEq, true_and, and_true] at e
  obtain ⟨rfl, rfl, rfl, rfl, ⟨rfl, rfl⟩, rfl⟩ := e
  refine ⟨fun _ _ => False, fun _ _ => 0, ?_, fun _ _ h => h.elim⟩
  rw [t_szmed]
  simp only [F_szmed_szstr, s_szstr, Tree.holds, ltI_t, ltI_f, leI_t, leI_f, all_cons, all_nil, and_true, true_and, forall_eq, decide_eq_true_eq, decide_eq_false_iff_not, beq_iff_eq, beq_eq_false_iff_ne, bne_iff_ne, bne_eq_false_iff_eq, ne_eq, Decidable.not_not, selI_z, selB_z, selS_z, selN_z, selL_z, selI_s, selB_s, selS_s, selN_s, selL_s, Int.toNat_natCast, Nat.mul_one, Nat.zero_add, Nat.div_one, List.drop_zero, Nat.zero_mul, Nat.le_refl, Bool.not_eq_true', Bool.not_eq_false', Bool.false_eq_true, Bool.true_eq_false, not_true_eq_false, not_false_eq_true, false_imp_iff, true_imp_iff, if_true, if_false, sig, sigF, sigW, sigR, sigO, sigD, sigWD, List.map_cons, List.map_nil]
  obtain ⟨g1, g2, g3⟩ := hm
  have g1' := g1
  unfold maxLen at g1'
  have hu : unM [D.str m.k, .int .i64 m.p, .bool m.s, .bool m.h, .list 9 m.c.length (textsD m.c), .int .i64 a] = m := unM_med m
  refine ⟨by unfold inK; omega, fun e => ⟨-1, rfl, by omega, by omega, fun h => by omega⟩, fun e => ⟨⟨okC_texts g3, g2, by omega, by omega⟩, ?_⟩⟩
  rintro ys ⟨r, rfl, r0, r1, r2⟩
  simp only [F_szmed_szstr, s_szstr, Tree.holds, ltI_t, ltI_f, leI_t, leI_f, all_cons, all_nil, and_true, true_and, forall_eq, decide_eq_true_eq, decide_eq_false_iff_not, beq_iff_eq, beq_eq_false_iff_ne, bne_iff_ne, bne_eq_false_iff_eq, ne_eq, Decidable.not_not, selI_z, selB_z, selS_z, selN_z, selL_z, selI_s, selB_s, selS_s, selN_s, selL_s, Int.toNat_natCast, Nat.mul_one, Nat.zero_add, Nat.div_one, List.drop_zero, Nat.zero_mul, Nat.le_refl, Bool.not_eq_true', Bool.not_eq_false', Bool.false_eq_true, Bool.true_eq_false, not_true_eq_false, not_false_eq_true, false_imp_iff, true_imp_iff, if_true, if_false, sig, sigF, sigW, sigR, sigO, sigD, sigWD, List.map_cons, List.map_nil, hu]
  refine ⟨fun e => ⟨-1, rfl, by omega, by omega, fun h => by omega⟩, fun e => ⟨r, rfl, by omega, by omega, fun h ha => ?_⟩⟩
  obtain ⟨q1, q2⟩ := r2 h
  refine ⟨by omega, by omega, fun x hx => ?_⟩
  obtain ⟨j, hj, rfl⟩ := List.getElem_of_mem hx
  have := q2 j _ (textsD_at (List.getElem?_eq_getElem hj))
  omega
theorem ok_szoff : FnOk Try.prog 26 s_szoff := by
  refine fnOk (fn := Try.f26) (F := F_szoff) (hs := hs_szoff) (tab_cons ok_szmed tab_nil) mixed rfl rfl rfl [.list 35, .int .i64] (by kernel_rfl) (by simp) ?_
  rintro n cs a ⟨l, a', e, hl, hm, h1, h2⟩
  simp only [lawD, List.cons_append, List.nil_append, List.cons.injEq, D.int.injEq, D.list.injEq, true_and, and_true] at e
  obtain ⟨⟨rfl, rfl⟩, rfl⟩ := e
  refine ⟨fun h ys => h = 0 ∧ ∃ (i : Nat) (r : Int), ys = [.list 35 l.length (offD l), .int .i64 r, .int .i64 i] ∧ i ≤ l.length ∧ 0 ≤ r ∧ r ≤ a ∧ (l.length : Int) ≤ a ∧ (a ≤ 1048576 → ∀ (j : Nat) (m : Med), j < i → l[j]? = some m → smM m), fun h ys => l.length - (selI ys 2).toNat, ?_, ?_⟩
  · rw [t_szoff]
    simp only [F_szoff_szmed, s_szmed, Tree.holds, ltI_t, ltI_f, leI_t, leI_f, all_cons, all_nil, and_true, true_and, forall_eq, decide_eq_true_eq, decide_eq_false_iff_not, beq_iff_eq, beq_eq_false_iff_ne, bne_iff_ne, bne_eq_false_iff_eq, ne_eq, Decidable.not_not, selI_z, selB_z, selS_z, selN_z, selL_z, selI_s, selB_s, selS_s, selN_s, selL_s, Int.toNat_natCast, Nat.mul_one, Nat.zero_add, Nat.div_one, List.drop_zero, Nat.zero_mul, Nat.le_refl, Bool.not_eq_true', Bool.not_eq_false', Bool.false_eq_true, Bool.true_eq_false, not_true_eq_false, not_false_eq_true, false_imp_iff, true_imp_iff, if_true, if_false, sig, sigF, sigW, sigR, sigO, sigD, sigWD, List.map_cons, List.map_nil, unO_off]
    have hl' := hl
    unfold maxLen at hl'
    exact ⟨by unfold inK; omega, fun h => ⟨-1, rfl, by omega, by omega, fun h => by omega⟩, fun h => ⟨0, _, rfl, by omega, by omega, by omega, by omega, fun _ j m hj => by omega⟩⟩
  · rintro h ys ⟨rfl, i, r, rfl, hi, r0, r1, r2, r3⟩
    rw [t_szoff0]
    simp only [F_szoff_szmed, s_szmed, Tree.holds, ltI_t, ltI_f, leI_t, leI_f, all_cons, all_nil, and_true, true_and, forall_eq, decide_eq_true_eq, decide_eq_false_iff_not, beq_iff_eq, beq_eq_false_iff_ne, bne_iff_ne, bne_eq_false_iff_eq, ne_eq, Decidable.not_not, selI_z, selB_z, selS_z, selN_z, selL_z, selI_s, selB_s, selS_s, selN_s, selL_s, Int.toNat_natCast, Nat.mul_one, Nat.zero_add, Nat.div_one, List.drop_zero, Nat.zero_mul, Nat.le_refl, Bool.not_eq_true', Bool.not_eq_false', Bool.false_eq_true, Bool.true_eq_false, not_true_eq_false, not_false_eq_true, false_imp_iff, true_imp_iff, if_true, if_false, sig, sigF, sigW, sigR, sigO, sigD, sigWD, List.map_cons, List.map_nil, sel_kstr, sel_kint, sel_kbool, unO_off]
    refine ⟨fun hj => ?_, fun hj => ⟨r, rfl, by omega, by omega, fun _ ha => ⟨by omega, fun m hx => ?_⟩⟩⟩
    · obtain ⟨m, m1, m2⟩ := off_get (l := l) (i := i) (by omega)
      obtain ⟨c0, c1, c2, c3, c4⟩ := off_at m1
      rw [selS_of c0, selI_of c1, selB_of c2, selB_of c3, selN_of c4, selL_of c4]
      refine ⟨⟨by omega, by omega⟩, ⟨c0, c1, c2, c3, .inl c4⟩, ⟨m, r, rfl, hm m m2, by omega, by omega⟩, ?_⟩
      rintro ys ⟨q, rfl, q0, q1, q2⟩
      simp only [F_szoff_szmed, s_szmed, Tree.holds, ltI_t, ltI_f, leI_t, leI_f, all_cons, all_nil, and_true, true_and, forall_eq, decide_eq_true_eq, decide_eq_false_iff_not, beq_iff_eq, beq_eq_false_iff_ne, bne_iff_ne, bne_eq_false_iff_eq, ne_eq, Decidable.not_not, selI_z, selB_z, selS_z, selN_z, selL_z, selI_s, selB_s, selS_s, selN_s, selL_s, Int.toNat_natCast, Nat.mul_one, Nat.zero_add, Nat.div_one, List.drop_zero, Nat.zero_mul, Nat.le_refl, Bool.not_eq_true', Bool.not_eq_false', Bool.false_eq_true, Bool.true_eq_false, not_true_eq_false, not_false_eq_true, false_imp_iff, true_imp_iff, if_true, if_false, sig, sigF, sigW, sigR, sigO, sigD, sigWD, List.map_cons, List.map_nil]
      refine ⟨fun e => ⟨-1, rfl, by omega, by omega, fun h => by omega⟩, fun e => ⟨by unfold inK; unfold maxLen at hl; omega, ⟨i + 1, q, rfl, by omega, by omega, by omega, r2, fun ha j m' hj hm' => ?_⟩, by omega⟩⟩
      by_cases hji : j = i
      · rw [hji, m1] at hm'; injection hm' with hm'
        rw [← hm']
        have := q2 (by omega) (by omega)
        have hu : unM [D.str m.k, .int .i64 m.p, .bool m.s, .bool m.h, .list 9 m.c.length (textsD m.c), .int .i64 r] = m := unM_med m
        rw [hu] at this
        exact this
      · exact r3 ha j m' (by omega) hm'
    · obtain ⟨a', ha', rfl⟩ := List.getElem_of_mem hx
      exact r3 ha a' _ (by omega) (List.getElem?_eq_getElem ha')
theorem ok_tomed : FnOk Try.prog 17 s_tomed := by
  refine fnOk (fn := Try.f17) (F := F_tomed) (hs := hs_tomed) (tab_cons ok_tostr tab_nil) mixed rfl rfl rfl [.str, .int .i64, .bool, .bool, .list 9] (by kernel_rfl) (by simp) ?_
  rintro k p s h n cs ⟨m, e, hm⟩
  obtain ⟨rfl, rfl, rfl, rfl, rfl, rfl⟩ := med_open e
  obtain ⟨g1, g2, g3⟩ := sm_max hm
  have g4 := hm.2.1
  refine ⟨fun _ _ => False, fun _ _ => 0, ?_, fun _ _ h => h.elim⟩
  rw [t_tomed]
  have hu : unM [D.str m.k, .int .i64 m.p, .bool m.s, .bool m.h, .list 9 m.c.length (textsD m.c)] = m := unM_med m
  simp only [F_tomed_tostr, s_tostr, Tree.holds, ltI_t, ltI_f, leI_t, leI_f, all_cons, all_nil, and_true, true_and, forall_eq, decide_eq_true_eq, decide_eq_false_iff_not, beq_iff_eq, beq_eq_false_iff_ne, bne_iff_ne, bne_eq_false_iff_eq, ne_eq, Decidable.not_not, selI_z, selB_z, selS_z, selN_z, selL_z, selI_s, selB_s, selS_s, selN_s, selL_s, Int.toNat_natCast, Nat.mul_one, Nat.zero_add, Nat.div_one, List.drop_zero, Nat.zero_mul, Nat.le_refl, Bool.not_eq_true', Bool.not_eq_false', Bool.false_eq_true, Bool.true_eq_false, not_true_eq_false, not_false_eq_true, false_imp_iff, true_imp_iff, if_true, if_false, sig, sigF, sigW, sigR, sigO, sigD, sigWD, List.map_cons, List.map_nil, hu]
  refine ⟨⟨okC_texts g3, by omega⟩, by rw [textsD_len]; omega, ?_⟩
  rw [textsD_take]
  rfl
theorem unM_lit (m : Med) : unM [D.str m.k, .int .i64 m.p, .bool m.s, .bool m.h, .list 9 m.c.length (textsD m.c)] = m := unM_med m
theorem ok_tooff : FnOk Try.prog 27 s_tooff := by
  refine fnOk (fn := Try.f27) (F := F_tooff) (hs := hs_tooff) (tab_cons ok_tomed tab_nil) mixed rfl rfl rfl [.list 35] (by kernel_rfl) (by simp) ?_
  rintro n cs ⟨l, e, hl, hm⟩
  simp only [lawD, List.cons.injEq, D.list.injEq, true_and, and_true] at e
  obtain ⟨rfl, rfl⟩ := e
  refine ⟨fun h ys => h = 0 ∧ ∃ i : Nat, ys = [.list 35 l.length (offD l), .int .i64 (0 : Nat), .int .i64 l.length, .int .i64 i, .list 25 0 (medsK l.length (l.take i))] ∧ i ≤ l.length, fun h ys => l.length - (selI ys 3).toNat, ?_, ?_⟩
  · rw [t_tooff]
    simp only [F_tooff_tomed, s_tomed, Tree.holds, ltI_t, ltI_f, leI_t, leI_f, all_cons, all_nil, and_true, true_and, forall_eq, decide_eq_true_eq, decide_eq_false_iff_not, beq_iff_eq, beq_eq_false_iff_ne, bne_iff_ne, bne_eq_false_iff_eq, ne_eq, Decidable.not_not, selI_z, selB_z, selS_z, selN_z, selL_z, selI_s, selB_s, selS_s, selN_s, selL_s, Int.toNat_natCast, Nat.mul_one, Nat.zero_add, Nat.div_one, List.drop_zero, Nat.zero_mul, Nat.le_refl, Bool.not_eq_true', Bool.not_eq_false', Bool.false_eq_true, Bool.true_eq_false, not_true_eq_false, not_false_eq_true, false_imp_iff, true_imp_iff, if_true, if_false, sig, sigF, sigW, sigR, sigO, sigD, sigWD, List.map_cons, List.map_nil, unO_off]
    exact ⟨⟨by omega, by omega, by omega⟩, 0, rfl, by omega⟩
  · rintro h ys ⟨rfl, i, rfl, hi⟩
    rw [t_tooff0]
    simp only [F_tooff_tomed, s_tomed, Tree.holds, ltI_t, ltI_f, leI_t, leI_f, all_cons, all_nil, and_true, true_and, forall_eq, decide_eq_true_eq, decide_eq_false_iff_not, beq_iff_eq, beq_eq_false_iff_ne, bne_iff_ne, bne_eq_false_iff_eq, ne_eq, Decidable.not_not, selI_z, selB_z, selS_z, selN_z, selL_z, selI_s, selB_s, selS_s, selN_s, selL_s, Int.toNat_natCast, Nat.mul_one, Nat.zero_add, Nat.div_one, List.drop_zero, Nat.zero_mul, Nat.le_refl, Bool.not_eq_true', Bool.not_eq_false', Bool.false_eq_true, Bool.true_eq_false, not_true_eq_false, not_false_eq_true, false_imp_iff, true_imp_iff, if_true, if_false, sig, sigF, sigW, sigR, sigO, sigD, sigWD, List.map_cons, List.map_nil, sel_kstr, sel_kint, sel_kbool, unO_off]
    refine ⟨fun hj => ?_, fun hj => ?_⟩
    · obtain ⟨m, m1, m2⟩ := off_get (l := l) (i := i) (by omega)
      obtain ⟨c0, c1, c2, c3, c4⟩ := off_at m1
      have htk : (l.take i).length = i := by rw [List.length_take]; omega
      rw [selS_of c0, selI_of c1, selB_of c2, selB_of c3, selN_of c4, selL_of c4, unM_lit]
      refine ⟨⟨by omega, by omega⟩, ⟨c0, c1, c2, c3, .inl c4⟩, ⟨m, rfl, hm m m2⟩, ⟨by omega, by omega⟩, by rw [medsK_len (by omega)]; omega, by unfold inK; omega, ⟨i + 1, ?_, by omega⟩, by omega⟩
      have := medsK_step (n := l.length) (l := l.take i) m (by omega)
      rw [htk] at this
      rw [List.take_add_one, m1]
      show _ = [_, _, _, _, D.list 25 0 (medsK l.length (l.take i ++ [m]))]
      rw [← this]
      rfl
    · obtain rfl : i = l.length := by omega
      rw [List.take_of_length_le (Nat.le_refl _), medsK_all, offD_take]
      exact ⟨by rw [offD_len]; omega, rfl⟩
theorem ok_eqmed : FnOk Try.prog 18 s_eqmed := by
  refine fnOk (fn := Try.f18) (F := F_eqmed) (hs := hs_eqmed) (tab_cons ok_eqstr tab_nil) mixed rfl rfl rfl [.str, .int .i64, .bool, .bool, .list 9, .str, .int .i64, .bool, .bool, .list 9] (by kernel_rfl) (by simp) ?_
  rintro a0 a1 a2 a3 a4n a4 a5 a6 a7 a8 a9n a9 ⟨m, e, hm⟩
  simp only [medD, List.cons_append, List.nil_append, List.cons.injEq, D.str.injEq, D.int.injEq, D.bool.injEq, D.list.injEq, true_and, and_true] at e
  obtain ⟨rfl, rfl, rfl, rfl, ⟨rfl, rfl⟩, rfl, rfl, rfl, rfl, rfl, rfl⟩ := e
  obtain ⟨g1, g2, g3⟩ := sm_max hm
  refine ⟨fun _ _ => False, fun _ _ => 0, ?_, fun _ _ h => h.elim⟩
  rw [t_eqmed]
  simp only [F_eqmed_eqstr, s_eqstr, Tree.holds, ltI_t, ltI_f, leI_t, leI_f, all_cons, all_nil, and_true, true_and, forall_eq, decide_eq_true_eq, decide_eq_false_iff_not, beq_iff_eq, beq_eq_false_iff_ne, bne_iff_ne, bne_eq_false_iff_eq, ne_eq, Decidable.not_not, selI_z, selB_z, selS_z, selN_z, selL_z, selI_s, selB_s, selS_s, selN_s, selL_s, Int.toNat_natCast, Nat.mul_one, Nat.zero_add, Nat.div_one, List.drop_zero, Nat.zero_mul, Nat.le_refl, Bool.not_eq_true', Bool.not_eq_false', Bool.false_eq_true, Bool.true_eq_false, not_true_eq_false, not_false_eq_true, false_imp_iff, true_imp_iff, if_true, if_false, sig, sigF, sigW, sigR, sigO, sigD, sigWD, List.map_cons, List.map_nil]
  exact ⟨okC_texts g3, g2⟩
theorem ok_eqoff : FnOk Try.prog 28 s_eqoff := by
  refine fnOk (fn := Try.f28) (F := F_eqoff) (hs := hs_eqoff) (tab_cons ok_eqmed tab_nil) mixed rfl rfl rfl [.list 25, .list 25] (by kernel_rfl) (by simp) ?_
  rintro n cs n' cs' ⟨l, e, hl, hm⟩
  simp only [impD, List.cons_append, List.nil_append, List.cons.injEq, D.list.injEq, true_and, and_true] at e
  obtain ⟨⟨rfl, rfl⟩, rfl, rfl⟩ := e
  refine ⟨fun h ys => h = 0 ∧ ∃ i : Nat, ys = [.list 25 l.length (offD l), .list 25 l.length (offD l), .int .i64 i] ∧ i ≤ l.length, fun h ys => l.length - (selI ys 2).toNat, ?_, ?_⟩
  · rw [t_eqoff]
    simp only [F_eqoff_eqmed, s_eqmed, Tree.holds, ltI_t, ltI_f, leI_t, leI_f, all_cons, all_nil, and_true, true_and, forall_eq, decide_eq_true_eq, decide_eq_false_iff_not, beq_iff_eq, beq_eq_false_iff_ne, bne_iff_ne, bne_eq_false_iff_eq, ne_eq, Decidable.not_not, selI_z, selB_z, selS_z, selN_z, selL_z, selI_s, selB_s, selS_s, selN_s, selL_s, Int.toNat_natCast, Nat.mul_one, Nat.zero_add, Nat.div_one, List.drop_zero, Nat.zero_mul, Nat.le_refl, Bool.not_eq_true', Bool.not_eq_false', Bool.false_eq_true, Bool.true_eq_false, not_true_eq_false, not_false_eq_true, false_imp_iff, true_imp_iff, if_true, if_false, sig, sigF, sigW, sigR, sigO, sigD, sigWD, List.map_cons, List.map_nil]
    exact ⟨0, rfl, by omega⟩
  · rintro h ys ⟨rfl, i, rfl, hi⟩
    rw [t_eqoff0]
    simp only [F_eqoff_eqmed, s_eqmed, Tree.holds, ltI_t, ltI_f, leI_t, leI_f, all_cons, all_nil, and_true, true_and, forall_eq, decide_eq_true_eq, decide_eq_false_iff_not, beq_iff_eq, beq_eq_false_iff_ne, bne_iff_ne, bne_eq_false_iff_eq, ne_eq, Decidable.not_not, selI_z, selB_z, selS_z, selN_z, selL_z, selI_s, selB_s, selS_s, selN_s, selL_s, Int.toNat_natCast, Nat.mul_one, Nat.zero_add, Nat.div_one, List.drop_zero, Nat.zero_mul, Nat.le_refl, Bool.not_eq_true', Bool.not_eq_false', Bool.false_eq_true, Bool.true_eq_false, not_true_eq_false, not_false_eq_true, false_imp_iff, true_imp_iff, if_true, if_false, sig, sigF, sigW, sigR, sigO, sigD, sigWD, List.map_cons, List.map_nil, sel_kstr, sel_kint, sel_kbool]
    refine ⟨fun hj => ?_, fun hj => trivial⟩
    obtain ⟨m, m1, m2⟩ := off_get (l := l) (i := i) (by omega)
    obtain ⟨c0, c1, c2, c3, c4⟩ := off_at m1
    rw [selS_of c0, selI_of c1, selB_of c2, selB_of c3, selN_of c4, selL_of c4]
    exact ⟨⟨by omega, by omega⟩, ⟨c0, c1, c2, c3, .inl c4⟩, ⟨by omega, by omega⟩, ⟨c0, c1, c2, c3, .inl c4⟩, ⟨m, rfl, hm m m2⟩, by unfold inK; omega, ⟨i + 1, rfl, by omega⟩, by omega⟩
end Go.Proofs.Ytjleempapphlhab.Mini
end
