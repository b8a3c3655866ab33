/- Parts of the proof: AnsLP. -/
import Derived.Test.YtjleempapphlhabGdAnsL
section
namespace Go.Proofs.Ytjleempapphlhab.Mini
open Go Go.RowKit
set_option linter.unusedVariables false
set_option linter.unusedSimpArgs false
set_option maxRecDepth 20000
theorem ok_iansmF : FnOk Try.prog 10 s_iansmF := ok_iansm.fz_own
theorem ok_iansoF : FnOk Try.prog 22 s_iansoF := ok_iansoD.fz_ownD
theorem ok_lam : FnOk Try.prog 3 s_lam := by
  refine fnOk (fn := Try.f3) (F := F_lam) (hs := hs_lam) (tab_cons ok_dam (tab_cons ok_iansmF (tab_cons ok_sansm (tab_cons ok_samem (tab_cons ok_imed (tab_cons ok_ifits (tab_cons ok_alive tab_nil))))))) mixed rfl rfl rfl [.list 5] (by kernel_rfl) (by simp) ?_
  intro n l hw
  refine ⟨fun _ _ => False, fun _ _ => 0, ?_, fun _ _ h => h.elim⟩
  rw [t_lam]
  simp only [F_lam_dam, F_lam_iansmF, F_lam_sansm, F_lam_samem, F_lam_imed, F_lam_ifits, F_lam_alive, s_dam, s_iansmF, s_sansm, s_samem, s_imed, s_ifits, s_alive, Tree.holds, ltI_t, ltI_f, leI_t, leI_f, all_cons, all_nil, and_true, true_and, forall_eq, decide_eq_true_eq, decide_eq_false_iff_not, beq_iff_eq, beq_eq_false_iff_ne, bne_iff_ne, bne_eq_false_iff_eq, ne_eq, Decidable.not_not, selI_z, selB_z, selS_z, selN_z, selL_z, selI_s, selB_s, selS_s, selN_s, selL_s, Int.toNat_natCast, Nat.mul_one, Nat.zero_add, Nat.div_one, List.drop_zero, Nat.zero_mul, Nat.le_refl, Bool.not_eq_true', Bool.not_eq_false', Bool.false_eq_true, Bool.true_eq_false, not_true_eq_false, not_false_eq_true, false_imp_iff, true_imp_iff, if_true, if_false, sig, sigF, sigW, sigR, sigO, sigD, sigWD, List.map_cons, List.map_nil]
  refine ⟨fun _ => trivial, fun _ => ⟨bytes_wf hw, ?_⟩⟩
  rintro ys ⟨o, w, rfl, ho, hw'⟩
  have so := drM_sm ho
  have sw := drM_sm hw'
  have lit1 : unM [D.str o.k, .int .i64 o.p, .bool o.s, .bool o.h, .list 9 o.c.length (textsD o.c), .str w.k, .int .i64 w.p, .bool w.s, .bool w.h, .list 9 w.c.length (textsD w.c)] = o := unM_med o
  have lit2 : unM [D.str o.k, .int .i64 o.p, .bool o.s, .bool o.h, .list 9 o.c.length (textsD o.c)] = o := unM_med o
  have lit3 : unM [D.str w.k, .int .i64 w.p, .bool w.s, .bool w.h, .list 9 w.c.length (textsD w.c)] = w := unM_med w
  simp only [medD, F_lam_dam, F_lam_iansmF, F_lam_sansm, F_lam_samem, F_lam_imed, F_lam_ifits, F_lam_alive, s_dam, s_iansmF, s_sansm, s_samem, s_imed, s_ifits, s_alive, Tree.holds, ltI_t, ltI_f, leI_t, leI_f, all_cons, all_nil, and_true, true_and, forall_eq, decide_eq_true_eq, decide_eq_false_iff_not, beq_iff_eq, beq_eq_false_iff_ne, bne_iff_ne, bne_eq_false_iff_eq, ne_eq, Decidable.not_not, selI_z, selB_z, selS_z, selN_z, selL_z, selI_s, selB_s, selS_s, selN_s, selL_s, Int.toNat_natCast, Nat.mul_one, Nat.zero_add, Nat.div_one, List.drop_zero, Nat.zero_mul, Nat.le_refl, Bool.not_eq_true', Bool.not_eq_false', Bool.false_eq_true, Bool.true_eq_false, not_true_eq_false, not_false_eq_true, false_imp_iff, true_imp_iff, if_true, if_false, sig, sigF, sigW, sigR, sigO, sigD, sigWD, List.map_cons, List.map_nil, List.cons_append, List.nil_append, lit1, lit2, lit3, List.drop_succ_cons]
  have e1 : unO [D.str o.k, .int .i64 o.p, .bool o.s, .bool o.h, .list 9 o.c.length (textsD o.c)] = [o] := unO_off [o]
  have e2 : unO [D.str (ansM o w).k, .int .i64 (ansM o w).p, .bool (ansM o w).s, .bool (ansM o w).h, .list 9 (ansM o w).c.length (textsD (ansM o w).c)] = [ansM o w] := unO_off [ansM o w]
  have sx := sm_ans (w := w) so
  have Z : ¬ (medB o && medB w) = true → ∃ m : Med, [D.str (ansM o w).k, .int .i64 (ansM o w).p, .bool (ansM o w).s, .bool (ansM o w).h, .list 9 (ansM o w).c.length (textsD (ansM o w).c), .str ⟨#[]⟩, .int .i64 0, .bool false, .bool false, .list 9 0 []] = [.str m.k, .int .i64 m.p, .bool m.s, .bool m.h, .list 9 m.c.length (textsD m.c), .str m.k, .int .i64 m.p, .bool m.s, .bool m.h, .list 9 m.c.length (textsD m.c)] ∧ m.c.length ≤ 1048576 := fun h => by
    have e : ansM o w = zeroMd := by unfold ansM; rw [if_neg h]
    rw [e]
    exact ⟨zeroMd, rfl, by simp [zeroMd]⟩
  rw [e1, e2]
  refine ⟨⟨o, w, rfl, so, sw⟩, ⟨o, w, rfl, so, sw⟩, ⟨ansM o w, rfl, sx.2.1⟩, ⟨o, rfl, so⟩, fun h => Z (by rw [h]; simp), fun v1 => ⟨⟨w, rfl, sw⟩, fun h => Z (by rw [h]; simp), fun v2 => ⟨⟨[o], [ansM o w], rfl, by simp, by simp, by simpa using so, by simpa using sx⟩, fun _ => ?_, fun h => by rw [fitO_one v1 v2] at h; cases h⟩⟩⟩
  have hp := (med_iff.mp v2).2.2.1.1
  have H : ((ansM o w).p = 0 ∧ (ansM o w).s = false ∧ (ansM o w).h = false) ∨ (0 < (ansM o w).p ∧ (ansM o w).s = (o.h && w.s) ∧ (ansM o w).h = (o.s && w.h)) := by
    unfold ansM
    rw [if_pos (by rw [v1, v2]; rfl)]
    split
    · rename_i hok
      have h3 := (okA_parts hok).2.2.1
      exact .inr ⟨by show 0 < w.p; omega, rfl, rfl⟩
    · exact .inl ⟨rfl, rfl, rfl⟩
  generalize ansM o w = x at H
  rcases H with ⟨h1, h2, h3⟩ | ⟨h1, h2, h3⟩
  · exact ⟨fun _ => ⟨fun _ => trivial, fun _ => ⟨fun _ => by rw [h3]; rfl, fun h => by rw [h2] at h; cases h⟩⟩, fun h => absurd h1 h⟩
  · refine ⟨fun h => by omega, fun _ => ?_⟩
    rw [h2, h3]
    cases o.h <;> cases o.s <;> simp [h1]
theorem fitL_map {f g : Med → Med} (h : ∀ m, fit1 (f m) (g m) = true) : ∀ l : List Med, fitL (l.map f) (l.map g) = true
  | [] => rfl
  | m :: l => by
    show (fit1 (f m) (g m) && fitL (l.map f) (l.map g)) = true
    rw [h m, fitL_map h l]; rfl
def bothM (m : Med) : Med := ⟨m.k, m.p, true, true, m.c⟩
theorem off_map {f : Med → Med} (hf : ∀ m, medB m = true → medB (f m) = true) {l : List Med} (h : offB l = true) : offB (l.map f) = true := by
  obtain ⟨h1, h2⟩ := off_parts h
  exact off_of (fun m hm => by
    obtain ⟨x, hx, rfl⟩ := List.mem_map.mp hm
    exact hf x (h1 x hx)) (by simpa using h2)
theorem fitO_both {l : List Med} (h : offB l = true) : fitO (l.map bothM) (l.map bothM) = true := by
  have hv := off_map (f := bothM) (fun m h => h) h
  unfold fitO
  rw [hv, fitL_map (f := bothM) (g := bothM) fun m => fit_both]
  simp
theorem fitO_ref {l : List Med} (h : offB l = true) : fitO l (l.map refM) = true := by
  have hv := off_map (f := refM) (fun m h => ref_valid h) h
  have hf := fitL_map (f := id) (g := refM) fit_ref l
  rw [List.map_id] at hf
  unfold fitO
  rw [h, hv, hf]
  simp
theorem ok_lao : FnOk Try.prog 5 s_lao := by
  refine fnOk (fn := Try.f5) (F := F_lao) (hs := hs_lao) (tab_cons ok_dao (tab_cons ok_iansoF (tab_cons ok_sanso (tab_cons ok_sameo (tab_cons ok_ioff (tab_cons ok_ifits (tab_cons ok_alive tab_nil))))))) mixed rfl rfl rfl [.list 5] (by kernel_rfl) (by simp) ?_
  intro n l hw
  refine ⟨fun h ys => ∃ l : List Med, l.length ≤ 10 ∧ offB l = true ∧ (∀ m ∈ l, smM m) ∧ ((h = 0 ∧ ∃ i : Nat, ys = [.list 25 l.length (offD l), .int .i64 i] ∧ i ≤ l.length ∧ ∀ (a b : Nat) (m m' : Med), a < b → b < i → l[a]? = some m → l[b]? = some m' → m.k ≠ m'.k) ∨
    (h = 1 ∧ ∃ i j : Nat, ys = [.list 25 l.length (offD l), .int .i64 i, .int .i64 j] ∧ i < l.length ∧ j ≤ i ∧ (∀ (a b : Nat) (m m' : Med), a < b → b < i → l[a]? = some m → l[b]? = some m' → m.k ≠ m'.k) ∧ ∀ (a : Nat) (m m' : Med), a < j → l[a]? = some m → l[i]? = some m' → m.k ≠ m'.k) ∨
    (h = 2 ∧ ∃ i : Nat, ys = [.list 25 l.length (offD l), .list 25 l.length (offD (l.map fun o => ansM o o)), .int .i64 i] ∧ i ≤ l.length)),
    fun h ys => if h = 2 then selN ys 0 - (selI ys 2).toNat else mu2 (selN ys 0) h (selI ys 1).toNat (selI ys 2).toNat + 100, ?_, ?_⟩
  · rw [t_lao]
    simp only [F_lao_dao, F_lao_iansoF, F_lao_sanso, F_lao_sameo, F_lao_ioff, F_lao_ifits, F_lao_alive, s_dao, s_iansoF, s_sanso, s_sameo, s_ioff, s_ifits, s_alive, Tree.holds, ltI_t, ltI_f, leI_t, leI_f, all_cons, all_nil, and_true, true_and, forall_eq, decide_eq_true_eq, decide_eq_false_iff_not, beq_iff_eq, beq_eq_false_iff_ne, bne_iff_ne, bne_eq_false_iff_eq, ne_eq, Decidable.not_not, selI_z, selB_z, selS_z, selN_z, selL_z, selI_s, selB_s, selS_s, selN_s, selL_s, Int.toNat_natCast, Nat.mul_one, Nat.zero_add, Nat.div_one, List.drop_zero, Nat.zero_mul, Nat.le_refl, Bool.not_eq_true', Bool.not_eq_false', Bool.false_eq_true, Bool.true_eq_false, not_true_eq_false, not_false_eq_true, false_imp_iff, true_imp_iff, if_true, if_false, sig, sigF, sigW, sigR, sigO, sigD, sigWD, List.map_cons, List.map_nil]
    refine ⟨fun _ => trivial, fun _ => ⟨bytes_wf hw, ?_⟩⟩
    rintro ys ⟨l, o, rfl, hl, ho, hm, hm'⟩
    have hs := fun m hx => drM_sm (hm m hx)
    have hs' := fun m hx => drM_sm (hm' m hx)
    have ha := sm_ansO hs hs'
    have hlen := @ansO_len l o
    simp only [F_lao_dao, F_lao_iansoF, F_lao_sanso, F_lao_sameo, F_lao_ioff, F_lao_ifits, F_lao_alive, s_dao, s_iansoF, s_sanso, s_sameo, s_ioff, s_ifits, s_alive, Tree.holds, ltI_t, ltI_f, leI_t, leI_f, all_cons, all_nil, and_true, true_and, forall_eq, decide_eq_true_eq, decide_eq_false_iff_not, beq_iff_eq, beq_eq_false_iff_ne, bne_iff_ne, bne_eq_false_iff_eq, ne_eq, Decidable.not_not, selI_z, selB_z, selS_z, selN_z, selL_z, selI_s, selB_s, selS_s, selN_s, selL_s, Int.toNat_natCast, Nat.mul_one, Nat.zero_add, Nat.div_one, List.drop_zero, Nat.zero_mul, Nat.le_refl, Bool.not_eq_true', Bool.not_eq_false', Bool.false_eq_true, Bool.true_eq_false, not_true_eq_false, not_false_eq_true, false_imp_iff, true_imp_iff, if_true, if_false, sig, sigF, sigW, sigR, sigO, sigD, sigWD, List.map_cons, List.map_nil, unO_off]
    have E : ¬ (offB l && offB o) = true → (((ansO l o).length : Int) = 0 → True) ∧ (¬ ((ansO l o).length : Int) = 0 → [D.bool false] = [D.bool true]) := fun h => by
      have e : ansO l o = [] := by unfold ansO; rw [if_neg h]
      rw [e]
      exact ⟨fun _ => trivial, fun h => absurd rfl h⟩
    have P : ∃ l_1 o_1 : List Med, [D.list 25 l.length (offD l), .list 25 o.length (offD o)] = [.list 25 l_1.length (offD l_1), .list 25 o_1.length (offD o_1)] ∧ l_1.length ≤ 1048576 ∧ o_1.length ≤ 1048576 ∧ (∀ m ∈ l_1, smM m) ∧ ∀ m ∈ o_1, smM m := ⟨l, o, rfl, by omega, by omega, hs, hs'⟩
    exact ⟨P, P, ⟨ansO l o, rfl, by omega, fun m hx => (ha m hx).2.1⟩, ⟨l, rfl, by omega, hs⟩, fun h => E (by rw [h]; simp), fun v1 => ⟨⟨o, rfl, by omega, hs'⟩, fun h => E (by rw [h]; simp), fun v2 => ⟨⟨l, ansO l o, rfl, by omega, by omega, hs, ha⟩, fun h => (by rw [(fitO_ans v1 v2).2] at h; cases h), fun _ => ⟨l, hl, v1, hs, .inl ⟨0, rfl, by omega, fun a b m m' _ h => by omega⟩⟩⟩⟩⟩
  · rintro h ys ⟨l, hl, hv, hs, (⟨rfl, i, rfl, hi, hd⟩ | ⟨rfl, i, j, rfl, hi, hj, hd, hdj⟩ | ⟨rfl, i, rfl, hi⟩)⟩
    · rw [t_lao0]
      simp only [F_lao_dao, F_lao_iansoF, F_lao_sanso, F_lao_sameo, F_lao_ioff, F_lao_ifits, F_lao_alive, s_dao, s_iansoF, s_sanso, s_sameo, s_ioff, s_ifits, s_alive, Tree.holds, ltI_t, ltI_f, leI_t, leI_f, all_cons, all_nil, and_true, true_and, forall_eq, decide_eq_true_eq, decide_eq_false_iff_not, beq_iff_eq, beq_eq_false_iff_ne, bne_iff_ne, bne_eq_false_iff_eq, ne_eq, Decidable.not_not, selI_z, selB_z, selS_z, selN_z, selL_z, selI_s, selB_s, selS_s, selN_s, selL_s, Int.toNat_natCast, Nat.mul_one, Nat.zero_add, Nat.div_one, List.drop_zero, Nat.zero_mul, Nat.le_refl, Bool.not_eq_true', Bool.not_eq_false', Bool.false_eq_true, Bool.true_eq_false, not_true_eq_false, not_false_eq_true, false_imp_iff, true_imp_iff, if_true, if_false, sig, sigF, sigW, sigR, sigO, sigD, sigWD, List.map_cons, List.map_nil, unO_off]
      refine ⟨fun hlt => ⟨⟨l, hl, hv, hs, .inr (.inl ⟨i, 0, rfl, by omega, by omega, hd, fun a m m' h => by omega⟩)⟩, ?_⟩, fun hge => ⟨⟨l, l, rfl, by omega, by omega, hs, hs⟩, ?_⟩⟩
      · unfold mu2; simp; omega
      · obtain rfl : i = l.length := by omega
        have e := ansO_self hv (fun a b m m' hab h1 h2 => hd a b m m' hab (List.getElem?_eq_some_iff.mp h2).1 h1 h2)
        rw [e, List.length_map]
        refine ⟨⟨l, hl, hv, hs, .inr (.inr ⟨0, rfl, by omega⟩)⟩, ?_⟩
        unfold mu2; simp; omega
    · rw [t_lao1]
      simp only [F_lao_dao, F_lao_iansoF, F_lao_sanso, F_lao_sameo, F_lao_ioff, F_lao_ifits, F_lao_alive, s_dao, s_iansoF, s_sanso, s_sameo, s_ioff, s_ifits, s_alive, Tree.holds, ltI_t, ltI_f, leI_t, leI_f, all_cons, all_nil, and_true, true_and, forall_eq, decide_eq_true_eq, decide_eq_false_iff_not, beq_iff_eq, beq_eq_false_iff_ne, bne_iff_ne, bne_eq_false_iff_eq, ne_eq, Decidable.not_not, selI_z, selB_z, selS_z, selN_z, selL_z, selI_s, selB_s, selS_s, selN_s, selL_s, Int.toNat_natCast, Nat.mul_one, Nat.zero_add, Nat.div_one, List.drop_zero, Nat.zero_mul, Nat.le_refl, Bool.not_eq_true', Bool.not_eq_false', Bool.false_eq_true, Bool.true_eq_false, not_true_eq_false, not_false_eq_true, false_imp_iff, true_imp_iff, if_true, if_false, sig, sigF, sigW, sigR, sigO, sigD, sigWD, List.map_cons, List.map_nil, sel_kstr, ByteArray.toList_eq]
      refine ⟨fun hlt => ?_, fun hge => ⟨by unfold inK; omega, ⟨l, hl, hv, hs, .inl ⟨i + 1, rfl, by omega, fun a b m m' hab hbi h1 h2 => ?_⟩⟩, ?_⟩⟩
      · obtain ⟨m, m1, m2⟩ := off_get (l := l) (i := j) (by omega)
        obtain ⟨c0, -⟩ := off_at m1
        obtain ⟨w, w1, w2⟩ := off_get (l := l) (i := i) (by omega)
        obtain ⟨d0, -⟩ := off_at w1
        rw [selS_of c0, selS_of d0]
        refine ⟨⟨by omega, by omega⟩, c0, ⟨by omega, by omega⟩, d0, fun e => trivial, fun e => ⟨by unfold inK; omega, ⟨l, hl, hv, hs, .inr (.inl ⟨i, j + 1, rfl, hi, by omega, hd, fun a q q' ha h1 h2 => ?_⟩)⟩, ?_⟩⟩
        · by_cases haj : a = j
          · rw [haj, m1] at h1; rw [w1] at h2
            injection h1 with h1; injection h2 with h2
            subst h1; subst h2
            exact fun h => e (by rw [h])
          · exact hdj a q q' (by omega) h1 h2
        · unfold mu2; simp; omega
      · by_cases hbi' : b = i
        · rw [hbi'] at h2 hab
          exact hdj a m m' (by omega) h1 h2
        · exact hd a b m m' hab (by omega) h1 h2
      · unfold mu2; simp; omega
    · rw [t_lao2]
      simp only [F_lao_dao, F_lao_iansoF, F_lao_sanso, F_lao_sameo, F_lao_ioff, F_lao_ifits, F_lao_alive, s_dao, s_iansoF, s_sanso, s_sameo, s_ioff, s_ifits, s_alive, Tree.holds, ltI_t, ltI_f, leI_t, leI_f, all_cons, all_nil, and_true, true_and, forall_eq, decide_eq_true_eq, decide_eq_false_iff_not, beq_iff_eq, beq_eq_false_iff_ne, bne_iff_ne, bne_eq_false_iff_eq, ne_eq, Decidable.not_not, selI_z, selB_z, selS_z, selN_z, selL_z, selI_s, selB_s, selS_s, selN_s, selL_s, Int.toNat_natCast, Nat.mul_one, Nat.zero_add, Nat.div_one, List.drop_zero, Nat.zero_mul, Nat.le_refl, Bool.not_eq_true', Bool.not_eq_false', Bool.false_eq_true, Bool.true_eq_false, not_true_eq_false, not_false_eq_true, false_imp_iff, true_imp_iff, if_true, if_false, sig, sigF, sigW, sigR, sigO, sigD, sigWD, List.map_cons, List.map_nil, sel_kint]
      refine ⟨fun hlt => ?_, fun hge => by simp⟩
      obtain ⟨m, m1, m2⟩ := off_get (l := l) (i := i) (by omega)
      obtain ⟨c0, c1, -⟩ := off_at m1
      have w1 : (l.map fun o => ansM o o)[i]? = some (ansM m m) := by rw [List.getElem?_map, m1]; rfl
      obtain ⟨d0, d1, -⟩ := off_at w1
      have hp := ansM_self ((off_parts hv).1 m m2)
      rw [selI_of c1, selI_of d1]
      have he : ((ansM m m).p == 0) = (m.p == 0) := by
        rw [Bool.eq_iff_iff, beq_iff_eq, beq_iff_eq]; exact hp
      exact ⟨fun _ => ⟨⟨by omega, by omega⟩, d1, ⟨by omega, by omega⟩, c1, fun h => absurd he h, fun _ => ⟨by unfold inK; omega, ⟨l, hl, hv, hs, .inr (.inr ⟨i + 1, rfl, by omega⟩)⟩, by omega⟩⟩, fun h => absurd hlt h⟩
theorem ok_laf : FnOk Try.prog 7 s_laf := by
  refine fnOk (fn := Try.f7) (F := F_laf) (hs := hs_laf) (tab_cons ok_daf (tab_cons ok_ifits (tab_cons ok_sfits (tab_cons ok_ioff (tab_cons ok_alive tab_nil))))) mixed rfl rfl rfl [.list 5] (by kernel_rfl) (by simp) ?_
  intro n l hw
  refine ⟨fun h ys => h = 0 ∧ ∃ (l : List Med) (i : Nat), ys = [.list 25 l.length (offD l), .int .i64 (0 : Nat), .int .i64 (i : Nat), .int .i64 (0 : Nat), .int .i64 (i : Nat), .int .i64 i, .list 25 0 (offD ((l.take i).map bothM)), .list 25 0 (offD ((l.take i).map refM))] ∧ i ≤ l.length ∧ l.length ≤ 10 ∧ offB l = true ∧ ∀ m ∈ l, smM m, fun h ys => selN ys 0 - (selI ys 5).toNat, ?_, ?_⟩
  · rw [t_laf]
    simp only [F_laf_daf, F_laf_ifits, F_laf_sfits, F_laf_ioff, F_laf_alive, s_daf, s_ifits, s_sfits, s_ioff, s_alive, Tree.holds, ltI_t, ltI_f, leI_t, leI_f, all_cons, all_nil, and_true, true_and, forall_eq, decide_eq_true_eq, decide_eq_false_iff_not, beq_iff_eq, beq_eq_false_iff_ne, bne_iff_ne, bne_eq_false_iff_eq, ne_eq, Decidable.not_not, selI_z, selB_z, selS_z, selN_z, selL_z, selI_s, selB_s, selS_s, selN_s, selL_s, Int.toNat_natCast, Nat.mul_one, Nat.zero_add, Nat.div_one, List.drop_zero, Nat.zero_mul, Nat.le_refl, Bool.not_eq_true', Bool.not_eq_false', Bool.false_eq_true, Bool.true_eq_false, not_true_eq_false, not_false_eq_true, false_imp_iff, true_imp_iff, if_true, if_false, sig, sigF, sigW, sigR, sigO, sigD, sigWD, List.map_cons, List.map_nil]
    refine ⟨fun _ => trivial, fun _ => ⟨bytes_wf hw, ?_⟩⟩
    rintro ys ⟨l, o, rfl, hl, ho, hm, hm'⟩
    have hs := fun m hx => drM_sm (hm m hx)
    have hs' := fun m hx => drM_sm (hm' m hx)
    simp only [F_laf_daf, F_laf_ifits, F_laf_sfits, F_laf_ioff, F_laf_alive, s_daf, s_ifits, s_sfits, s_ioff, s_alive, Tree.holds, ltI_t, ltI_f, leI_t, leI_f, all_cons, all_nil, and_true, true_and, forall_eq, decide_eq_true_eq, decide_eq_false_iff_not, beq_iff_eq, beq_eq_false_iff_ne, bne_iff_ne, bne_eq_false_iff_eq, ne_eq, Decidable.not_not, selI_z, selB_z, selS_z, selN_z, selL_z, selI_s, selB_s, selS_s, selN_s, selL_s, Int.toNat_natCast, Nat.mul_one, Nat.zero_add, Nat.div_one, List.drop_zero, Nat.zero_mul, Nat.le_refl, Bool.not_eq_true', Bool.not_eq_false', Bool.false_eq_true, Bool.true_eq_false, not_true_eq_false, not_false_eq_true, false_imp_iff, true_imp_iff, if_true, if_false, sig, sigF, sigW, sigR, sigO, sigD, sigWD, List.map_cons, List.map_nil, unO_off]
    have P : ∃ l_1 o_1 : List Med, [D.list 25 l.length (offD l), .list 25 o.length (offD o)] = [.list 25 l_1.length (offD l_1), .list 25 o_1.length (offD o_1)] ∧ l_1.length ≤ 1048576 ∧ o_1.length ≤ 1048576 ∧ (∀ m ∈ l_1, smM m) ∧ ∀ m ∈ o_1, smM m := ⟨l, o, rfl, by omega, by omega, hs, hs'⟩
    refine ⟨P, P, ⟨l, rfl, by omega, hs⟩, fun h => ⟨fun _ => trivial, fun h2 => ?_⟩, fun hv => ⟨l, 0, rfl, by omega, hl, hv, hs⟩⟩
    unfold fitO at h2
    rw [h] at h2
    simp at h2
  · rintro h ys ⟨rfl, l, i, rfl, hi, hl, hv, hs⟩
    rw [t_laf0]
    simp only [F_laf_daf, F_laf_ifits, F_laf_sfits, F_laf_ioff, F_laf_alive, s_daf, s_ifits, s_sfits, s_ioff, s_alive, Tree.holds, ltI_t, ltI_f, leI_t, leI_f, all_cons, all_nil, and_true, true_and, forall_eq, decide_eq_true_eq, decide_eq_false_iff_not, beq_iff_eq, beq_eq_false_iff_ne, bne_iff_ne, bne_eq_false_iff_eq, ne_eq, Decidable.not_not, selI_z, selB_z, selS_z, selN_z, selL_z, selI_s, selB_s, selS_s, selN_s, selL_s, Int.toNat_natCast, Nat.mul_one, Nat.zero_add, Nat.div_one, List.drop_zero, Nat.zero_mul, Nat.le_refl, Bool.not_eq_true', Bool.not_eq_false', Bool.false_eq_true, Bool.true_eq_false, not_true_eq_false, not_false_eq_true, false_imp_iff, true_imp_iff, if_true, if_false, sig, sigF, sigW, sigR, sigO, sigD, sigWD, List.map_cons, List.map_nil, sel_kstr, sel_kint, sel_kbool, unO_off]
    have L : ∀ f : Med → Med, (offD ((l.take i).map f)).length = i * 5 := fun f => by rw [offD_len, List.length_map, List.length_take, Nat.min_eq_left hi]
    have T : ∀ f : Med → Med, List.take (i * 5) (offD ((l.take i).map f)) = offD ((l.take i).map f) := fun f => List.take_of_length_le (by rw [L]; omega)
    simp only [L, T, unO_off]
    refine ⟨fun hj => ?_, fun hj => ?_⟩
    · obtain ⟨m, m1, m2⟩ := off_get (l := l) (i := i) (by omega)
      obtain ⟨c0, c1, c2, c3, c4⟩ := off_at m1
      have c4' : (offD l)[i * 5 + 4]? = some (D.list 9 m.c.length (textsD m.c)) := c4
      rw [selS_of c0, selI_of c1, selN_of c4', selL_of c4', c0, c1, c4']
      refine ⟨⟨by omega, by omega⟩, rfl, ⟨by omega, by omega⟩, rfl, ⟨by omega, by omega⟩, .inl rfl, ⟨by omega, by omega⟩, ⟨by omega, by omega⟩, rfl, ⟨by omega, by omega⟩, .inl rfl, ⟨by omega, by omega⟩, by unfold inK; omega, ⟨l, i + 1, ?_, by omega, hl, hv, hs⟩, by omega⟩
      rw [List.take_add_one, m1]
      simp only [Option.toList_some, List.map_append, List.map_cons, List.map_nil, offD_push]
      unfold sel
      simp only [selN_of c4', selL_of c4']
      rfl
    · obtain rfl : i = l.length := by omega
      rw [List.take_of_length_le (Nat.le_refl _)]
      have hb : ∀ m ∈ l.map bothM, smM m := fun m hx => by
        obtain ⟨x, hx', rfl⟩ := List.mem_map.mp hx
        exact hs x hx'
      have hr : ∀ m ∈ l.map refM, smM m := fun m hx => by
        obtain ⟨x, hx', rfl⟩ := List.mem_map.mp hx
        exact sm_ref (hs x hx')
      have n1 : (l.map bothM).length = l.length := List.length_map ..
      have n2 : (l.map refM).length = l.length := List.length_map ..
      refine ⟨⟨by omega, by omega⟩, ⟨l.map bothM, l.map bothM, by rw [n1], by omega, by omega, hb, hb⟩, fun _ => ⟨by omega, ⟨l, l.map refM, by rw [n2], by omega, by omega, hs, hr⟩, by rw [fitO_ref hv]⟩, fun h => by rw [fitO_both hv] at h; cases h⟩
end Go.Proofs.Ytjleempapphlhab.Mini
end
