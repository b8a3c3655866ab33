/- Parts of the proof: SOffer. -/
import Derived.Test.YtjleempapphlhabGeOffer
section
namespace Go.Proofs.Ytjleempapphlhab.Mini
open Go Go.RowKit
set_option linter.unusedVariables false
set_option linter.unusedSimpArgs false
set_option maxRecDepth 20000
theorem unM_med (m : Med) : unM (medD m) = m := by
  show Med.mk _ _ _ _ (unS (textsD m.c)) = m
  rw [unS_texts]
  rfl
theorem medD_len (m : Med) : (medD m).length = 5 := rfl
theorem unO_off : ∀ l : List Med, unO (offD l) = l
  | [] => rfl
  | m :: l => by
    show Med.mk m.k m.p m.s m.h (unS (textsD m.c)) :: unO (offD l) = m :: l
    rw [unS_texts, unO_off l]
theorem offD_len (l : List Med) : (offD l).length = l.length * 5 := flatD_len medD_len l
theorem ok_smed : FnOk Try.prog 39 s_smed := by
  refine fnOk (fn := Try.f39) (F := F_smed) (hs := hs_smed) (tab_cons ok_sword (tab_cons ok_sin tab_nil)) mixed rfl rfl rfl [.str, .int .i64, .bool, .bool, .list 9] (by kernel_rfl) (by simp) ?_
  rintro k p s h n cs ⟨m, e, hm⟩
  obtain ⟨mk, mp, ms, mh, mc⟩ := m
  simp only [medD, List.cons.injEq, D.str.injEq, D.int.injEq, D.bool.injEq, D.list.injEq, true_and, and_true] at e
  obtain ⟨rfl, rfl, rfl, rfl, rfl, rfl⟩ := e
  obtain ⟨h1, h2, h3⟩ := hm
  have h1 : k.size ≤ 1048576 := h1
  have h2 : mc.length ≤ 1048576 := h2
  have h3 : ∀ x ∈ mc, x.size ≤ 1048576 := h3
  have hu : unM [.str k, .int .i64 p, .bool s, .bool h, .list 9 mc.length (textsD mc)] = ⟨k, p, s, h, mc⟩ := unM_med ⟨k, p, s, h, mc⟩
  refine ⟨fun h' ys => (h' = 0 ∧ ∃ i : Nat, ys = [.int .i64 i, .str k, .int .i64 p, .bool s, .bool h, .list 9 mc.length (textsD mc)] ∧ i ≤ mc.length ∧ (∀ (a : Nat) (x : ByteArray), a < i → mc[a]? = some x → wordS x = true) ∧ (∀ (a b : Nat) (x y : ByteArray), mc[a]? = some x → mc[b]? = some y → a < b → b < i → x.data.toList ≠ y.data.toList)) ∨
    (h' = 1 ∧ ∃ i j : Nat, ys = [.int .i64 i, .int .i64 j, .str k, .int .i64 p, .bool s, .bool h, .list 9 mc.length (textsD mc)] ∧ i < mc.length ∧ j ≤ i ∧ (∀ (a : Nat) (x : ByteArray), a < i + 1 → mc[a]? = some x → wordS x = true) ∧ (∀ (a b : Nat) (x y : ByteArray), mc[a]? = some x → mc[b]? = some y → a < b → b < i → x.data.toList ≠ y.data.toList) ∧ (∀ (a : Nat) (x y : ByteArray), mc[a]? = some x → mc[i]? = some y → a < j → x.data.toList ≠ y.data.toList)),
    fun h' ys => mu2 mc.length h' (selI ys 0).toNat (selI ys 1).toNat, ?_, ?_⟩
  · rw [t_smed]
    simp only [F_smed_sword, F_smed_sin, s_sword, s_sin, Tree.holds, ltI_t, ltI_f, leI_t, leI_f, all_cons, all_nil, and_true, true_and, forall_eq, decide_eq_true_eq, decide_eq_false_iff_not, beq_iff_eq, beq_eq_false_iff_ne, bne_iff_ne, bne_eq_false_iff_eq, ne_eq, Decidable.not_not, selI_z, selB_z, selS_z, selN_z, selL_z, selI_s, selB_s, selS_s, selN_s, selL_s, Int.toNat_natCast, Nat.mul_one, Nat.zero_add, Nat.div_one, List.drop_zero, Nat.zero_mul, Nat.le_refl, Bool.not_eq_true', Bool.not_eq_false', Bool.false_eq_true, Bool.true_eq_false, not_true_eq_false, not_false_eq_true, false_imp_iff, true_imp_iff, if_true, if_false, sig, sigF, sigW, sigR, sigO, sigD, sigWD, List.map_cons, List.map_nil]
    exact .inl ⟨0, rfl, by omega, fun a x h => by omega, fun a b x y _ _ _ h => by omega⟩
  · rintro h' ys (⟨rfl, i, rfl, i1, i2, i3⟩ | ⟨rfl, i, j, rfl, i1, j1, i2, i3, i4⟩)
    · rw [t_smed0]
      simp only [F_smed_sword, F_smed_sin, s_sword, s_sin, Tree.holds, ltI_t, ltI_f, leI_t, leI_f, all_cons, all_nil, and_true, true_and, forall_eq, decide_eq_true_eq, decide_eq_false_iff_not, beq_iff_eq, beq_eq_false_iff_ne, bne_iff_ne, bne_eq_false_iff_eq, ne_eq, Decidable.not_not, selI_z, selB_z, selS_z, selN_z, selL_z, selI_s, selB_s, selS_s, selN_s, selL_s, Int.toNat_natCast, Nat.mul_one, Nat.zero_add, Nat.div_one, List.drop_zero, Nat.zero_mul, Nat.le_refl, Bool.not_eq_true', Bool.not_eq_false', Bool.false_eq_true, Bool.true_eq_false, not_true_eq_false, not_false_eq_true, false_imp_iff, true_imp_iff, if_true, if_false, sig, sigF, sigW, sigR, sigO, sigD, sigWD, List.map_cons, List.map_nil, sel_kstr, hu]
      refine ⟨fun hi => ?_, fun hi => ⟨m20 h1, ?_⟩⟩
      · obtain ⟨x, x1, x2, x3⟩ := textsD_get (ls := mc) (i := i) (by omega)
        rw [selS_of x2]
        refine ⟨⟨by omega, by omega⟩, x2, m20 (h3 x x3), fun e => ret_bool' ?_, fun e => ⟨.inr ⟨i, 0, rfl, by omega, by omega, fun a y ha hy => ?_, i3, fun a x y _ _ h => by omega⟩, ?_⟩⟩
        · unfold medB; rw [word_no x3 e]; rfl
        · by_cases hai : a = i
          · rw [hai, x1] at hy; injection hy with hy; rw [← hy]; exact e
          · exact i2 a y (by omega) hy
        · unfold mu2; simp; omega
      · obtain rfl : i = mc.length := by omega
        have ha : mc.all wordS = true := List.all_eq_true.mpr (fun x hx => by
          obtain ⟨a, ha, rfl⟩ := List.getElem_of_mem hx
          exact i2 a _ ha (List.getElem?_eq_getElem ha))
        have hd : distB mc = true := dist_yes (fun a b x y hx hy hab => i3 a b x y hx hy hab (List.getElem?_eq_some_iff.mp hy).1)
        have hm : medB ⟨k, p, s, h, mc⟩ = (wordS k && (inB p 0 65535 && inB mc.length 1 4)) := by unfold medB; simp only [ha, hd, Bool.and_self, Bool.true_and]
        refine ⟨fun e0 => ⟨fun e1 => ret_bool' ?_, fun e1 => ret_bool' ?_⟩, fun e0 => ret_bool' ?_⟩
        · rw [hm, show wordS k = true from e0, e1]; rfl
        · rw [hm, e1]; simp
        · rw [hm, show wordS k = false from e0]; rfl
    · rw [t_smed1]
      simp only [F_smed_sword, F_smed_sin, s_sword, s_sin, Tree.holds, ltI_t, ltI_f, leI_t, leI_f, all_cons, all_nil, and_true, true_and, forall_eq, decide_eq_true_eq, decide_eq_false_iff_not, beq_iff_eq, beq_eq_false_iff_ne, bne_iff_ne, bne_eq_false_iff_eq, ne_eq, Decidable.not_not, selI_z, selB_z, selS_z, selN_z, selL_z, selI_s, selB_s, selS_s, selN_s, selL_s, Int.toNat_natCast, Nat.mul_one, Nat.zero_add, Nat.div_one, List.drop_zero, Nat.zero_mul, Nat.le_refl, Bool.not_eq_true', Bool.not_eq_false', Bool.false_eq_true, Bool.true_eq_false, not_true_eq_false, not_false_eq_true, false_imp_iff, true_imp_iff, if_true, if_false, sig, sigF, sigW, sigR, sigO, sigD, sigWD, List.map_cons, List.map_nil, sel_kstr, hu, ByteArray.toList_eq]
      obtain ⟨y, y1, y2, y3⟩ := textsD_get (ls := mc) (i := i) (by omega)
      refine ⟨fun hj => ?_, fun hj => ⟨by unfold inK; omega, .inl ⟨i + 1, rfl, by omega, i2, fun a b x z hx hz hab hb => ?_⟩, ?_⟩⟩
      · obtain ⟨x, x1, x2, x3⟩ := textsD_get (ls := mc) (i := j) (by omega)
        rw [selS_of x2, selS_of y2]
        refine ⟨⟨by omega, by omega⟩, x2, ⟨by omega, by omega⟩, y2, fun e => ret_bool' ?_, fun e => ⟨by unfold inK; omega, .inr ⟨i, j + 1, rfl, by omega, by omega, i2, i3, fun a z w hz hw ha => ?_⟩, ?_⟩⟩
        · unfold medB; rw [dist_no x1 y1 (by omega) e]; simp
        · by_cases haj : a = j
          · rw [haj, x1] at hz; rw [y1] at hw
            injection hz with hz; injection hw with hw
            rw [← hz, ← hw]; exact e
          · exact i4 a z w hz hw (by omega)
        · unfold mu2; simp; omega
      · by_cases hbi : b = i
        · rw [hbi] at hz hab
          exact i4 a x z hx hz (by omega)
        · exact i3 a b x z hx hz hab (by omega)
      · unfold mu2; simp; omega
/-- The cells of a media of an offer. -/
theorem off_at {l : List Med} {i : Nat} {m : Med} (h : l[i]? = some m) : (offD l)[i * 5]? = some (.str m.k) ∧ (offD l)[i * 5 + 1]? = some (.int .i64 m.p) ∧ (offD l)[i * 5 + 1 + 1]? = some (.bool m.s) ∧ (offD l)[i * 5 + 1 + 1 + 1]? = some (.bool m.h) ∧ (offD l)[i * 5 + 1 + 1 + 1 + 1]? = some (.list 9 m.c.length (textsD m.c)) :=
  ⟨flatD_at medD_len h (j := 0) (by omega), flatD_at medD_len h (j := 1) (by omega), flatD_at medD_len h (j := 2) (by omega), flatD_at medD_len h (j := 3) (by omega), flatD_at medD_len h (j := 4) (by omega)⟩
theorem off_get {l : List Med} {i : Nat} (h : i < l.length) : ∃ m, l[i]? = some m ∧ m ∈ l := ⟨l[i], List.getElem?_eq_getElem h, List.getElem_mem h⟩
theorem med_no {l : List Med} {m : Med} (hm : m ∈ l) (h : medB m = false) : offB l = false := by
  unfold offB
  rw [show l.all medB = false by rw [List.all_eq_false]; exact ⟨m, hm, by rw [h]; simp⟩]
  rfl
theorem ok_soff : FnOk Try.prog 51 s_soff := by
  refine fnOk (fn := Try.f51) (F := F_soff) (hs := hs_soff) (tab_cons ok_smed tab_nil) mixed rfl rfl rfl [.list 25] (by kernel_rfl) (by simp) ?_
  rintro n cs ⟨l, e, hl, hm⟩
  simp only [List.cons.injEq, D.list.injEq, true_and, and_true] at e
  obtain ⟨rfl, rfl⟩ := e
  refine ⟨fun h ys => h = 0 ∧ ∃ i : Nat, ys = [.list 25 l.length (offD l), .int .i64 i] ∧ i ≤ l.length ∧ (∀ (a : Nat) (m : Med), a < i → l[a]? = some m → medB m = true), fun h ys => l.length - (selI ys 1).toNat, ?_, ?_⟩
  · rw [t_soff]
    simp only [F_soff_smed, s_smed, Tree.holds, ltI_t, ltI_f, leI_t, leI_f, all_cons, all_nil, and_true, true_and, forall_eq, decide_eq_true_eq, decide_eq_false_iff_not, beq_iff_eq, beq_eq_false_iff_ne, bne_iff_ne, bne_eq_false_iff_eq, ne_eq, Decidable.not_not, selI_z, selB_z, selS_z, selN_z, selL_z, selI_s, selB_s, selS_s, selN_s, selL_s, Int.toNat_natCast, Nat.mul_one, Nat.zero_add, Nat.div_one, List.drop_zero, Nat.zero_mul, Nat.le_refl, Bool.not_eq_true', Bool.not_eq_false', Bool.false_eq_true, Bool.true_eq_false, not_true_eq_false, not_false_eq_true, false_imp_iff, true_imp_iff, if_true, if_false, sig, sigF, sigW, sigR, sigO, sigD, sigWD, List.map_cons, List.map_nil]
    exact ⟨0, rfl, by omega, fun a m h => by omega⟩
  · rintro h ys ⟨rfl, i, rfl, hi, hv⟩
    rw [t_soff0]
    simp only [F_soff_smed, s_smed, Tree.holds, ltI_t, ltI_f, leI_t, leI_f, all_cons, all_nil, and_true, true_and, forall_eq, decide_eq_true_eq, decide_eq_false_iff_not, beq_iff_eq, beq_eq_false_iff_ne, bne_iff_ne, bne_eq_false_iff_eq, ne_eq, Decidable.not_not, selI_z, selB_z, selS_z, selN_z, selL_z, selI_s, selB_s, selS_s, selN_s, selL_s, Int.toNat_natCast, Nat.mul_one, Nat.zero_add, Nat.div_one, List.drop_zero, Nat.zero_mul, Nat.le_refl, Bool.not_eq_true', Bool.not_eq_false', Bool.false_eq_true, Bool.true_eq_false, not_true_eq_false, not_false_eq_true, false_imp_iff, true_imp_iff, if_true, if_false, sig, sigF, sigW, sigR, sigO, sigD, sigWD, List.map_cons, List.map_nil, sel_kstr, sel_kint, sel_kbool, unO_off]
    refine ⟨fun hj => ?_, fun hj => ret_bool' ?_⟩
    · obtain ⟨m, m1, m2⟩ := off_get (l := l) (i := i) (by omega)
      obtain ⟨c0, c1, c2, c3, c4⟩ := off_at m1
      rw [selS_of c0, selI_of c1, selB_of c2, selB_of c3, selN_of c4, selL_of c4]
      have e := unM_med m
      unfold medD at e
      rw [e]
      refine ⟨⟨by omega, by omega⟩, ⟨c0, c1, c2, c3, .inl c4⟩, ⟨m, rfl, hm m m2⟩, fun e0 => ret_bool' ?_, fun e0 => ⟨by unfold inK; omega, ⟨i + 1, rfl, by omega, fun a m' ha hm' => ?_⟩, by omega⟩⟩
      · rw [med_no m2 e0]
      · by_cases hai : a = i
        · rw [hai, m1] at hm'; injection hm' with hm'; rw [← hm']; exact e0
        · exact hv a m' (by omega) hm'
    · have ha : l.all medB = true := List.all_eq_true.mpr (fun x hx => by
        obtain ⟨a, ha, rfl⟩ := List.getElem_of_mem hx
        exact hv a _ (by omega) (List.getElem?_eq_getElem ha))
      unfold offB
      rw [ha]
      by_cases h4 : l.length ≤ 4
      · rw [show leI (l.length : Int) 4 = true from leI_t.mpr (by omega)]; simp [h4]
      · rw [show leI (l.length : Int) 4 = false from leI_f.mpr (by omega)]; simp [h4]
end Go.Proofs.Ytjleempapphlhab.Mini
end
