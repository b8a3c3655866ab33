/- Parts of the proof: IRosP. -/
import Derived.Test.YtdhjfbnlkecggaaGdIRos
section
namespace Go.Proofs.Ytdhjfbnlkecggaa.Mini
open Go Go.RowKit
set_option linter.unusedVariables false
set_option linter.unusedSimpArgs false
set_option maxRecDepth 20000
def rAt (l : List Per) (j : Nat) : Int := (l.getD j zeroP).r
theorem rAt_of {l : List Per} {j : Nat} {p : Per} (h : l[j]? = some p) : rAt l j = p.r := by unfold rAt; rw [List.getD_eq_getElem?_getD, h]; rfl
theorem fr_at {r : Int} {l : List Per} (h : frN r l < l.length) : rAt l (frN r l) = r ∧ ∀ j, j < frN r l → rAt l j ≠ r := by
  refine ⟨?_, fun j hj => ?_⟩
  · rw [rAt_of (List.getElem?_eq_getElem h)]
    exact beq_iff_eq.mp (List.findIdx_getElem (w := h))
  · have := List.not_of_lt_findIdx hj
    rw [rAt_of (List.getElem?_eq_getElem (show j < l.length by omega))]
    intro e
    rw [e] at this
    simp at this
theorem fr_le (r : Int) (l : List Per) : frN r l ≤ l.length := List.findIdx_le_length
theorem fr_is {r : Int} {l : List Per} {i : Nat} {p : Per} (hi : l[i]? = some p) (hr : p.r = r) (hn : ∀ (j : Nat) (q : Per), j < i → l[j]? = some q → q.r ≠ r) : frP r l = i := by
  obtain ⟨a, e⟩ := List.getElem?_eq_some_iff.mp hi
  have hN : frN r l = i := by
    unfold frN
    rw [List.findIdx_eq a]
    refine ⟨by rw [e, hr]; simp, fun j hj => ?_⟩
    have := hn j l[j] hj (List.getElem?_eq_getElem (by omega))
    simpa using this
  unfold frP
  rw [hN, if_pos a]
theorem fr_none {r : Int} {l : List Per} (hn : ∀ (j : Nat) (q : Per), j < l.length → l[j]? = some q → q.r ≠ r) : frP r l = -1 := by
  unfold frP
  rw [if_neg]
  intro h
  obtain ⟨h1, -⟩ := fr_at h
  rw [rAt_of (List.getElem?_eq_getElem h)] at h1
  exact hn _ _ h (List.getElem?_eq_getElem h) h1
theorem ok_irole : FnOk Try.prog 41 s_irole := by
  refine fnOk (fn := Try.f41) (F := F_irole) (hs := hs_irole) tab_nil mixed rfl rfl rfl [.int .i64] (by kernel_rfl) (by simp) ?_
  intro r _
  refine ⟨fun _ _ => False, fun _ _ => 0, ?_, fun _ _ h => h.elim⟩
  rw [t_irole]
  simp only [Tree.holds, ltI_t, ltI_f, leI_t, leI_f, all_cons, all_nil, and_true, true_and, forall_eq, decide_eq_true_eq, decide_eq_false_iff_not, beq_iff_eq, beq_eq_false_iff_ne, bne_iff_ne, bne_eq_false_iff_eq, ne_eq, Decidable.not_not, selI_z, selB_z, selS_z, selN_z, selL_z, selI_s, selB_s, selS_s, selN_s, selL_s, Int.toNat_natCast, Nat.mul_one, Nat.zero_add, Nat.div_one, List.drop_zero, Nat.zero_mul, Nat.le_refl, Bool.not_eq_true', Bool.not_eq_false', Bool.false_eq_true, Bool.true_eq_false, not_true_eq_false, not_false_eq_true, false_imp_iff, true_imp_iff, if_true, if_false, sig, sigF, sigW, sigR, sigO, sigD, sigWD, List.map_cons, List.map_nil]
  exact ⟨fun h => ret_bool' (by unfold inB leI; rw [decide_eq_true h]; rfl), fun h => ret_bool' (by unfold inB; rw [decide_eq_false h]; rfl)⟩
theorem ok_irosv : FnOk Try.prog 21 s_irosv := by
  refine fnOk (fn := Try.f21) (F := F_irosv) (hs := hs_irosv) (tab_cons ok_iword (tab_cons ok_irole tab_nil)) mixed rfl rfl rfl [.list 30] (by kernel_rfl) (by simp) ?_
  rintro n cs ⟨l, e, hl, hm⟩
  simp only [List.cons.injEq, D.list.injEq, true_and, and_true] at e
  obtain ⟨rfl, rfl⟩ := e
  refine ⟨fun h ys => h = 0 ∧ ∃ i : Nat, ys = [.list 30 l.length (rosD l), .int .i64 i] ∧ i ≤ l.length ∧ l.length ≤ 8 ∧ (∀ (j : Nat) (p : Per), j < i → l[j]? = some p → perB p = true) ∧ ∀ (j : Nat) (p q : Per), j + 1 < i → l[j]? = some p → l[j + 1]? = some q → ltS p.w q.w = true, fun h ys => l.length - (selI ys 1).toNat, ?_, ?_⟩
  · rw [t_irosv]
    simp only [F_irosv_iword, F_irosv_irole, s_iword, s_irole, Tree.holds, ltI_t, ltI_f, leI_t, leI_f, all_cons, all_nil, and_true, true_and, forall_eq, decide_eq_true_eq, decide_eq_false_iff_not, beq_iff_eq, beq_eq_false_iff_ne, bne_iff_ne, bne_eq_false_iff_eq, ne_eq, Decidable.not_not, selI_z, selB_z, selS_z, selN_z, selL_z, selI_s, selB_s, selS_s, selN_s, selL_s, Int.toNat_natCast, Nat.mul_one, Nat.zero_add, Nat.div_one, List.drop_zero, Nat.zero_mul, Nat.le_refl, Bool.not_eq_true', Bool.not_eq_false', Bool.false_eq_true, Bool.true_eq_false, not_true_eq_false, not_false_eq_true, false_imp_iff, true_imp_iff, if_true, if_false, sig, sigF, sigW, sigR, sigO, sigD, sigWD, List.map_cons, List.map_nil, unR_ros]
    refine ⟨fun h => ret_bool' ?_, fun h => ⟨0, rfl, by omega, by omega, fun j p h => by omega, fun j p q h => by omega⟩⟩
    unfold rosB
    rw [show decide (l.length ≤ 8) = false from decide_eq_false (by omega), Bool.and_false]
  · rintro h ys ⟨rfl, i, rfl, hi, h8, hv, ha⟩
    rw [t_irosv0]
    simp only [F_irosv_iword, F_irosv_irole, s_iword, s_irole, Tree.holds, ltI_t, ltI_f, leI_t, leI_f, all_cons, all_nil, and_true, true_and, forall_eq, decide_eq_true_eq, decide_eq_false_iff_not, beq_iff_eq, beq_eq_false_iff_ne, bne_iff_ne, bne_eq_false_iff_eq, ne_eq, Decidable.not_not, selI_z, selB_z, selS_z, selN_z, selL_z, selI_s, selB_s, selS_s, selN_s, selL_s, Int.toNat_natCast, Nat.mul_one, Nat.zero_add, Nat.div_one, List.drop_zero, Nat.zero_mul, Nat.le_refl, Bool.not_eq_true', Bool.not_eq_false', Bool.false_eq_true, Bool.true_eq_false, not_true_eq_false, not_false_eq_true, false_imp_iff, true_imp_iff, if_true, if_false, sig, sigF, sigW, sigR, sigO, sigD, sigWD, List.map_cons, List.map_nil, sel_kstr, sel_kint, sel_kbool, unR_ros, ByteArray.toList_eq]
    refine ⟨fun hj => ?_, fun hj => ret_bool' ?_⟩
    · obtain ⟨p, p1, p2⟩ := ros_get (l := l) (i := i) (by omega)
      obtain ⟨c0, c1, c2⟩ := ros_cell p1
      have hsz : p.w.size ≤ maxLen := by have := hm p p2; unfold maxLen; omega
      have next : perB p = true → (∀ q : Per, 0 < i → l[i - 1]? = some q → ltS q.w p.w = true) → inK .i64 ((i : Int) + 1) ∧ (∃ i_1 : Nat, [D.list 30 l.length (rosD l), .int .i64 ((i : Int) + 1)] = [.list 30 l.length (rosD l), .int .i64 i_1] ∧ i_1 ≤ l.length ∧ l.length ≤ 8 ∧ (∀ (j : Nat) (p : Per), j < i_1 → l[j]? = some p → perB p = true) ∧ ∀ (j : Nat) (p q : Per), j + 1 < i_1 → l[j]? = some p → l[j + 1]? = some q → ltS p.w q.w = true) ∧ l.length - ((i : Int) + 1).toNat < l.length - i := fun h1 h2 => by
        refine ⟨by unfold inK; omega, ⟨i + 1, rfl, by omega, h8, fun j q hj hq => ?_, fun j q q' hj hq hq' => ?_⟩, by omega⟩
        · by_cases e : j = i
          · rw [e, p1] at hq; injection hq with hq; rw [← hq]; exact h1
          · exact hv j q (by omega) hq
        · by_cases e : j + 1 = i
          · rw [e, p1] at hq'; injection hq' with hq'; rw [← hq']
            exact h2 q (by omega) (by rw [← e]; exact hq)
          · exact ha j q q' (by omega) hq hq'
      have ps : perB p = (wordB p.w.data.toList && inB p.r 0 2) := rfl
      rw [selS_of c0, selI_of c1]
      refine ⟨⟨by omega, by omega⟩, c0, hsz, fun h => ret_bool' (per_no p2 (by rw [ps, h]; rfl)).symm, fun h1 => ⟨⟨by omega, by omega⟩, c1, fun h => ret_bool' (per_no p2 (by rw [ps, h]; simp)).symm, fun h2 => ?_⟩⟩
      have hp : perB p = true := by rw [ps, h1, h2]; rfl
      refine ⟨fun hpos => ?_, fun hz => next hp fun q h => by omega⟩
      obtain ⟨q, q1, q2⟩ := ros_get (l := l) (i := i - 1) (by omega)
      obtain ⟨d0, -⟩ := ros_cell q1
      rw [show ((i : Int) - 1).toNat = i - 1 by omega, selS_of d0, le_not]
      refine ⟨⟨by omega, by omega⟩, c0, by unfold inK; omega, ⟨by omega, by omega⟩, d0, fun h => ret_bool' (asc_no q1 (by rw [show i - 1 + 1 = i by omega]; exact p1) (by simpa using h)).symm, fun h => next hp fun q' h0 hq' => ?_⟩
      rw [q1] at hq'; injection hq' with hq'; rw [← hq']
      simpa using h
    · have h1 : l.all perB = true := List.all_eq_true.mpr fun p hp => by
        obtain ⟨j, hj', rfl⟩ := List.getElem_of_mem hp
        exact hv j _ (by omega) (List.getElem?_eq_getElem hj')
      have h2 : ascB l = true := asc_of fun j p q hp hq => ha j p q (by have := (List.getElem?_eq_some_iff.mp hq).1; omega) hp hq
      unfold rosB
      rw [h1, h2, show decide (l.length ≤ 8) = true from decide_eq_true h8]
      rfl
theorem ok_iperat : FnOk Try.prog 12 s_iperat := by
  refine fnOk (fn := Try.f12) (F := F_iperat) (hs := hs_iperat) (tab_cons ok_irosv tab_nil) mixed rfl rfl rfl [.list 30, .str] (by kernel_rfl) (by simp) ?_
  rintro n cs w ⟨l, w', e, hl, hm⟩
  simp only [List.cons.injEq, D.list.injEq, D.str.injEq, true_and, and_true] at e
  obtain ⟨⟨rfl, rfl⟩, rfl⟩ := e
  refine ⟨fun h ys => h = 0 ∧ ∃ i : Nat, ys = [.list 30 l.length (rosD l), .str w, .int .i64 i] ∧ i ≤ l.length ∧ rosB l = true ∧ ∀ (j : Nat) (q : Per), j < i → l[j]? = some q → q.w ≠ w, fun h ys => l.length - (selI ys 2).toNat, ?_, ?_⟩
  · rw [t_iperat]
    simp only [F_iperat_irosv, s_irosv, Tree.holds, ltI_t, ltI_f, leI_t, leI_f, all_cons, all_nil, and_true, true_and, forall_eq, decide_eq_true_eq, decide_eq_false_iff_not, beq_iff_eq, beq_eq_false_iff_ne, bne_iff_ne, bne_eq_false_iff_eq, ne_eq, Decidable.not_not, selI_z, selB_z, selS_z, selN_z, selL_z, selI_s, selB_s, selS_s, selN_s, selL_s, Int.toNat_natCast, Nat.mul_one, Nat.zero_add, Nat.div_one, List.drop_zero, Nat.zero_mul, Nat.le_refl, Bool.not_eq_true', Bool.not_eq_false', Bool.false_eq_true, Bool.true_eq_false, not_true_eq_false, not_false_eq_true, false_imp_iff, true_imp_iff, if_true, if_false, sig, sigF, sigW, sigR, sigO, sigD, sigWD, List.map_cons, List.map_nil, unR_ros]
    exact ⟨⟨l, rfl, hl, hm⟩, fun h => by rw [at_no fun hr => by rw [h] at hr; cases hr], fun h => ⟨0, rfl, by omega, h, fun j q h => by omega⟩⟩
  · rintro h ys ⟨rfl, i, rfl, hi, hr, hv⟩
    rw [t_iperat0]
    simp only [F_iperat_irosv, s_irosv, Tree.holds, ltI_t, ltI_f, leI_t, leI_f, all_cons, all_nil, and_true, true_and, forall_eq, decide_eq_true_eq, decide_eq_false_iff_not, beq_iff_eq, beq_eq_false_iff_ne, bne_iff_ne, bne_eq_false_iff_eq, ne_eq, Decidable.not_not, selI_z, selB_z, selS_z, selN_z, selL_z, selI_s, selB_s, selS_s, selN_s, selL_s, Int.toNat_natCast, Nat.mul_one, Nat.zero_add, Nat.div_one, List.drop_zero, Nat.zero_mul, Nat.le_refl, Bool.not_eq_true', Bool.not_eq_false', Bool.false_eq_true, Bool.true_eq_false, not_true_eq_false, not_false_eq_true, false_imp_iff, true_imp_iff, if_true, if_false, sig, sigF, sigW, sigR, sigO, sigD, sigWD, List.map_cons, List.map_nil, sel_kstr, unR_ros, ByteArray.toList_eq]
    refine ⟨fun hj => ?_, fun hj => ?_⟩
    · obtain ⟨p, p1, p2⟩ := ros_get (l := l) (i := i) (by omega)
      obtain ⟨c0, -⟩ := ros_cell p1
      rw [selS_of c0]
      refine ⟨⟨by omega, by omega⟩, c0, fun h => ?_, fun h => ⟨by unfold inK; omega, ⟨i + 1, rfl, by omega, hr, fun j q hj hq => ?_⟩, by omega⟩⟩
      · rw [at_is hr p1 (text_eqR h) hv]
      · by_cases e : j = i
        · rw [e, p1] at hq; injection hq with hq; rw [← hq]
          exact fun e => h (by rw [e])
        · exact hv j q (by omega) hq
    · rw [at_no fun hr q hq => ?_]
      obtain ⟨j, hj', rfl⟩ := List.getElem_of_mem hq
      exact hv j _ (by omega) (List.getElem?_eq_getElem hj')
theorem copy_ros (l : List Per) : setL (rep l.length [D.str ⟨#[]⟩, .int .i64 0, .bool false]) 0 (rosD l) = rosD l := by
  unfold setL
  rw [List.drop_of_length_le (by rw [rep_len, rosD_len]; simp)]
  simp
theorem ok_icpp : FnOk Try.prog 39 s_icpp := by
  refine fnOk (fn := Try.f39) (F := F_icpp) (hs := hs_icpp) tab_nil mixed rfl rfl rfl [.list 30] (by kernel_rfl) (by simp) ?_
  rintro n cs ⟨l, e, hl⟩
  simp only [List.cons.injEq, D.list.injEq, true_and, and_true] at e
  obtain ⟨rfl, rfl⟩ := e
  refine ⟨fun _ _ => False, fun _ _ => 0, ?_, fun _ _ h => h.elim⟩
  rw [t_icpp]
  have hr : (rep l.length [D.str ⟨#[]⟩, .int .i64 0, .bool false]).length = l.length * 3 := by rw [rep_len]; simp
  have hs := copy_ros l
  simp only [Tree.holds, ltI_t, ltI_f, leI_t, leI_f, all_cons, all_nil, and_true, true_and, forall_eq, decide_eq_true_eq, decide_eq_false_iff_not, beq_iff_eq, beq_eq_false_iff_ne, bne_iff_ne, bne_eq_false_iff_eq, ne_eq, Decidable.not_not, selI_z, selB_z, selS_z, selN_z, selL_z, selI_s, selB_s, selS_s, selN_s, selL_s, Int.toNat_natCast, Nat.mul_one, Nat.zero_add, Nat.div_one, List.drop_zero, Nat.zero_mul, Nat.le_refl, Bool.not_eq_true', Bool.not_eq_false', Bool.false_eq_true, Bool.true_eq_false, not_true_eq_false, not_false_eq_true, false_imp_iff, true_imp_iff, if_true, if_false, sig, sigF, sigW, sigR, sigO, sigD, sigWD, List.map_cons, List.map_nil]
  simp only [hs, rosD_take, rosD_len, hr]
  exact ⟨⟨by omega, by omega, by omega⟩, Nat.le_refl _, ⟨Nat.le_refl _, rosD_scal l⟩, trivial⟩
theorem ok_ifwr : FnOk Try.prog 43 s_ifwr := by
  refine fnOk (fn := Try.f43) (F := F_ifwr) (hs := hs_ifwr) tab_nil mixed rfl rfl rfl [.list 30, .int .i64] (by kernel_rfl) (by simp) ?_
  rintro n cs r ⟨l, r', e, hl⟩
  simp only [List.cons.injEq, D.list.injEq, D.int.injEq, true_and, and_true] at e
  obtain ⟨⟨rfl, rfl⟩, rfl⟩ := e
  refine ⟨fun h ys => h = 0 ∧ ∃ i : Nat, ys = [.list 30 l.length (rosD l), .int .i64 r, .int .i64 i] ∧ i ≤ l.length ∧ ∀ (j : Nat) (q : Per), j < i → l[j]? = some q → q.r ≠ r, fun h ys => l.length - (selI ys 2).toNat, ?_, ?_⟩
  · rw [t_ifwr]
    simp only [Tree.holds, ltI_t, ltI_f, leI_t, leI_f, all_cons, all_nil, and_true, true_and, forall_eq, decide_eq_true_eq, decide_eq_false_iff_not, beq_iff_eq, beq_eq_false_iff_ne, bne_iff_ne, bne_eq_false_iff_eq, ne_eq, Decidable.not_not, selI_z, selB_z, selS_z, selN_z, selL_z, selI_s, selB_s, selS_s, selN_s, selL_s, Int.toNat_natCast, Nat.mul_one, Nat.zero_add, Nat.div_one, List.drop_zero, Nat.zero_mul, Nat.le_refl, Bool.not_eq_true', Bool.not_eq_false', Bool.false_eq_true, Bool.true_eq_false, not_true_eq_false, not_false_eq_true, false_imp_iff, true_imp_iff, if_true, if_false, sig, sigF, sigW, sigR, sigO, sigD, sigWD, List.map_cons, List.map_nil]
    exact ⟨0, rfl, by omega, fun j q h => by omega⟩
  · rintro h ys ⟨rfl, i, rfl, hi, hv⟩
    rw [t_ifwr0]
    simp only [Tree.holds, ltI_t, ltI_f, leI_t, leI_f, all_cons, all_nil, and_true, true_and, forall_eq, decide_eq_true_eq, decide_eq_false_iff_not, beq_iff_eq, beq_eq_false_iff_ne, bne_iff_ne, bne_eq_false_iff_eq, ne_eq, Decidable.not_not, selI_z, selB_z, selS_z, selN_z, selL_z, selI_s, selB_s, selS_s, selN_s, selL_s, Int.toNat_natCast, Nat.mul_one, Nat.zero_add, Nat.div_one, List.drop_zero, Nat.zero_mul, Nat.le_refl, Bool.not_eq_true', Bool.not_eq_false', Bool.false_eq_true, Bool.true_eq_false, not_true_eq_false, not_false_eq_true, false_imp_iff, true_imp_iff, if_true, if_false, sig, sigF, sigW, sigR, sigO, sigD, sigWD, List.map_cons, List.map_nil, sel_kint, unR_ros]
    refine ⟨fun hj => ?_, fun hj => ?_⟩
    · obtain ⟨p, p1, p2⟩ := ros_get (l := l) (i := i) (by omega)
      obtain ⟨-, c1, -⟩ := ros_cell p1
      rw [selI_of c1]
      refine ⟨⟨by omega, by omega⟩, c1, fun h => ?_, fun h => ⟨by unfold inK; omega, ⟨i + 1, rfl, by omega, fun j q hj hq => ?_⟩, by omega⟩⟩
      · rw [fr_is p1 h hv]
      · by_cases e : j = i
        · rw [e, p1] at hq; injection hq with hq; rw [← hq]; exact h
        · exact hv j q (by omega) hq
    · rw [fr_none fun j q hj hq => hv j q (by omega) hq]
end Go.Proofs.Ytdhjfbnlkecggaa.Mini
end
