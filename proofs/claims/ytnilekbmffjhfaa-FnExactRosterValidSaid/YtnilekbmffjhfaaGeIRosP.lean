/- Parts of the proof: IRosP. -/
import Derived.Test.YtnilekbmffjhfaaGeIRos
section
namespace Go.Proofs.Ytnilekbmffjhfaa.Mini
open Go Go.RowKit
set_option linter.unusedVariables false
set_option linter.unusedSimpArgs false
set_option maxRecDepth 20000
def rAt (l : List Per) (j : Nat) : Int := (l.getD j zeroP).r
theorem rAt_of {l : List Per} {j : Nat} {p : Per} (h : l[j]? = some p) : rAt l j = p.r := by unfold rAt; rw [List.getD_eq_getElem?_getD, h]; rfl
theorem best_max (l : List Per) : ∀ k, 0 < k → (∀ j, j < k → rAt l j ≤ rAt l (bestP l k).toNat) ∧ ∀ j, j < (bestP l k).toNat → rAt l j < rAt l (bestP l k).toNat
  | 0, h => by omega
  | k + 1, _ => by
    by_cases hk : k = 0
    · subst hk
      have e : bestP l 1 = 0 := rfl
      rw [e]
      refine ⟨fun j hj => ?_, fun j hj => ?_⟩
      · obtain rfl : j = 0 := by omega
        exact Int.le_refl _
      · have : (0 : Int).toNat = 0 := rfl
        omega
    · obtain ⟨h1, h2⟩ := best_max l k (by omega)
      have hp := best_pos l k (by omega)
      have hb := best_lt l k
      by_cases hc : rAt l (bestP l k).toNat < rAt l k
      · have e : bestP l (k + 1) = (k : Int) := by
          show (if _ then _ else _) = _
          exact if_pos (.inr hc)
        rw [e, Int.toNat_natCast]
        refine ⟨fun j hj => ?_, fun j hj => ?_⟩
        · by_cases e2 : j = k
          · rw [e2]; exact Int.le_refl _
          · have := h1 j (by omega); omega
        · have := h1 j (by omega); omega
      · have e : bestP l (k + 1) = bestP l k := by
          show (if _ then _ else _) = _
          exact if_neg (fun h => h.elim (fun h => by omega) fun h => hc h)
        rw [e]
        refine ⟨fun j hj => ?_, h2⟩
        by_cases e2 : j = k
        · rw [e2]; omega
        · exact h1 j (by omega)
theorem best_is {l : List Per} {m : Nat} (hm : m < l.length) (h1 : ∀ j, j < l.length → rAt l j ≤ rAt l m) (h2 : ∀ j, j < m → rAt l j < rAt l m) : bestP l l.length = (m : Int) := by
  obtain ⟨b1, b2⟩ := best_max l l.length (by omega)
  have hp := best_pos l l.length (by omega)
  have hb := best_lt l l.length
  rcases Nat.lt_trichotomy (bestP l l.length).toNat m with h | h | h
  · have := h2 _ h; have := b1 m hm; omega
  · omega
  · have := b2 _ h; have := h1 (bestP l l.length).toNat (by omega); omega
theorem fr_at {r : Int} {l : List Per} (h : frN r l < l.length) : rAt l (frN r l) = r ∧ ∀ j, j < frN r l → rAt l j ≠ r := by
  refine ⟨?_, fun j hj => ?_⟩
  · rw [rAt_of (List.getElem?_eq_getElem h)]
    exact beq_iff_eq.mp (List.findIdx_getElem (w := h))
  · have := List.not_of_lt_findIdx hj
    rw [rAt_of (List.getElem?_eq_getElem (show j < l.length by omega))]
    intro e
    rw [e] at this
    simp at this
theorem fr_no {r : Int} {l : List Per} (h : ¬ frN r l < l.length) : ∀ j, j < l.length → rAt l j ≠ r := by
  intro j hj e
  rw [rAt_of (List.getElem?_eq_getElem hj)] at e
  exact h (List.findIdx_lt_length_of_exists ⟨_, List.getElem_mem hj, by simpa using e⟩)
theorem fr_le (r : Int) (l : List Per) : frN r l ≤ l.length := List.findIdx_le_length
theorem fr_is {r : Int} {l : List Per} {i : Nat} {p : Per} (hi : l[i]? = some p) (hr : p.r = r) (hn : ∀ (j : Nat) (q : Per), j < i → l[j]? = some q → q.r ≠ r) : frP r l = i := by
  obtain ⟨a, e⟩ := List.getElem?_eq_some_iff.mp hi
  have hN : frN r l = i := by
    unfold frN
    rw [List.findIdx_eq a]
    refine ⟨by rw [e, hr]; simp, fun j hj => ?_⟩
    have := hn j l[j] hj (List.getElem?_eq_getElem (by omega))
    simpa using this
  unfold frP
  rw [hN, if_pos a]
theorem fr_none {r : Int} {l : List Per} (hn : ∀ (j : Nat) (q : Per), j < l.length → l[j]? = some q → q.r ≠ r) : frP r l = -1 := by
  unfold frP
  rw [if_neg]
  intro h
  obtain ⟨h1, -⟩ := fr_at h
  rw [rAt_of (List.getElem?_eq_getElem h)] at h1
  exact hn _ _ h (List.getElem?_eq_getElem h) h1
theorem nx_lt {l : List Per} (h : 0 < l.length) : 0 ≤ nxP l ∧ nxP l < l.length := by
  unfold nxP frP
  have := fr_le 1 l
  split <;> split at * <;> omega
theorem set_same {l : List Per} {m : Nat} (hm : m < l.length) (h : rAt l m = 2) : l.set m { l.getD m zeroP with r := 2 } = l := by
  have e : { l.getD m zeroP with r := 2 } = l[m] := by
    have : rAt l m = l[m].r := rAt_of (List.getElem?_eq_getElem hm)
    rw [List.getD_eq_getElem?_getD, List.getElem?_eq_getElem hm]
    show Per.mk l[m].w 2 l[m].m = l[m]
    rw [← h, this]
  rw [e, List.set_getElem_self]
/-- Who becomes the host, as the program says it. -/
theorem host_fr {l : List Per} (hv : rosB l = true) : hostP l = if 0 < l.length ∧ frP 2 l < 0 then l.set (nxP l).toNat { l.getD (nxP l).toNat zeroP with r := 2 } else l := by
  have hr : ∀ j, j < l.length → 0 ≤ rAt l j ∧ rAt l j ≤ 2 := fun j hj => by
    rw [rAt_of (List.getElem?_eq_getElem hj)]
    have := (ros_iff.mp hv).1 _ (List.getElem_mem hj)
    unfold perB inB at this
    simp only [Bool.and_eq_true, decide_eq_true_eq] at this
    omega
  by_cases h0 : 0 < l.length
  · by_cases h2 : frN 2 l < l.length
    · obtain ⟨a1, a2⟩ := fr_at h2
      have hb := best_is h2 (fun j hj => by have := hr j hj; omega) (fun j hj => by have := hr j (by omega); have := a2 j hj; omega)
      have hf : frP 2 l = (frN 2 l : Int) := if_pos h2
      unfold hostP
      rw [hb, hf, if_neg (by omega), if_neg (by omega), Int.toNat_natCast, set_same h2 a1]
    · have a2 := fr_no h2
      have hf : frP 2 l = -1 := if_neg h2
      have hb : bestP l l.length = nxP l := by
        by_cases h1 : frN 1 l < l.length
        · obtain ⟨b1, b2⟩ := fr_at h1
          have e : nxP l = (frN 1 l : Int) := by
            have : frP 1 l = (frN 1 l : Int) := if_pos h1
            unfold nxP
            rw [this, if_pos (by omega)]
          rw [e]
          exact best_is h1 (fun j hj => by have := hr j hj; have := a2 j hj; omega) (fun j hj => by have := hr j (by omega); have := a2 j (by omega); have := b2 j hj; omega)
        · have b2 := fr_no h1
          have e : nxP l = (0 : Nat) := by
            have : frP 1 l = -1 := if_neg h1
            unfold nxP
            rw [this]; rfl
          rw [e]
          exact best_is h0 (fun j hj => by have := hr j hj; have := a2 j hj; have := b2 j hj; have := hr 0 h0; omega) (fun j hj => by omega)
      have := nx_lt h0
      unfold hostP
      rw [hb, hf, if_neg (by omega), if_pos ⟨h0, by omega⟩]
  · have e : l = [] := List.length_eq_zero_iff.mp (by omega)
    subst e
    rfl
theorem ok_irole : FnOk Try.prog 35 s_irole := by
  refine fnOk (fn := Try.f35) (F := F_irole) (hs := hs_irole) tab_nil mixed rfl rfl rfl [.int .i64] (by kernel_rfl) (by simp) ?_
  intro r _
  refine ⟨fun _ _ => False, fun _ _ => 0, ?_, fun _ _ h => h.elim⟩
  rw [t_irole]
  simp only [Tree.holds, ltI_t, ltI_f, leI_t, leI_f, all_cons, all_nil, and_true, true_and, forall_eq, decide_eq_true_eq, decide_eq_false_iff_not, beq_iff_eq, beq_eq_false_iff_ne, bne_iff_ne, bne_eq_false_iff_eq, ne_eq, Decidable.not_not, selI_z, selB_z, selS_z, selN_z, selL_z, selI_s, selB_s, selS_s, selN_s, selL_s, Int.toNat_natCast, Nat.mul_one, Nat.zero_add, Nat.div_one, List.drop_zero, Nat.zero_mul, Nat.le_refl, Bool.not_eq_true', Bool.not_eq_false', Bool.false_eq_true, Bool.true_eq_false, not_true_eq_false, not_false_eq_true, false_imp_iff, true_imp_iff, if_true, if_false, sig, sigF, sigW, sigR, sigO, sigD, sigWD, List.map_cons, List.map_nil]
  exact ⟨fun h => ret_bool' (by unfold inB leI; rw [decide_eq_true h]; rfl), fun h => ret_bool' (by unfold inB; rw [decide_eq_false h]; rfl)⟩
theorem ok_irosv : FnOk Try.prog 12 s_irosv := by
  refine fnOk (fn := Try.f12) (F := F_irosv) (hs := hs_irosv) (tab_cons ok_iword (tab_cons ok_irole tab_nil)) mixed rfl rfl rfl [.list 28] (by kernel_rfl) (by simp) ?_
  rintro n cs ⟨l, e, hl, hm⟩
  simp only [List.cons.injEq, D.list.injEq, true_and, and_true] at e
  obtain ⟨rfl, rfl⟩ := e
  refine ⟨fun h ys => h = 0 ∧ ∃ i : Nat, ys = [.list 28 l.length (rosD l), .int .i64 i] ∧ i ≤ l.length ∧ l.length ≤ 8 ∧ (∀ (j : Nat) (p : Per), j < i → l[j]? = some p → perB p = true) ∧ ∀ (j : Nat) (p q : Per), j + 1 < i → l[j]? = some p → l[j + 1]? = some q → ltS p.w q.w = true, fun h ys => l.length - (selI ys 1).toNat, ?_, ?_⟩
  · rw [t_irosv]
    simp only [F_irosv_iword, F_irosv_irole, s_iword, s_irole, Tree.holds, ltI_t, ltI_f, leI_t, leI_f, all_cons, all_nil, and_true, true_and, forall_eq, decide_eq_true_eq, decide_eq_false_iff_not, beq_iff_eq, beq_eq_false_iff_ne, bne_iff_ne, bne_eq_false_iff_eq, ne_eq, Decidable.not_not, selI_z, selB_z, selS_z, selN_z, selL_z, selI_s, selB_s, selS_s, selN_s, selL_s, Int.toNat_natCast, Nat.mul_one, Nat.zero_add, Nat.div_one, List.drop_zero, Nat.zero_mul, Nat.le_refl, Bool.not_eq_true', Bool.not_eq_false', Bool.false_eq_true, Bool.true_eq_false, not_true_eq_false, not_false_eq_true, false_imp_iff, true_imp_iff, if_true, if_false, sig, sigF, sigW, sigR, sigO, sigD, sigWD, List.map_cons, List.map_nil, unR_ros]
    refine ⟨fun h => ret_bool' ?_, fun h => ⟨0, rfl, by omega, by omega, fun j p h => by omega, fun j p q h => by omega⟩⟩
    unfold rosB
    rw [show decide (l.length ≤ 8) = false from decide_eq_false (by omega), Bool.and_false]
  · rintro h ys ⟨rfl, i, rfl, hi, h8, hv, ha⟩
    rw [t_irosv0]
    simp only [F_irosv_iword, F_irosv_irole, s_iword, s_irole, Tree.holds, ltI_t, ltI_f, leI_t, leI_f, all_cons, all_nil, and_true, true_and, forall_eq, decide_eq_true_eq, decide_eq_false_iff_not, beq_iff_eq, beq_eq_false_iff_ne, bne_iff_ne, bne_eq_false_iff_eq, ne_eq, Decidable.not_not, selI_z, selB_z, selS_z, selN_z, selL_z, selI_s, selB_s, selS_s, selN_s, selL_s, Int.toNat_natCast, Nat.mul_one, Nat.zero_add, Nat.div_one, List.drop_zero, Nat.zero_mul, Nat.le_refl, Bool.not_eq_true', Bool.not_eq_false', Bool.false_eq_true, Bool.true_eq_false, not_true_eq_false, not_false_eq_true, false_imp_iff, true_imp_iff, if_true, if_false, sig, sigF, sigW, sigR, sigO, sigD, sigWD, List.map_cons, List.map_nil, sel_kstr, sel_kint, sel_kbool, unR_ros, ByteArray.toList_eq]
    refine ⟨fun hj => ?_, fun hj => ret_bool' ?_⟩
    · obtain ⟨p, p1, p2⟩ := ros_get (l := l) (i := i) (by omega)
      obtain ⟨c0, c1, c2⟩ := ros_cell p1
      have hsz : p.w.size ≤ maxLen := by have := hm p p2; unfold maxLen; omega
      have next : perB p = true → (∀ q : Per, 0 < i → l[i - 1]? = some q → ltS q.w p.w = true) → inK .i64 ((i : Int) + 1) ∧ (∃ i_1 : Nat, [D.list 28 l.length (rosD l), .int .i64 ((i : Int) + 1)] = [.list 28 l.length (rosD l), .int .i64 i_1] ∧ i_1 ≤ l.length ∧ l.length ≤ 8 ∧ (∀ (j : Nat) (p : Per), j < i_1 → l[j]? = some p → perB p = true) ∧ ∀ (j : Nat) (p q : Per), j + 1 < i_1 → l[j]? = some p → l[j + 1]? = some q → ltS p.w q.w = true) ∧ l.length - ((i : Int) + 1).toNat < l.length - i := fun h1 h2 => by
        refine ⟨by unfold inK; omega, ⟨i + 1, rfl, by omega, h8, fun j q hj hq => ?_, fun j q q' hj hq hq' => ?_⟩, by omega⟩
        · by_cases e : j = i
          · rw [e, p1] at hq; injection hq with hq; rw [← hq]; exact h1
          · exact hv j q (by omega) hq
        · by_cases e : j + 1 = i
          · rw [e, p1] at hq'; injection hq' with hq'; rw [← hq']
            exact h2 q (by omega) (by rw [← e]; exact hq)
          · exact ha j q q' (by omega) hq hq'
      have ps : perB p = (wordB p.w.data.toList && inB p.r 0 2) := rfl
      rw [selS_of c0, selI_of c1]
      refine ⟨⟨by omega, by omega⟩, c0, hsz, fun h => ret_bool' (per_no p2 (by rw [ps, h]; rfl)).symm, fun h1 => ⟨⟨by omega, by omega⟩, c1, fun h => ret_bool' (per_no p2 (by rw [ps, h]; simp)).symm, fun h2 => ?_⟩⟩
      have hp : perB p = true := by rw [ps, h1, h2]; rfl
      refine ⟨fun hpos => ?_, fun hz => next hp fun q h => by omega⟩
      obtain ⟨q, q1, q2⟩ := ros_get (l := l) (i := i - 1) (by omega)
      obtain ⟨d0, -⟩ := ros_cell q1
      rw [show ((i : Int) - 1).toNat = i - 1 by omega, selS_of d0, le_not]
      refine ⟨⟨by omega, by omega⟩, c0, by unfold inK; omega, ⟨by omega, by omega⟩, d0, fun h => ret_bool' (asc_no q1 (by rw [show i - 1 + 1 = i by omega]; exact p1) (by simpa using h)).symm, fun h => next hp fun q' h0 hq' => ?_⟩
      rw [q1] at hq'; injection hq' with hq'; rw [← hq']
      simpa using h
    · have h1 : l.all perB = true := List.all_eq_true.mpr fun p hp => by
        obtain ⟨j, hj', rfl⟩ := List.getElem_of_mem hp
        exact hv j _ (by omega) (List.getElem?_eq_getElem hj')
      have h2 : ascB l = true := asc_of fun j p q hp hq => ha j p q (by have := (List.getElem?_eq_some_iff.mp hq).1; omega) hp hq
      unfold rosB
      rw [h1, h2, show decide (l.length ≤ 8) = true from decide_eq_true h8]
      rfl
theorem ok_iperat : FnOk Try.prog 19 s_iperat := by
  refine fnOk (fn := Try.f19) (F := F_iperat) (hs := hs_iperat) (tab_cons ok_irosv tab_nil) mixed rfl rfl rfl [.list 28, .str] (by kernel_rfl) (by simp) ?_
  rintro n cs w ⟨l, w', e, hl, hm⟩
  simp only [List.cons.injEq, D.list.injEq, D.str.injEq, true_and, and_true] at e
  obtain ⟨⟨rfl, rfl⟩, rfl⟩ := e
  refine ⟨fun h ys => h = 0 ∧ ∃ i : Nat, ys = [.list 28 l.length (rosD l), .str w, .int .i64 i] ∧ i ≤ l.length ∧ rosB l = true ∧ ∀ (j : Nat) (q : Per), j < i → l[j]? = some q → q.w ≠ w, fun h ys => l.length - (selI ys 2).toNat, ?_, ?_⟩
  · rw [t_iperat]
    simp only [F_iperat_irosv, s_irosv, Tree.holds, ltI_t, ltI_f, leI_t, leI_f, all_cons, all_nil, and_true, true_and, forall_eq, decide_eq_true_eq, decide_eq_false_iff_not, beq_iff_eq, beq_eq_false_iff_ne, bne_iff_ne, bne_eq_false_iff_eq, ne_eq, Decidable.not_not, selI_z, selB_z, selS_z, selN_z, selL_z, selI_s, selB_s, selS_s, selN_s, selL_s, Int.toNat_natCast, Nat.mul_one, Nat.zero_add, Nat.div_one, List.drop_zero, Nat.zero_mul, Nat.le_refl, Bool.not_eq_true', Bool.not_eq_false', Bool.false_eq_true, Bool.true_eq_false, not_true_eq_false, not_false_eq_true, false_imp_iff, true_imp_iff, if_true, if_false, sig, sigF, sigW, sigR, sigO, sigD, sigWD, List.map_cons, List.map_nil, unR_ros]
    exact ⟨⟨l, rfl, hl, hm⟩, fun h => by rw [at_no fun hr => by rw [h] at hr; cases hr], fun h => ⟨0, rfl, by omega, h, fun j q h => by omega⟩⟩
  · rintro h ys ⟨rfl, i, rfl, hi, hr, hv⟩
    rw [t_iperat0]
    simp only [F_iperat_irosv, s_irosv, Tree.holds, ltI_t, ltI_f, leI_t, leI_f, all_cons, all_nil, and_true, true_and, forall_eq, decide_eq_true_eq, decide_eq_false_iff_not, beq_iff_eq, beq_eq_false_iff_ne, bne_iff_ne, bne_eq_false_iff_eq, ne_eq, Decidable.not_not, selI_z, selB_z, selS_z, selN_z, selL_z, selI_s, selB_s, selS_s, selN_s, selL_s, Int.toNat_natCast, Nat.mul_one, Nat.zero_add, Nat.div_one, List.drop_zero, Nat.zero_mul, Nat.le_refl, Bool.not_eq_true', Bool.not_eq_false', Bool.false_eq_true, Bool.true_eq_false, not_true_eq_false, not_false_eq_true, false_imp_iff, true_imp_iff, if_true, if_false, sig, sigF, sigW, sigR, sigO, sigD, sigWD, List.map_cons, List.map_nil, sel_kstr, unR_ros, ByteArray.toList_eq]
    refine ⟨fun hj => ?_, fun hj => ?_⟩
    · obtain ⟨p, p1, p2⟩ := ros_get (l := l) (i := i) (by omega)
      obtain ⟨c0, -⟩ := ros_cell p1
      rw [selS_of c0]
      refine ⟨⟨by omega, by omega⟩, c0, fun h => ?_, fun h => ⟨by unfold inK; omega, ⟨i + 1, rfl, by omega, hr, fun j q hj hq => ?_⟩, by omega⟩⟩
      · rw [at_is hr p1 (text_eqR h) hv]
      · by_cases e : j = i
        · rw [e, p1] at hq; injection hq with hq; rw [← hq]
          exact fun e => h (by rw [e])
        · exact hv j q (by omega) hq
    · rw [at_no fun hr q hq => ?_]
      obtain ⟨j, hj', rfl⟩ := List.getElem_of_mem hq
      exact hv j _ (by omega) (List.getElem?_eq_getElem hj')
theorem ok_icnt : FnOk Try.prog 41 s_icnt := by
  refine fnOk (fn := Try.f41) (F := F_icnt) (hs := hs_icnt) tab_nil mixed rfl rfl rfl [.list 28, .str] (by kernel_rfl) (by simp) ?_
  rintro n cs w ⟨l, w', e, hl, hm⟩
  simp only [List.cons.injEq, D.list.injEq, D.str.injEq, true_and, and_true] at e
  obtain ⟨⟨rfl, rfl⟩, rfl⟩ := e
  refine ⟨fun h ys => h = 0 ∧ ∃ i : Nat, ys = [.list 28 l.length (rosD l), .str w, .int .i64 i] ∧ i ≤ l.length ∧ ∀ (j : Nat) (q : Per), j < i → l[j]? = some q → ltS q.w w = true, fun h ys => l.length - (selI ys 2).toNat, ?_, ?_⟩
  · rw [t_icnt]
    simp only [Tree.holds, ltI_t, ltI_f, leI_t, leI_f, all_cons, all_nil, and_true, true_and, forall_eq, decide_eq_true_eq, decide_eq_false_iff_not, beq_iff_eq, beq_eq_false_iff_ne, bne_iff_ne, bne_eq_false_iff_eq, ne_eq, Decidable.not_not, selI_z, selB_z, selS_z, selN_z, selL_z, selI_s, selB_s, selS_s, selN_s, selL_s, Int.toNat_natCast, Nat.mul_one, Nat.zero_add, Nat.div_one, List.drop_zero, Nat.zero_mul, Nat.le_refl, Bool.not_eq_true', Bool.not_eq_false', Bool.false_eq_true, Bool.true_eq_false, not_true_eq_false, not_false_eq_true, false_imp_iff, true_imp_iff, if_true, if_false, sig, sigF, sigW, sigR, sigO, sigD, sigWD, List.map_cons, List.map_nil]
    exact ⟨0, rfl, by omega, fun j q h => by omega⟩
  · rintro h ys ⟨rfl, i, rfl, hi, hv⟩
    rw [t_icnt0]
    simp only [Tree.holds, ltI_t, ltI_f, leI_t, leI_f, all_cons, all_nil, and_true, true_and, forall_eq, decide_eq_true_eq, decide_eq_false_iff_not, beq_iff_eq, beq_eq_false_iff_ne, bne_iff_ne, bne_eq_false_iff_eq, ne_eq, Decidable.not_not, selI_z, selB_z, selS_z, selN_z, selL_z, selI_s, selB_s, selS_s, selN_s, selL_s, Int.toNat_natCast, Nat.mul_one, Nat.zero_add, Nat.div_one, List.drop_zero, Nat.zero_mul, Nat.le_refl, Bool.not_eq_true', Bool.not_eq_false', Bool.false_eq_true, Bool.true_eq_false, not_true_eq_false, not_false_eq_true, false_imp_iff, true_imp_iff, if_true, if_false, sig, sigF, sigW, sigR, sigO, sigD, sigWD, List.map_cons, List.map_nil, sel_kstr, unR_ros, ByteArray.toList_eq]
    refine ⟨fun hj => ?_, fun hj => ?_⟩
    · obtain ⟨p, p1, p2⟩ := ros_get (l := l) (i := i) (by omega)
      obtain ⟨c0, -⟩ := ros_cell p1
      rw [selS_of c0]
      refine ⟨⟨by omega, by omega⟩, c0, fun h => ⟨by unfold inK; omega, ⟨i + 1, rfl, by omega, fun j q hj hq => ?_⟩, by omega⟩, fun h => ?_⟩
      · by_cases e : j = i
        · rw [e, p1] at hq; injection hq with hq; rw [← hq]; exact h
        · exact hv j q (by omega) hq
      · rw [gap_is hi hv fun q hq => by rw [p1] at hq; injection hq with hq; rw [← hq]; exact h]
    · rw [gap_is hi hv fun q hq => by have := (List.getElem?_eq_some_iff.mp hq).1; omega]
theorem copy_ros (l : List Per) : setL (rep l.length [D.str ⟨#[]⟩, .int .i64 0, .bool false]) 0 (rosD l) = rosD l := by
  unfold setL
  rw [List.drop_of_length_le (by rw [rep_len, rosD_len]; simp)]
  simp
theorem ok_icpp : FnOk Try.prog 42 s_icpp := by
  refine fnOk (fn := Try.f42) (F := F_icpp) (hs := hs_icpp) tab_nil mixed rfl rfl rfl [.list 28] (by kernel_rfl) (by simp) ?_
  rintro n cs ⟨l, e, hl⟩
  simp only [List.cons.injEq, D.list.injEq, true_and, and_true] at e
  obtain ⟨rfl, rfl⟩ := e
  refine ⟨fun _ _ => False, fun _ _ => 0, ?_, fun _ _ h => h.elim⟩
  rw [t_icpp]
  have hr : (rep l.length [D.str ⟨#[]⟩, .int .i64 0, .bool false]).length = l.length * 3 := by rw [rep_len]; simp
  have hs := copy_ros l
  simp only [Tree.holds, ltI_t, ltI_f, leI_t, leI_f, all_cons, all_nil, and_true, true_and, forall_eq, decide_eq_true_eq, decide_eq_false_iff_not, beq_iff_eq, beq_eq_false_iff_ne, bne_iff_ne, bne_eq_false_iff_eq, ne_eq, Decidable.not_not, selI_z, selB_z, selS_z, selN_z, selL_z, selI_s, selB_s, selS_s, selN_s, selL_s, Int.toNat_natCast, Nat.mul_one, Nat.zero_add, Nat.div_one, List.drop_zero, Nat.zero_mul, Nat.le_refl, Bool.not_eq_true', Bool.not_eq_false', Bool.false_eq_true, Bool.true_eq_false, not_true_eq_false, not_false_eq_true, false_imp_iff, true_imp_iff, if_true, if_false, sig, sigF, sigW, sigR, sigO, sigD, sigWD, List.map_cons, List.map_nil]
  simp only [hs, rosD_take, rosD_len, hr]
  exact ⟨⟨by omega, by omega, by omega⟩, Nat.le_refl _, ⟨Nat.le_refl _, rosD_scal l⟩, trivial⟩
theorem ok_ifwr : FnOk Try.prog 44 s_ifwr := by
  refine fnOk (fn := Try.f44) (F := F_ifwr) (hs := hs_ifwr) tab_nil mixed rfl rfl rfl [.list 28, .int .i64] (by kernel_rfl) (by simp) ?_
  rintro n cs r ⟨l, r', e, hl⟩
  simp only [List.cons.injEq, D.list.injEq, D.int.injEq, true_and, and_true] at e
  obtain ⟨⟨rfl, rfl⟩, rfl⟩ := e
  refine ⟨fun h ys => h = 0 ∧ ∃ i : Nat, ys = [.list 28 l.length (rosD l), .int .i64 r, .int .i64 i] ∧ i ≤ l.length ∧ ∀ (j : Nat) (q : Per), j < i → l[j]? = some q → q.r ≠ r, fun h ys => l.length - (selI ys 2).toNat, ?_, ?_⟩
  · rw [t_ifwr]
    simp only [Tree.holds, ltI_t, ltI_f, leI_t, leI_f, all_cons, all_nil, and_true, true_and, forall_eq, decide_eq_true_eq, decide_eq_false_iff_not, beq_iff_eq, beq_eq_false_iff_ne, bne_iff_ne, bne_eq_false_iff_eq, ne_eq, Decidable.not_not, selI_z, selB_z, selS_z, selN_z, selL_z, selI_s, selB_s, selS_s, selN_s, selL_s, Int.toNat_natCast, Nat.mul_one, Nat.zero_add, Nat.div_one, List.drop_zero, Nat.zero_mul, Nat.le_refl, Bool.not_eq_true', Bool.not_eq_false', Bool.false_eq_true, Bool.true_eq_false, not_true_eq_false, not_false_eq_true, false_imp_iff, true_imp_iff, if_true, if_false, sig, sigF, sigW, sigR, sigO, sigD, sigWD, List.map_cons, List.map_nil]
    exact ⟨0, rfl, by omega, fun j q h => by omega⟩
  · rintro h ys ⟨rfl, i, rfl, hi, hv⟩
    rw [t_ifwr0]
    simp only [Tree.holds, ltI_t, ltI_f, leI_t, leI_f, all_cons, all_nil, and_true, true_and, forall_eq, decide_eq_true_eq, decide_eq_false_iff_not, beq_iff_eq, beq_eq_false_iff_ne, bne_iff_ne, bne_eq_false_iff_eq, ne_eq, Decidable.not_not, selI_z, selB_z, selS_z, selN_z, selL_z, selI_s, selB_s, selS_s, selN_s, selL_s, Int.toNat_natCast, Nat.mul_one, Nat.zero_add, Nat.div_one, List.drop_zero, Nat.zero_mul, Nat.le_refl, Bool.not_eq_true', Bool.not_eq_false', Bool.false_eq_true, Bool.true_eq_false, not_true_eq_false, not_false_eq_true, false_imp_iff, true_imp_iff, if_true, if_false, sig, sigF, sigW, sigR, sigO, sigD, sigWD, List.map_cons, List.map_nil, sel_kint, unR_ros]
    refine ⟨fun hj => ?_, fun hj => ?_⟩
    · obtain ⟨p, p1, p2⟩ := ros_get (l := l) (i := i) (by omega)
      obtain ⟨-, c1, -⟩ := ros_cell p1
      rw [selI_of c1]
      refine ⟨⟨by omega, by omega⟩, c1, fun h => ?_, fun h => ⟨by unfold inK; omega, ⟨i + 1, rfl, by omega, fun j q hj hq => ?_⟩, by omega⟩⟩
      · rw [fr_is p1 h hv]
      · by_cases e : j = i
        · rw [e, p1] at hq; injection hq with hq; rw [← hq]; exact h
        · exact hv j q (by omega) hq
    · rw [fr_none fun j q hj hq => hv j q (by omega) hq]
theorem ok_inxh : FnOk Try.prog 45 s_inxh := by
  refine fnOk (fn := Try.f45) (F := F_inxh) (hs := hs_inxh) (tab_cons ok_ifwr tab_nil) mixed rfl rfl rfl [.list 28] (by kernel_rfl) (by simp) ?_
  rintro n cs ⟨l, e, hl⟩
  simp only [List.cons.injEq, D.list.injEq, true_and, and_true] at e
  obtain ⟨rfl, rfl⟩ := e
  refine ⟨fun _ _ => False, fun _ _ => 0, ?_, fun _ _ h => h.elim⟩
  rw [t_inxh]
  simp only [F_inxh_ifwr, s_ifwr, Tree.holds, ltI_t, ltI_f, leI_t, leI_f, all_cons, all_nil, and_true, true_and, forall_eq, decide_eq_true_eq, decide_eq_false_iff_not, beq_iff_eq, beq_eq_false_iff_ne, bne_iff_ne, bne_eq_false_iff_eq, ne_eq, Decidable.not_not, selI_z, selB_z, selS_z, selN_z, selL_z, selI_s, selB_s, selS_s, selN_s, selL_s, Int.toNat_natCast, Nat.mul_one, Nat.zero_add, Nat.div_one, List.drop_zero, Nat.zero_mul, Nat.le_refl, Bool.not_eq_true', Bool.not_eq_false', Bool.false_eq_true, Bool.true_eq_false, not_true_eq_false, not_false_eq_true, false_imp_iff, true_imp_iff, if_true, if_false, sig, sigF, sigW, sigR, sigO, sigD, sigWD, List.map_cons, List.map_nil, unR_ros]
  refine ⟨⟨l, 1, rfl, hl⟩, fun h => ?_, fun h => ?_⟩
  · unfold nxP; rw [if_pos h]
  · unfold nxP; rw [if_neg h]
theorem ok_ijoin : FnOk Try.prog 22 s_ijoin := by
  refine fnOk (fn := Try.f22) (F := F_ijoin) (hs := hs_ijoin) (tab_cons ok_irosv (tab_cons ok_icnt (tab_cons ok_icpp tab_nil))) mixed rfl rfl rfl [.list 28, .str, .int .i64, .bool] (by kernel_rfl) (by simp) ?_
  rintro n cs pw pr pm ⟨l, p, e, ⟨hl, hm⟩, hp⟩
  simp only [perD, List.cons.injEq, D.list.injEq, D.str.injEq, D.int.injEq, D.bool.injEq, true_and, and_true] at e
  obtain ⟨⟨rfl, rfl⟩, rfl, rfl, rfl⟩ := e
  refine ⟨fun _ _ => False, fun _ _ => 0, ?_, fun _ _ h => h.elim⟩
  have hu : unP (List.drop 1 [.list 28 l.length (rosD l), .str p.w, .int .i64 p.r, .bool p.m]) = p := rfl
  have hi := gap_le p.w l
  have hX : l.take (gapP p.w l) ++ [p] ++ l.drop (gapP p.w l) = insP p l := by unfold insP; simp
  rw [t_ijoin]
  simp only [F_ijoin_irosv, F_ijoin_icnt, F_ijoin_icpp, s_irosv, s_icnt, s_icpp, Tree.holds, ltI_t, ltI_f, leI_t, leI_f, all_cons, all_nil, and_true, true_and, forall_eq, decide_eq_true_eq, decide_eq_false_iff_not, beq_iff_eq, beq_eq_false_iff_ne, bne_iff_ne, bne_eq_false_iff_eq, ne_eq, Decidable.not_not, selI_z, selB_z, selS_z, selN_z, selL_z, selI_s, selB_s, selS_s, selN_s, selL_s, Int.toNat_natCast, Nat.mul_one, Nat.zero_add, Nat.div_one, List.drop_zero, Nat.zero_mul, Nat.le_refl, Bool.not_eq_true', Bool.not_eq_false', Bool.false_eq_true, Bool.true_eq_false, not_true_eq_false, not_false_eq_true, false_imp_iff, true_imp_iff, if_true, if_false, sig, sigF, sigW, sigR, sigO, sigD, sigWD, List.map_cons, List.map_nil, sel_kstr, sel_kint, sel_kbool, unR_ros, hu]
  have hz : ¬ rosB l = true → rosR (joinP l p) = rosR ([], false) := fun h => by unfold joinP; rw [if_neg h]
  refine ⟨⟨l, rfl, hl, hm⟩, fun h => (by rw [hz (by rw [h]; simp)]; rfl), fun hr => ⟨⟨l, p.w, rfl, hl, hm⟩, ?_⟩⟩
  have h8 := (ros_iff.mp hr).2.2
  have sx : smR (insP p l) := ⟨by rw [ins_len]; omega, fun q hq => by
    rw [← hX] at hq
    rcases List.mem_append.mp hq with hq | hq
    · rcases List.mem_append.mp hq with hq | hq
      · exact hm q (List.mem_of_mem_take hq)
      · simp at hq; subst hq; exact hp
    · exact hm q (List.mem_of_mem_drop hq)⟩
  have hj : joinP l p = if rosB (insP p l) = true then (insP p l, true) else (l, false) := by unfold joinP; rw [if_pos hr]
  have hn := ins_len p l
  generalize gapP p.w l = i at *
  have e0 : ((0 : Int)).toNat = 0 := rfl
  have e1 : ((l.length : Int) - (i : Int)).toNat = l.length - i := by omega
  have T3 : rosD (l.take i) ++ [.str p.w, .int .i64 p.r, .bool p.m] = rosD (l.take i ++ [p]) := (rosD_push _ _).symm
  have U1 : List.take i (l.take i) = l.take i := List.take_of_length_le (by rw [List.length_take]; omega)
  have U2 : List.take (i + 1) (l.take i ++ [p]) = l.take i ++ [p] := List.take_of_length_le (by rw [List.length_append, List.length_take]; simp; omega)
  have U3 : List.take (l.length - i) (l.drop i) = l.drop i := List.take_of_length_le (by rw [List.length_drop]; omega)
  have T6 : rosD (l.take i ++ [p]) ++ rosD (l.drop i) = rosD (insP p l) := by rw [← hX]; exact (rosD_append _ _).symm
  have ln : (rosD (l.take i)).length = i * 3 := by rw [rosD_len, List.length_take, Nat.min_eq_left hi]
  have ln2 : (rosD (l.take i ++ [p])).length = (i + 1) * 3 := by rw [rosD_len, List.length_append, List.length_take, Nat.min_eq_left hi]; rfl
  have hx : i + 1 + (l.length - i) = (insP p l).length := by omega
  have hlt : (l.take i).length = i := by rw [List.length_take]; omega
  simp only [Option.getD_some, Option.getD_none, Int.sub_zero, Int.toNat_natCast, e0, e1, Nat.zero_mul, List.drop_zero, rosD_taken, rosD_drop, U1, T3, U2, U3, T6, ln, ln2, hx, List.take_length, unR_ros]
  have hD := rosD_len (insP p l)
  have hDl := rosD_len l
  rw [hj]
  generalize insP p l = x at *
  refine ⟨⟨by omega, by omega, by omega⟩, ⟨l.take i, by rw [hlt], by omega⟩, ⟨by omega, by omega⟩, ⟨by omega, by omega, by omega⟩, ⟨by omega, by omega⟩, by omega, ⟨x, rfl, sx⟩, fun h => ⟨⟨l, rfl, hl⟩, ⟨by omega, rosD_scal _⟩, ?_⟩, fun h => ⟨⟨by omega, rosD_scal _⟩, ?_⟩⟩
  · rw [if_neg (by rw [h]; simp)]; rfl
  · rw [if_pos h]; rfl
theorem ok_ileave : FnOk Try.prog 30 s_ileave := by
  refine fnOk (fn := Try.f30) (F := F_ileave) (hs := hs_ileave) (tab_cons ok_irosv (tab_cons ok_iperat (tab_cons ok_icpp (tab_cons ok_ifwr (tab_cons ok_inxh tab_nil))))) mixed rfl rfl rfl [.list 28, .str] (by kernel_rfl) (by simp) ?_
  rintro n cs w ⟨l, w', e, hl, hm⟩
  simp only [List.cons.injEq, D.list.injEq, D.str.injEq, true_and, and_true] at e
  obtain ⟨⟨rfl, rfl⟩, rfl⟩ := e
  refine ⟨fun _ _ => False, fun _ _ => 0, ?_, fun _ _ h => h.elim⟩
  rw [t_ileave]
  have e0 : ((0 : Int)).toNat = 0 := rfl
  simp only [F_ileave_irosv, F_ileave_iperat, F_ileave_icpp, F_ileave_ifwr, F_ileave_inxh, s_irosv, s_iperat, s_icpp, s_ifwr, s_inxh, Tree.holds, ltI_t, ltI_f, leI_t, leI_f, all_cons, all_nil, and_true, true_and, forall_eq, decide_eq_true_eq, decide_eq_false_iff_not, beq_iff_eq, beq_eq_false_iff_ne, bne_iff_ne, bne_eq_false_iff_eq, ne_eq, Decidable.not_not, selI_z, selB_z, selS_z, selN_z, selL_z, selI_s, selB_s, selS_s, selN_s, selL_s, Int.toNat_natCast, Nat.mul_one, Nat.zero_add, Nat.div_one, List.drop_zero, Nat.zero_mul, Nat.le_refl, Bool.not_eq_true', Bool.not_eq_false', Bool.false_eq_true, Bool.true_eq_false, not_true_eq_false, not_false_eq_true, false_imp_iff, true_imp_iff, if_true, if_false, sig, sigF, sigW, sigR, sigO, sigD, sigWD, List.map_cons, List.map_nil, unR_ros, e0, Option.getD_some, Option.getD_none, Int.sub_zero, rosD_take, rosD_len]
  have hz : ¬ rosB l = true → rosR (leaveP l w) = rosR ([], false) := fun h => by unfold leaveP; rw [if_neg h]
  refine ⟨⟨l, rfl, hl, hm⟩, fun h => (by rw [hz (by rw [h]; simp)]; rfl), fun hr => ⟨⟨l, w, rfl, hl, hm⟩, fun h => ⟨⟨l, rfl, hl⟩, rosD_scal _, ?_⟩, fun h => ?_⟩⟩
  · unfold atP at h
    unfold leaveP
    rw [if_pos hr, if_neg (fun h2 => ?_)]
    · rfl
    · rw [if_pos ⟨hr, h2⟩] at h; omega
  · have hp : placeP w l < l.length := by
      unfold atP at h
      by_cases h2 : placeP w l < l.length
      · exact h2
      · rw [if_neg (fun h3 => h2 h3.2)] at h; omega
    have ha : atP l w = (placeP w l : Int) := by unfold atP; rw [if_pos ⟨hr, hp⟩]
    have h8 := (ros_iff.mp hr).2.2
    have hlv : leaveP l w = (hostP (l.eraseIdx (placeP w l)), true) := by unfold leaveP; rw [if_pos hr, if_pos hp]
    have hv : rosB (l.eraseIdx (placeP w l)) = true := ros_sub (List.eraseIdx_sublist _ _) hr
    have hh := host_fr hv
    have hel : (l.eraseIdx (placeP w l)).length = l.length - 1 := by rw [List.length_eraseIdx, if_pos hp]
    generalize placeP w l = a at *
    have e1 : ((a : Int) + 1).toNat = a + 1 := by omega
    have e2 : ((l.length : Int) - ((a : Int) + 1)).toNat = l.length - (a + 1) := by omega
    have U1 : List.take a (l.take a) = l.take a := List.take_of_length_le (by rw [List.length_take]; omega)
    have U3 : List.take (l.length - (a + 1)) (l.drop (a + 1)) = l.drop (a + 1) := List.take_of_length_le (by rw [List.length_drop]; omega)
    have T6 : rosD (l.take a) ++ rosD (l.drop (a + 1)) = rosD (l.eraseIdx a) := by rw [← rosD_append, List.eraseIdx_eq_take_drop_succ]
    have ln : (rosD (l.take a)).length = a * 3 := by rw [rosD_len, List.length_take, Nat.min_eq_left (by omega)]
    have hlt : (l.take a).length = a := by rw [List.length_take]; omega
    have hx : a + (l.length - (a + 1)) = (l.eraseIdx a).length := by omega
    simp only [ha, e1, e2, Int.toNat_natCast, rosD_taken, rosD_drop, U1, U3, T6, hx, ln, List.take_length, unR_ros, hlt]
    rw [hlv, hh]
    have hD := rosD_len (l.eraseIdx a)
    have P : ∃ l_1 : List Per, [D.list 28 (l.eraseIdx a).length (rosD (l.eraseIdx a))] = [.list 28 l_1.length (rosD l_1)] ∧ l_1.length ≤ 1048576 := ⟨_, rfl, by omega⟩
    generalize l.eraseIdx a = x at *
    have Q : (x.length * 3 ≤ (rosD x).length ∧ scal (rosD x)) := ⟨by omega, rosD_scal _⟩
    refine ⟨⟨by omega, by omega, by omega⟩, by unfold inK; omega, ⟨by omega, by omega, by omega⟩, ⟨l.take a, by rw [hlt], by omega⟩, ⟨by omega, by omega⟩, fun h1 => ⟨by omega, ⟨x, 2, rfl, by omega⟩, fun h2 => ⟨by omega, ⟨x, rfl, by omega⟩, ?_⟩, fun h2 => ⟨Q, ?_⟩⟩, fun h1 => ⟨Q, ?_⟩⟩
    · have hn := nx_lt (l := x) (by omega)
      generalize nxP x = m at *
      obtain ⟨q, q1, q2⟩ := ros_get (l := x) (i := m.toNat) (by omega)
      have g : x.getD m.toNat zeroP = q := by rw [List.getD_eq_getElem?_getD, q1]; rfl
      rw [if_pos ⟨by omega, h2⟩, g, ros_setR q1 2]
      have hl2 : (x.set m.toNat { q with r := 2 }).length = x.length := List.length_set
      have hD2 := rosD_len (x.set m.toNat { q with r := 2 })
      have hT := rosD_take (x.set m.toNat { q with r := 2 })
      rw [hl2] at hD2 hT
      rw [hT]
      refine ⟨⟨by omega, by omega⟩, by omega, ⟨by omega, rosD_scal _⟩, ?_⟩
      show _ = [D.list 28 (x.set m.toNat { q with r := 2 }).length (rosD _), .bool true]
      rw [hl2]
    · rw [if_neg (fun h3 => h2 h3.2)]; rfl
    · rw [if_neg (fun h3 => h1 (by omega))]; rfl
end Go.Proofs.Ytnilekbmffjhfaa.Mini
end
