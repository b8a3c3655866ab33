/- Parts of the proof: RosP. -/
import Derived.Test.YtdhjfbnlkecggaaGdRosM
section
namespace Go.Proofs.Ytdhjfbnlkecggaa.Mini
open Go Go.RowKit
set_option linter.unusedVariables false
set_option linter.unusedSimpArgs false
set_option maxRecDepth 20000
theorem perD_len (p : Per) : (perD p).length = 3 := rfl
theorem rosD_len (l : List Per) : (rosD l).length = l.length * 3 := flatD_len perD_len l
theorem rosD_take (l : List Per) : List.take (l.length * 3) (rosD l) = rosD l := List.take_of_length_le (by rw [rosD_len]; omega)
theorem rosD_push (l : List Per) (p : Per) : rosD (l ++ [p]) = rosD l ++ perD p := by unfold rosD; rw [flatD_append, flatD_one]
theorem rosD_append (a b : List Per) : rosD (a ++ b) = rosD a ++ rosD b := by unfold rosD; rw [flatD_append]
theorem unR_ros : ∀ l : List Per, unR (rosD l) = l
  | [] => rfl
  | p :: l => by
    show Per.mk p.w p.r p.m :: unR (rosD l) = p :: l
    rw [unR_ros l]
theorem ros_cell {l : List Per} {i : Nat} {p : Per} (h : l[i]? = some p) : (rosD l)[i * 3]? = some (.str p.w) ∧ (rosD l)[i * 3 + 1]? = some (.int .i64 p.r) ∧ (rosD l)[i * 3 + 1 + 1]? = some (.bool p.m) :=
  ⟨flatD_at perD_len h (j := 0) (by omega), flatD_at perD_len h (j := 1) (by omega), flatD_at perD_len h (j := 2) (by omega)⟩
theorem ros_get {l : List Per} {i : Nat} (h : i < l.length) : ∃ p, l[i]? = some p ∧ p ∈ l := ⟨l[i], List.getElem?_eq_getElem h, List.getElem_mem h⟩
theorem rosD_scal (l : List Per) : scal (rosD l) := by
  intro d hd
  unfold rosD flatD at hd
  obtain ⟨p, _, hp⟩ := List.mem_flatMap.mp hd
  simp only [perD, List.mem_cons, List.not_mem_nil, or_false] at hp
  rcases hp with rfl | rfl | rfl <;> rfl
theorem per_no {l : List Per} {p : Per} (hp : p ∈ l) (h : perB p = false) : rosB l = false := by
  unfold rosB
  rw [show l.all perB = false by rw [List.all_eq_false]; exact ⟨p, hp, by rw [h]; simp⟩]
  rfl
theorem asc_no {l : List Per} {i : Nat} {p q : Per} (hp : l[i]? = some p) (hq : l[i + 1]? = some q) (h : ltS p.w q.w = false) : rosB l = false := by
  cases e : rosB l with
  | false => rfl
  | true => rw [ros_at e hp hq (by omega)] at h; cases h
theorem asc_of : ∀ {l : List Per}, (∀ (j : Nat) (p q : Per), l[j]? = some p → l[j + 1]? = some q → ltS p.w q.w = true) → ascB l = true
  | [], _ => rfl
  | [a], _ => rfl
  | a :: b :: l, h => by
    show (ltS a.w b.w && ascB (b :: l)) = true
    rw [h 0 a b rfl rfl, asc_of (l := b :: l) fun j p q hp hq => h (j + 1) p q (by simpa using hp) (by simpa using hq)]
    rfl
theorem rosD_drop (l : List Per) (i : Nat) : List.drop (i * 3) (rosD l) = rosD (l.drop i) := by
  by_cases h : i ≤ l.length
  · have e : rosD l = rosD (l.take i) ++ rosD (l.drop i) := by
      unfold rosD; rw [← flatD_append, List.take_append_drop]
    rw [e, List.drop_append, List.drop_of_length_le (by rw [rosD_len, List.length_take]; omega), rosD_len, List.length_take, Nat.min_eq_left h]
    simp
  · rw [List.drop_of_length_le (by rw [rosD_len]; omega), List.drop_of_length_le (by omega)]
    rfl
theorem rosD_taken (l : List Per) (i : Nat) : List.take (i * 3) (rosD l) = rosD (l.take i) := by
  by_cases h : i ≤ l.length
  · have e : rosD l = rosD (l.take i) ++ rosD (l.drop i) := by
      unfold rosD; rw [← flatD_append, List.take_append_drop]
    rw [e, List.take_append_of_le_length (by rw [rosD_len, List.length_take]; omega), List.take_of_length_le (by rw [rosD_len, List.length_take]; omega)]
  · rw [List.take_of_length_le (by rw [rosD_len]; omega), List.take_of_length_le (by omega)]
theorem at_is {l : List Per} {w : ByteArray} {i : Nat} {p : Per} (hr : rosB l = true) (hi : l[i]? = some p) (hw : p.w = w) (hn : ∀ (j : Nat) (q : Per), j < i → l[j]? = some q → q.w ≠ w) : atP l w = i := by
  have e := place_is hi hw hn
  have := (List.getElem?_eq_some_iff.mp hi).1
  unfold atP
  rw [if_pos ⟨hr, by omega⟩, e]
theorem at_no {l : List Per} {w : ByteArray} (h : rosB l = true → ∀ q ∈ l, q.w ≠ w) : atP l w = -1 := by
  unfold atP
  rw [if_neg]
  rintro ⟨h1, h2⟩
  rw [place_no (h h1)] at h2
  omega
theorem ok_srosv : FnOk Try.prog 40 s_srosv := by
  refine fnOk (fn := Try.f40) (F := F_srosv) (hs := hs_srosv) (tab_cons ok_sword (tab_cons ok_sin tab_nil)) mixed rfl rfl rfl [.list 30] (by kernel_rfl) (by simp) ?_
  rintro n cs ⟨l, e, hl, hm⟩
  simp only [List.cons.injEq, D.list.injEq, true_and, and_true] at e
  obtain ⟨rfl, rfl⟩ := e
  refine ⟨fun h ys => h = 0 ∧ ∃ i : Nat, ys = [.list 30 l.length (rosD l), .int .i64 i] ∧ i ≤ l.length ∧ (∀ (j : Nat) (p : Per), j < i → l[j]? = some p → perB p = true) ∧ ∀ (j : Nat) (p q : Per), j + 1 < i → l[j]? = some p → l[j + 1]? = some q → ltS p.w q.w = true, fun h ys => l.length - (selI ys 1).toNat, ?_, ?_⟩
  · rw [t_srosv]
    simp only [F_srosv_sword, F_srosv_sin, s_sword, s_sin, Tree.holds, ltI_t, ltI_f, leI_t, leI_f, all_cons, all_nil, and_true, true_and, forall_eq, decide_eq_true_eq, decide_eq_false_iff_not, beq_iff_eq, beq_eq_false_iff_ne, bne_iff_ne, bne_eq_false_iff_eq, ne_eq, Decidable.not_not, selI_z, selB_z, selS_z, selN_z, selL_z, selI_s, selB_s, selS_s, selN_s, selL_s, Int.toNat_natCast, Nat.mul_one, Nat.zero_add, Nat.div_one, List.drop_zero, Nat.zero_mul, Nat.le_refl, Bool.not_eq_true', Bool.not_eq_false', Bool.false_eq_true, Bool.true_eq_false, not_true_eq_false, not_false_eq_true, false_imp_iff, true_imp_iff, if_true, if_false, sig, sigF, sigW, sigR, sigO, sigD, sigWD, List.map_cons, List.map_nil]
    exact ⟨0, rfl, by omega, fun j p h => by omega, fun j p q h => by omega⟩
  · rintro h ys ⟨rfl, i, rfl, hi, hv, ha⟩
    rw [t_srosv0]
    simp only [F_srosv_sword, F_srosv_sin, s_sword, s_sin, Tree.holds, ltI_t, ltI_f, leI_t, leI_f, all_cons, all_nil, and_true, true_and, forall_eq, decide_eq_true_eq, decide_eq_false_iff_not, beq_iff_eq, beq_eq_false_iff_ne, bne_iff_ne, bne_eq_false_iff_eq, ne_eq, Decidable.not_not, selI_z, selB_z, selS_z, selN_z, selL_z, selI_s, selB_s, selS_s, selN_s, selL_s, Int.toNat_natCast, Nat.mul_one, Nat.zero_add, Nat.div_one, List.drop_zero, Nat.zero_mul, Nat.le_refl, Bool.not_eq_true', Bool.not_eq_false', Bool.false_eq_true, Bool.true_eq_false, not_true_eq_false, not_false_eq_true, false_imp_iff, true_imp_iff, if_true, if_false, sig, sigF, sigW, sigR, sigO, sigD, sigWD, List.map_cons, List.map_nil, sel_kstr, sel_kint, sel_kbool, unR_ros, ByteArray.toList_eq]
    refine ⟨fun hj => ?_, fun hj => ret_bool' ?_⟩
    · obtain ⟨p, p1, p2⟩ := ros_get (l := l) (i := i) (by omega)
      obtain ⟨c0, c1, c2⟩ := ros_cell p1
      have hsz : p.w.size ≤ maxLen := by have := hm p p2; unfold maxLen; omega
      have next : perB p = true → (∀ q : Per, 0 < i → l[i - 1]? = some q → ltS q.w p.w = true) → inK .i64 ((i : Int) + 1) ∧ (∃ i_1 : Nat, [D.list 30 l.length (rosD l), .int .i64 ((i : Int) + 1)] = [.list 30 l.length (rosD l), .int .i64 i_1] ∧ i_1 ≤ l.length ∧ (∀ (j : Nat) (p : Per), j < i_1 → l[j]? = some p → perB p = true) ∧ ∀ (j : Nat) (p q : Per), j + 1 < i_1 → l[j]? = some p → l[j + 1]? = some q → ltS p.w q.w = true) ∧ l.length - ((i : Int) + 1).toNat < l.length - i := fun h1 h2 => by
        refine ⟨by unfold inK; omega, ⟨i + 1, rfl, by omega, fun j q hj hq => ?_, fun j q q' hj hq hq' => ?_⟩, by omega⟩
        · by_cases e : j = i
          · rw [e, p1] at hq; injection hq with hq; rw [← hq]; exact h1
          · exact hv j q (by omega) hq
        · by_cases e : j + 1 = i
          · rw [e, p1] at hq'; injection hq' with hq'; rw [← hq']
            exact h2 q (by omega) (by rw [← e]; exact hq)
          · exact ha j q q' (by omega) hq hq'
      have ps : perB p = (wordB p.w.data.toList && inB p.r 0 2) := rfl
      rw [selS_of c0, selI_of c1]
      refine ⟨⟨by omega, by omega⟩, c0, hsz, fun h => ret_bool' (per_no p2 (by rw [ps, h]; rfl)).symm, fun h1 => ⟨⟨by omega, by omega⟩, c1, fun h => ret_bool' (per_no p2 (by rw [ps, h]; simp)).symm, fun h2 => ?_⟩⟩
      have hp : perB p = true := by rw [ps, h1, h2]; rfl
      refine ⟨fun hpos => ?_, fun hz => next hp fun q h => by omega⟩
      obtain ⟨q, q1, q2⟩ := ros_get (l := l) (i := i - 1) (by omega)
      obtain ⟨d0, -⟩ := ros_cell q1
      rw [show ((i : Int) - 1).toNat = i - 1 by omega, selS_of d0, le_not]
      refine ⟨⟨by omega, by omega⟩, c0, by unfold inK; omega, ⟨by omega, by omega⟩, d0, fun h => ret_bool' (asc_no q1 (by rw [show i - 1 + 1 = i by omega]; exact p1) (by simpa using h)).symm, fun h => next hp fun q' h0 hq' => ?_⟩
      rw [q1] at hq'; injection hq' with hq'; rw [← hq']
      simpa using h
    · have h1 : l.all perB = true := List.all_eq_true.mpr fun p hp => by
        obtain ⟨j, hj', rfl⟩ := List.getElem_of_mem hp
        exact hv j _ (by omega) (List.getElem?_eq_getElem hj')
      have h2 : ascB l = true := asc_of fun j p q hp hq => ha j p q (by have := (List.getElem?_eq_some_iff.mp hq).1; omega) hp hq
      unfold rosB
      rw [h1, h2, Bool.eq_iff_iff, leI_t]
      simp
      omega
theorem ok_sperat : FnOk Try.prog 34 s_sperat := by
  refine fnOk (fn := Try.f34) (F := F_sperat) (hs := hs_sperat) (tab_cons ok_srosv tab_nil) mixed rfl rfl rfl [.list 30, .str] (by kernel_rfl) (by simp) ?_
  rintro n cs w ⟨l, w', e, hl, hm⟩
  simp only [List.cons.injEq, D.list.injEq, D.str.injEq, true_and, and_true] at e
  obtain ⟨⟨rfl, rfl⟩, rfl⟩ := e
  refine ⟨fun h ys => h = 0 ∧ ∃ i : Nat, ys = [.list 30 l.length (rosD l), .str w, .int .i64 i] ∧ i ≤ l.length ∧ (i ≠ 0 → rosB l = true) ∧ ∀ (j : Nat) (q : Per), j < i → l[j]? = some q → q.w ≠ w, fun h ys => l.length - (selI ys 2).toNat, ?_, ?_⟩
  · rw [t_sperat]
    simp only [F_sperat_srosv, s_srosv, Tree.holds, ltI_t, ltI_f, leI_t, leI_f, all_cons, all_nil, and_true, true_and, forall_eq, decide_eq_true_eq, decide_eq_false_iff_not, beq_iff_eq, beq_eq_false_iff_ne, bne_iff_ne, bne_eq_false_iff_eq, ne_eq, Decidable.not_not, selI_z, selB_z, selS_z, selN_z, selL_z, selI_s, selB_s, selS_s, selN_s, selL_s, Int.toNat_natCast, Nat.mul_one, Nat.zero_add, Nat.div_one, List.drop_zero, Nat.zero_mul, Nat.le_refl, Bool.not_eq_true', Bool.not_eq_false', Bool.false_eq_true, Bool.true_eq_false, not_true_eq_false, not_false_eq_true, false_imp_iff, true_imp_iff, if_true, if_false, sig, sigF, sigW, sigR, sigO, sigD, sigWD, List.map_cons, List.map_nil]
    exact ⟨0, rfl, by omega, fun h => absurd rfl h, fun j q h => by omega⟩
  · rintro h ys ⟨rfl, i, rfl, hi, hr, hv⟩
    rw [t_sperat0]
    simp only [F_sperat_srosv, s_srosv, Tree.holds, ltI_t, ltI_f, leI_t, leI_f, all_cons, all_nil, and_true, true_and, forall_eq, decide_eq_true_eq, decide_eq_false_iff_not, beq_iff_eq, beq_eq_false_iff_ne, bne_iff_ne, bne_eq_false_iff_eq, ne_eq, Decidable.not_not, selI_z, selB_z, selS_z, selN_z, selL_z, selI_s, selB_s, selS_s, selN_s, selL_s, Int.toNat_natCast, Nat.mul_one, Nat.zero_add, Nat.div_one, List.drop_zero, Nat.zero_mul, Nat.le_refl, Bool.not_eq_true', Bool.not_eq_false', Bool.false_eq_true, Bool.true_eq_false, not_true_eq_false, not_false_eq_true, false_imp_iff, true_imp_iff, if_true, if_false, sig, sigF, sigW, sigR, sigO, sigD, sigWD, List.map_cons, List.map_nil, sel_kstr, unR_ros, ByteArray.toList_eq]
    have no : (rosB l = true → i = l.length) → [D.int .i64 (-1)] = [D.int .i64 (atP l w)] := fun h => by
      rw [at_no fun hr q hq => ?_]
      obtain ⟨j, hj, rfl⟩ := List.getElem_of_mem hq
      exact hv j _ (by rw [h hr]; exact hj) (List.getElem?_eq_getElem hj)
    refine ⟨fun hj => ⟨⟨l, rfl, hl, hm⟩, fun v1 => ?_, fun v1 => no fun v2 => (by rw [v1] at v2; cases v2)⟩, fun hj => no fun _ => by omega⟩
    obtain ⟨p, p1, p2⟩ := ros_get (l := l) (i := i) (by omega)
    obtain ⟨c0, -⟩ := ros_cell p1
    rw [selS_of c0]
    refine ⟨⟨by omega, by omega⟩, c0, fun h => ?_, fun h => ⟨by unfold inK; omega, ⟨i + 1, rfl, by omega, fun _ => v1, fun j q hj hq => ?_⟩, by omega⟩⟩
    · rw [at_is v1 p1 (text_eqR h) hv]
    · by_cases e : j = i
      · rw [e, p1] at hq; injection hq with hq; rw [← hq]
        exact fun e => h (by rw [e])
      · exact hv j q (by omega) hq
theorem ok_sjoin : FnOk Try.prog 45 s_sjoin := by
  refine fnOk (fn := Try.f45) (F := F_sjoin) (hs := hs_sjoin) (tab_cons ok_srosv tab_nil) mixed rfl rfl rfl [.list 30, .str, .int .i64, .bool] (by kernel_rfl) (by simp) ?_
  rintro n cs pw pr pm ⟨l, p, e, ⟨hl, hm⟩, hp⟩
  simp only [perD, List.cons.injEq, D.list.injEq, D.str.injEq, D.int.injEq, D.bool.injEq, true_and, and_true] at e
  obtain ⟨⟨rfl, rfl⟩, rfl, rfl, rfl⟩ := e
  refine ⟨fun h ys => h = 0 ∧ ∃ i : Nat, ys = [.list 30 l.length (rosD l), .int .i64 i, .str p.w, .int .i64 p.r, .bool p.m] ∧ i ≤ l.length ∧ rosB l = true ∧ ∀ (j : Nat) (q : Per), j < i → l[j]? = some q → ltS q.w p.w = true, fun h ys => l.length - (selI ys 1).toNat, ?_, ?_⟩
  · rw [t_sjoin]
    simp only [F_sjoin_srosv, s_srosv, Tree.holds, ltI_t, ltI_f, leI_t, leI_f, all_cons, all_nil, and_true, true_and, forall_eq, decide_eq_true_eq, decide_eq_false_iff_not, beq_iff_eq, beq_eq_false_iff_ne, bne_iff_ne, bne_eq_false_iff_eq, ne_eq, Decidable.not_not, selI_z, selB_z, selS_z, selN_z, selL_z, selI_s, selB_s, selS_s, selN_s, selL_s, Int.toNat_natCast, Nat.mul_one, Nat.zero_add, Nat.div_one, List.drop_zero, Nat.zero_mul, Nat.le_refl, Bool.not_eq_true', Bool.not_eq_false', Bool.false_eq_true, Bool.true_eq_false, not_true_eq_false, not_false_eq_true, false_imp_iff, true_imp_iff, if_true, if_false, sig, sigF, sigW, sigR, sigO, sigD, sigWD, List.map_cons, List.map_nil, unR_ros]
    refine ⟨⟨l, rfl, hl, hm⟩, fun h => ⟨(by simp [scal]), ?_⟩, fun h => ⟨0, rfl, by omega, h, fun j q h => by omega⟩⟩
    unfold joinP
    rw [if_neg (by rw [h]; simp)]
    rfl
  · rintro h ys ⟨rfl, i, rfl, hi, hr, hv⟩
    have hu : unP (List.drop 1 [.list 30 l.length (rosD l), .str p.w, .int .i64 p.r, .bool p.m]) = p := rfl
    have h8 := (ros_iff.mp hr).2.2
    rw [t_sjoin0]
    simp only [F_sjoin_srosv, s_srosv, Tree.holds, ltI_t, ltI_f, leI_t, leI_f, all_cons, all_nil, and_true, true_and, forall_eq, decide_eq_true_eq, decide_eq_false_iff_not, beq_iff_eq, beq_eq_false_iff_ne, bne_iff_ne, bne_eq_false_iff_eq, ne_eq, Decidable.not_not, selI_z, selB_z, selS_z, selN_z, selL_z, selI_s, selB_s, selS_s, selN_s, selL_s, Int.toNat_natCast, Nat.mul_one, Nat.zero_add, Nat.div_one, List.drop_zero, Nat.zero_mul, Nat.le_refl, Bool.not_eq_true', Bool.not_eq_false', Bool.false_eq_true, Bool.true_eq_false, not_true_eq_false, not_false_eq_true, false_imp_iff, true_imp_iff, if_true, if_false, sig, sigF, sigW, sigR, sigO, sigD, sigWD, List.map_cons, List.map_nil, sel_kstr, sel_kint, sel_kbool, unR_ros, hu, ByteArray.toList_eq]
    have t0 : ∀ X : List D, List.take 0 ([] : List D) ++ X = X := fun _ => rfl
    have e0 : ((0 : Int)).toNat = 0 := rfl
    have e1 : ((l.length : Int) - (i : Int)).toNat = l.length - i := by omega
    have T2 : List.take (i * 3) (rosD (l.take i)) = rosD (l.take i) := List.take_of_length_le (by rw [rosD_len, List.length_take]; omega)
    have T3 : rosD (l.take i) ++ [.str p.w, .int .i64 p.r, .bool p.m] = rosD (l.take i ++ [p]) := (rosD_push _ _).symm
    have T4 : List.take ((i + 1) * 3) (rosD (l.take i ++ [p])) = rosD (l.take i ++ [p]) := List.take_of_length_le (by rw [rosD_len, List.length_append, List.length_take]; simp; omega)
    have T5 : List.take ((l.length - i) * 3) (rosD (l.drop i)) = rosD (l.drop i) := List.take_of_length_le (by rw [rosD_len, List.length_drop]; omega)
    have T6 : rosD (l.take i ++ [p]) ++ rosD (l.drop i) = rosD (l.take i ++ [p] ++ l.drop i) := (rosD_append _ _).symm
    have hx : (l.take i ++ [p] ++ l.drop i).length = i + 1 + (l.length - i) := by simp [List.length_take]; omega
    have ln : (rosD (l.take i)).length = i * 3 := by rw [rosD_len, List.length_take, Nat.min_eq_left hi]
    have ln2 : (rosD (l.take i ++ [p])).length = (i + 1) * 3 := by rw [rosD_len, List.length_append, List.length_take, Nat.min_eq_left hi]; rfl
    have ln3 : (rosD (l.take i ++ [p] ++ l.drop i)).length = (i + 1 + (l.length - i)) * 3 := by rw [rosD_len, hx]
    simp only [Option.getD_some, Option.getD_none, Int.sub_zero, Int.toNat_natCast, e0, e1, t0, Nat.zero_mul, List.drop_zero, rosD_taken, rosD_drop, T2, T3, T4, T5, T6, ln, ln2, ln3]
    rw [← hx]
    simp only [rosD_take, unR_ros]
    have sx : smR (l.take i ++ [p] ++ l.drop i) := ⟨by omega, fun q hq => by
      rcases List.mem_append.mp hq with hq | hq
      · rcases List.mem_append.mp hq with hq | hq
        · exact hm q (List.mem_of_mem_take hq)
        · simp at hq; subst hq; exact hp
      · exact hm q (List.mem_of_mem_drop hq)⟩
    have X : (∀ q, l[i]? = some q → ltS q.w p.w = false) → l.take i ++ [p] ++ l.drop i = insP p l := fun h => by
      unfold insP
      rw [gap_is hi hv h]
      simp
    simp only [List.take_length]
    generalize l.take i ++ [p] ++ l.drop i = x at *
    have fin : x = insP p l → (rosB x = false → [D.list 30 l.length (rosD l), .bool false] = rosR (joinP l p)) ∧ (rosB x = true → [D.list 30 x.length (rosD x), .bool true] = rosR (joinP l p)) := fun e => by
      subst e
      unfold joinP
      rw [if_pos hr]
      exact ⟨fun h => by rw [if_neg (by rw [h]; simp)]; rfl, fun h => by rw [if_pos h]; rfl⟩
    have hlen := rosD_len l
    refine ⟨fun hj => ?_, fun hj => ?_⟩
    · obtain ⟨q, q1, q2⟩ := ros_get (l := l) (i := i) (by omega)
      obtain ⟨c0, -⟩ := ros_cell q1
      rw [selS_of c0]
      refine ⟨⟨by omega, by omega⟩, c0, fun h => ⟨by unfold inK; omega, ⟨i + 1, rfl, by omega, hr, fun j q' hj' hq' => ?_⟩, by omega⟩, fun h => ?_⟩
      · by_cases e : j = i
        · rw [e, q1] at hq'; injection hq' with hq'; rw [← hq']; exact h
        · exact hv j q' (by omega) hq'
      · have e := X fun q' hq' => by rw [q1] at hq'; injection hq' with hq'; rw [← hq']; exact h
        exact ⟨⟨by omega, by omega, by omega⟩, by omega, ⟨by omega, by omega⟩, ⟨by omega, by omega, by omega⟩, ⟨by omega, by omega⟩, by omega, ⟨x, rfl, sx⟩, fun h => ⟨hl, ⟨by omega, rosD_scal _⟩, (fin e).1 h⟩, fun h => ⟨⟨by omega, rosD_scal _⟩, (fin e).2 h⟩⟩
    · have e := X fun q' hq' => by have := (List.getElem?_eq_some_iff.mp hq').1; omega
      exact ⟨⟨by omega, by omega, by omega⟩, by omega, ⟨by omega, by omega⟩, ⟨by omega, by omega, by omega⟩, ⟨by omega, by omega⟩, by omega, ⟨x, rfl, sx⟩, fun h => ⟨hl, ⟨by omega, rosD_scal _⟩, (fin e).1 h⟩, fun h => ⟨⟨by omega, rosD_scal _⟩, (fin e).2 h⟩⟩
theorem ros_split {l : List Per} {i : Nat} {p : Per} (h : l[i]? = some p) : rosD l = rosD (l.take i) ++ (perD p ++ rosD (l.drop (i + 1))) := by
  have hi := (List.getElem?_eq_some_iff.mp h).1
  have e : l = l.take i ++ p :: l.drop (i + 1) := by
    have : l[i] = p := by rw [List.getElem?_eq_getElem hi] at h; injection h
    rw [← this, ← List.drop_eq_getElem_cons hi, List.take_append_drop]
  conv => lhs; rw [e]
  rw [rosD_append]
  rfl
/-- A role set. -/
theorem ros_setR {l : List Per} {i : Nat} {p : Per} (h : l[i]? = some p) (r : Int) : setL (rosD l) (i * 3 + 1) [.int .i64 r] = rosD (l.set i { p with r := r }) := by
  have hi := (List.getElem?_eq_some_iff.mp h).1
  have hA : (rosD (l.take i)).length = i * 3 := by rw [rosD_len, List.length_take]; omega
  have h2 : (l.set i { p with r := r })[i]? = some { p with r := r } := by rw [List.getElem?_set_self hi]
  rw [ros_split h, ros_split h2, List.take_set_of_le (Nat.le_refl _), List.drop_set_of_lt (by omega)]
  unfold setL
  rw [List.take_append, List.drop_append, List.take_of_length_le (l := rosD (l.take i)) (by omega), List.drop_of_length_le (l := rosD (l.take i)) (by show (rosD (l.take i)).length ≤ i * 3 + 1 + 1; omega), hA]
  rw [show i * 3 + 1 - i * 3 = 1 by omega, show i * 3 + 1 + [D.int .i64 r].length - i * 3 = 2 by show i * 3 + 1 + 1 - i * 3 = 2; omega]
  simp [perD]
end Go.Proofs.Ytdhjfbnlkecggaa.Mini
end
