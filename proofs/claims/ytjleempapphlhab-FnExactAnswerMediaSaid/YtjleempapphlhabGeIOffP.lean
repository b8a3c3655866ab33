/- Parts of the proof: IOffP. -/
import Derived.Test.YtjleempapphlhabGeIOff
section
namespace Go.Proofs.Ytjleempapphlhab.Mini
open Go Go.RowKit
set_option linter.unusedVariables false
set_option linter.unusedSimpArgs false
set_option maxRecDepth 20000
theorem ok_ihas : FnOk Try.prog 55 s_ihas := by
  refine fnOk (fn := Try.f55) (F := F_ihas) (hs := hs_ihas) tab_nil mixed rfl rfl rfl [.list 9, .str] (by kernel_rfl) (by simp) ?_
  rintro n cs s ⟨ls, s', e, hl, hs⟩
  simp only [List.cons.injEq, D.list.injEq, D.str.injEq, true_and, and_true] at e
  obtain ⟨⟨rfl, rfl⟩, rfl⟩ := e
  refine ⟨fun h ys => h = 0 ∧ ∃ i : Nat, ys = [.list 9 ls.length (textsD ls), .str s, .int .i64 i] ∧ i ≤ ls.length ∧ ∀ (a : Nat) (x : ByteArray), a < i → ls[a]? = some x → x.data.toList ≠ s.data.toList, fun h ys => ls.length - (selI ys 2).toNat, ?_, ?_⟩
  · rw [t_ihas]
    simp only [Tree.holds, ltI_t, ltI_f, leI_t, leI_f, all_cons, all_nil, and_true, true_and, forall_eq, decide_eq_true_eq, decide_eq_false_iff_not, beq_iff_eq, beq_eq_false_iff_ne, bne_iff_ne, bne_eq_false_iff_eq, ne_eq, Decidable.not_not, selI_z, selB_z, selS_z, selN_z, selL_z, selI_s, selB_s, selS_s, selN_s, selL_s, Int.toNat_natCast, Nat.mul_one, Nat.zero_add, Nat.div_one, List.drop_zero, Nat.zero_mul, Nat.le_refl, Bool.not_eq_true', Bool.not_eq_false', Bool.false_eq_true, Bool.true_eq_false, not_true_eq_false, not_false_eq_true, false_imp_iff, true_imp_iff, if_true, if_false, sig, sigF, sigW, sigR, sigO, sigD, sigWD, List.map_cons, List.map_nil]
    exact ⟨0, rfl, by omega, fun a x h => by omega⟩
  · rintro h ys ⟨rfl, i, rfl, hi, hv⟩
    rw [t_ihas0]
    simp only [Tree.holds, ltI_t, ltI_f, leI_t, leI_f, all_cons, all_nil, and_true, true_and, forall_eq, decide_eq_true_eq, decide_eq_false_iff_not, beq_iff_eq, beq_eq_false_iff_ne, bne_iff_ne, bne_eq_false_iff_eq, ne_eq, Decidable.not_not, selI_z, selB_z, selS_z, selN_z, selL_z, selI_s, selB_s, selS_s, selN_s, selL_s, Int.toNat_natCast, Nat.mul_one, Nat.zero_add, Nat.div_one, List.drop_zero, Nat.zero_mul, Nat.le_refl, Bool.not_eq_true', Bool.not_eq_false', Bool.false_eq_true, Bool.true_eq_false, not_true_eq_false, not_false_eq_true, false_imp_iff, true_imp_iff, if_true, if_false, sig, sigF, sigW, sigR, sigO, sigD, sigWD, List.map_cons, List.map_nil, sel_kstr, unS_texts, ByteArray.toList_eq]
    refine ⟨fun hj => ?_, fun hj => ret_bool' ?_⟩
    · obtain ⟨x, x1, x2, x3⟩ := textsD_get (ls := ls) (i := i) (by omega)
      rw [selS_of x2]
      refine ⟨⟨by omega, by omega⟩, x2, fun e => ret_bool' ?_, fun e => ⟨by unfold inK; omega, ⟨i + 1, rfl, by omega, fun a y ha hy => ?_⟩, by omega⟩⟩
      · unfold hasB
        rw [eq_comm, List.any_eq_true]
        exact ⟨x, x3, by rw [e]; exact beq_self_eq_true _⟩
      · by_cases hai : a = i
        · rw [hai, x1] at hy; injection hy with hy; rw [← hy]; exact e
        · exact hv a y (by omega) hy
    · unfold hasB
      rw [eq_comm, List.any_eq_false]
      intro x hx
      obtain ⟨a, ha, rfl⟩ := List.getElem_of_mem hx
      simpa using hv a _ (by omega) (List.getElem?_eq_getElem ha)
theorem ok_icod : FnOk Try.prog 42 s_icod := by
  refine fnOk (fn := Try.f42) (F := F_icod) (hs := hs_icod) (tab_cons ok_tdif tab_nil) mixed rfl rfl rfl [.list 9] (by kernel_rfl) (by simp) ?_
  rintro n cs ⟨ls, e, hl, hs⟩
  simp only [List.cons.injEq, D.list.injEq, true_and, and_true] at e
  obtain ⟨rfl, rfl⟩ := e
  refine ⟨fun _ _ => False, fun _ _ => 0, ?_, fun _ _ h => h.elim⟩
  rw [t_icod]
  simp only [F_icod_tdif, s_tdif, Tree.holds, ltI_t, ltI_f, leI_t, leI_f, all_cons, all_nil, and_true, true_and, forall_eq, decide_eq_true_eq, decide_eq_false_iff_not, beq_iff_eq, beq_eq_false_iff_ne, bne_iff_ne, bne_eq_false_iff_eq, ne_eq, Decidable.not_not, selI_z, selB_z, selS_z, selN_z, selL_z, selI_s, selB_s, selS_s, selN_s, selL_s, Int.toNat_natCast, Nat.mul_one, Nat.zero_add, Nat.div_one, List.drop_zero, Nat.zero_mul, Nat.le_refl, Bool.not_eq_true', Bool.not_eq_false', Bool.false_eq_true, Bool.true_eq_false, not_true_eq_false, not_false_eq_true, false_imp_iff, true_imp_iff, if_true, if_false, sig, sigF, sigW, sigR, sigO, sigD, sigWD, List.map_cons, List.map_nil, unS_texts]
  refine ⟨fun h => ⟨⟨ls, 4, rfl, hl, hs⟩, ret_bool' ?_⟩, fun h => ret_bool' ?_⟩
  · unfold codB difB
    by_cases h4 : (ls.length : Int) ≤ 4
    · rw [show inB ls.length 1 4 = true from inB_iff.mpr ⟨by omega, h4⟩, decide_eq_true h4]; simp
    · rw [show inB ls.length 1 4 = false by
        rw [Bool.eq_false_iff]
        intro h2
        exact h4 (inB_iff.mp h2).2, decide_eq_false h4]; simp
  · unfold codB
    rw [show inB ls.length 1 4 = false by
      rw [Bool.eq_false_iff]
      intro h2
      have := inB_iff.mp h2
      omega]
    simp
theorem med_open {k : ByteArray} {p : Int} {s h : Bool} {n : Nat} {cs : List D} {m : Med} (e : [D.str k, .int .i64 p, .bool s, .bool h, .list 9 n cs] = medD m) : k = m.k ∧ p = m.p ∧ s = m.s ∧ h = m.h ∧ n = m.c.length ∧ cs = textsD m.c := by
  simp only [medD, List.cons.injEq, D.str.injEq, D.int.injEq, D.bool.injEq, D.list.injEq, true_and, and_true] at e
  exact e
theorem ok_imed : FnOk Try.prog 13 s_imed := by
  refine fnOk (fn := Try.f13) (F := F_imed) (hs := hs_imed) (tab_cons ok_iword (tab_cons ok_icod tab_nil)) mixed rfl rfl rfl [.str, .int .i64, .bool, .bool, .list 9] (by kernel_rfl) (by simp) ?_
  rintro k p s h n cs ⟨m, e, hm⟩
  obtain ⟨mk, mp, ms, mh, mc⟩ := m
  obtain ⟨rfl, rfl, rfl, rfl, rfl, rfl⟩ := med_open e
  obtain ⟨h1, h2, h3⟩ := hm
  have hu : unM [.str k, .int .i64 p, .bool s, .bool h, .list 9 mc.length (textsD mc)] = ⟨k, p, s, h, mc⟩ := unM_med ⟨k, p, s, h, mc⟩
  refine ⟨fun _ _ => False, fun _ _ => 0, ?_, fun _ _ h => h.elim⟩
  rw [t_imed]
  simp only [F_imed_iword, F_imed_icod, s_iword, s_icod, Tree.holds, ltI_t, ltI_f, leI_t, leI_f, all_cons, all_nil, and_true, true_and, forall_eq, decide_eq_true_eq, decide_eq_false_iff_not, beq_iff_eq, beq_eq_false_iff_ne, bne_iff_ne, bne_eq_false_iff_eq, ne_eq, Decidable.not_not, selI_z, selB_z, selS_z, selN_z, selL_z, selI_s, selB_s, selS_s, selN_s, selL_s, Int.toNat_natCast, Nat.mul_one, Nat.zero_add, Nat.div_one, List.drop_zero, Nat.zero_mul, Nat.le_refl, Bool.not_eq_true', Bool.not_eq_false', Bool.false_eq_true, Bool.true_eq_false, not_true_eq_false, not_false_eq_true, false_imp_iff, true_imp_iff, if_true, if_false, sig, sigF, sigW, sigR, sigO, sigD, sigWD, List.map_cons, List.map_nil, hu, unS_texts]
  have hm : medB ⟨k, p, s, h, mc⟩ = (wordS k && (inB p 0 65535 && codB mc)) := by
    unfold medB codB
    simp only
    cases mc.all wordS <;> cases distB mc <;> cases wordS k <;> cases inB p 0 65535 <;> simp
  refine ⟨m20 h1, fun e0 => ⟨fun e1 => ⟨fun e2 => ⟨⟨mc, rfl, h2, h3⟩, ret_bool' ?_⟩, fun e2 => ret_bool' ?_⟩, fun e1 => ret_bool' ?_⟩, fun e0 => ret_bool' ?_⟩
  · rw [hm, show wordS k = true from e0, show inB p 0 65535 = true from inB_iff.mpr ⟨by omega, by omega⟩]; rfl
  · rw [hm, show inB p 0 65535 = false by rw [Bool.eq_false_iff]; intro h; have := inB_iff.mp h; omega]; simp
  · rw [hm, show inB p 0 65535 = false by rw [Bool.eq_false_iff]; intro h; have := inB_iff.mp h; omega]; simp
  · rw [hm, show wordS k = false from e0]; rfl
theorem ok_ioff : FnOk Try.prog 25 s_ioff := by
  refine fnOk (fn := Try.f25) (F := F_ioff) (hs := hs_ioff) (tab_cons ok_imed tab_nil) mixed rfl rfl rfl [.list 25] (by kernel_rfl) (by simp) ?_
  rintro n cs ⟨l, e, hl, hm⟩
  simp only [List.cons.injEq, D.list.injEq, true_and, and_true] at e
  obtain ⟨rfl, rfl⟩ := e
  refine ⟨fun h ys => h = 0 ∧ ∃ i : Nat, ys = [.list 25 l.length (offD l), .int .i64 i] ∧ i ≤ l.length ∧ l.length ≤ 4 ∧ (∀ (a : Nat) (m : Med), a < i → l[a]? = some m → medB m = true), fun h ys => l.length - (selI ys 1).toNat, ?_, ?_⟩
  · rw [t_ioff]
    simp only [F_ioff_imed, s_imed, Tree.holds, ltI_t, ltI_f, leI_t, leI_f, all_cons, all_nil, and_true, true_and, forall_eq, decide_eq_true_eq, decide_eq_false_iff_not, beq_iff_eq, beq_eq_false_iff_ne, bne_iff_ne, bne_eq_false_iff_eq, ne_eq, Decidable.not_not, selI_z, selB_z, selS_z, selN_z, selL_z, selI_s, selB_s, selS_s, selN_s, selL_s, Int.toNat_natCast, Nat.mul_one, Nat.zero_add, Nat.div_one, List.drop_zero, Nat.zero_mul, Nat.le_refl, Bool.not_eq_true', Bool.not_eq_false', Bool.false_eq_true, Bool.true_eq_false, not_true_eq_false, not_false_eq_true, false_imp_iff, true_imp_iff, if_true, if_false, sig, sigF, sigW, sigR, sigO, sigD, sigWD, List.map_cons, List.map_nil, unO_off]
    refine ⟨fun h => ret_bool' ?_, fun h => ⟨0, rfl, by omega, by omega, fun a m h => by omega⟩⟩
    unfold offB
    rw [show decide (l.length ≤ 4) = false from decide_eq_false (by omega)]
    simp
  · rintro h ys ⟨rfl, i, rfl, hi, l4, hv⟩
    rw [t_ioff0]
    simp only [F_ioff_imed, s_imed, Tree.holds, ltI_t, ltI_f, leI_t, leI_f, all_cons, all_nil, and_true, true_and, forall_eq, decide_eq_true_eq, decide_eq_false_iff_not, beq_iff_eq, beq_eq_false_iff_ne, bne_iff_ne, bne_eq_false_iff_eq, ne_eq, Decidable.not_not, selI_z, selB_z, selS_z, selN_z, selL_z, selI_s, selB_s, selS_s, selN_s, selL_s, Int.toNat_natCast, Nat.mul_one, Nat.zero_add, Nat.div_one, List.drop_zero, Nat.zero_mul, Nat.le_refl, Bool.not_eq_true', Bool.not_eq_false', Bool.false_eq_true, Bool.true_eq_false, not_true_eq_false, not_false_eq_true, false_imp_iff, true_imp_iff, if_true, if_false, sig, sigF, sigW, sigR, sigO, sigD, sigWD, List.map_cons, List.map_nil, sel_kstr, sel_kint, sel_kbool, unO_off]
    refine ⟨fun hj => ?_, fun hj => ret_bool' ?_⟩
    · obtain ⟨m, m1, m2⟩ := off_get (l := l) (i := i) (by omega)
      obtain ⟨c0, c1, c2, c3, c4⟩ := off_at m1
      rw [selS_of c0, selI_of c1, selB_of c2, selB_of c3, selN_of c4, selL_of c4]
      have e := unM_med m
      unfold medD at e
      rw [e]
      refine ⟨⟨by omega, by omega⟩, ⟨c0, c1, c2, c3, .inl c4⟩, ⟨m, rfl, hm m m2⟩, fun e0 => ret_bool' ?_, fun e0 => ⟨by unfold inK; omega, ⟨i + 1, rfl, by omega, l4, fun a m' ha hm' => ?_⟩, by omega⟩⟩
      · rw [med_no m2 e0]
      · by_cases hai : a = i
        · rw [hai, m1] at hm'; injection hm' with hm'; rw [← hm']; exact e0
        · exact hv a m' (by omega) hm'
    · have ha : l.all medB = true := List.all_eq_true.mpr (fun x hx => by
        obtain ⟨a, ha, rfl⟩ := List.getElem_of_mem hx
        exact hv a _ (by omega) (List.getElem?_eq_getElem ha))
      unfold offB
      rw [ha]
      simp [l4]
/-- Media, so many of them read. -/
def medsK (n : Nat) (l : List Med) : List D := offD l ++ (rep n [D.str ⟨#[]⟩, .int .i64 0, .bool false, .bool false, .list 0 0 []]).drop (l.length * 5)
theorem medsK_len {n : Nat} {l : List Med} (h : l.length ≤ n) : (medsK n l).length = n * 5 := by
  unfold medsK
  rw [List.length_append, offD_len, List.length_drop, rep_len]
  simp only [List.length_cons, List.length_nil]
  omega
theorem medsK_all (l : List Med) : medsK l.length l = offD l := by
  unfold medsK
  rw [List.drop_of_length_le (by rw [rep_len]; simp), List.append_nil]
theorem medsK_step {n : Nat} {l : List Med} (m : Med) (h : l.length < n) : setL (medsK n l) (l.length * 5) (medD m) = medsK n (l ++ [m]) := by
  have h1 := offD_len l
  unfold setL medsK
  rw [List.take_append_of_le_length (by omega), List.take_of_length_le (by omega)]
  rw [List.drop_append, List.drop_of_length_le (by rw [medD_len]; omega), h1, List.nil_append, List.drop_drop]
  rw [medD_len, show l.length * 5 + (l.length * 5 + 5 - l.length * 5) = (l ++ [m]).length * 5 by simp; omega]
  unfold offD
  rw [flatD_append, flatD_one]
end Go.Proofs.Ytjleempapphlhab.Mini
end
