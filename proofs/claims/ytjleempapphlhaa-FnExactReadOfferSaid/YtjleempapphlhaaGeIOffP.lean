/- Parts of the proof: IOffP. -/
import Derived.Test.YtjleempapphlhaaGeIOff
section
namespace Go.Proofs.Ytjleempapphlhaa.Mini
open Go Go.RowKit
set_option linter.unusedVariables false
set_option linter.unusedSimpArgs false
set_option maxRecDepth 20000
theorem byte_at {s : ByteArray} {k : Nat} (h : k < s.size) : s.data.toList[k]? = some (s[k]'h) ∧ byteI s k = ((s[k]'h).toNat : Int) := by
  have e : s.data.toList[k]? = some (s[k]'h) := by
    rw [List.getElem?_eq_getElem (by simpa using h)]
    rfl
  refine ⟨e, ?_⟩
  unfold byteI
  rw [List.getD_eq_getElem?_getD, e]
  rfl
theorem byte_32 {s : ByteArray} {k : Nat} (h : k < s.size) : byteI s k = 32 ↔ s.data.toList[k]? = some 32 := by
  obtain ⟨e1, e2⟩ := byte_at h
  rw [e1, e2]
  constructor
  · intro e
    congr 1
    apply UInt8.toNat_inj.mp
    have : (s[k]'h).toNat = 32 := by omega
    rw [this]; rfl
  · intro e
    injection e with e
    rw [e]; rfl
theorem ok_iplace : FnOk Try.prog 65 s_iplace := by
  refine fnOk (fn := Try.f65) (F := F_iplace) (hs := hs_iplace) tab_nil mixed rfl rfl rfl [.str, .int .u8] (by kernel_rfl) (by simp) ?_
  rintro s c ⟨hs, hc⟩
  have hs : s.size ≤ maxLen := hs
  have hc : c = 32 := hc
  subst hc
  have hs : s.size ≤ maxLen := hs
  unfold maxLen at hs
  have hl : s.data.toList.length = s.size := by simp
  refine ⟨fun h ys => h = 0 ∧ ∃ k : Nat, ys = [.str s, .int .u8 32, .int .i64 k] ∧ k ≤ s.size ∧ k ≤ spL s.data.toList, fun h ys => s.size - (selI ys 2).toNat, ?_, ?_⟩
  · rw [t_iplace]
    simp only [Tree.holds, ltI_t, ltI_f, leI_t, leI_f, all_cons, all_nil, and_true, true_and, forall_eq, decide_eq_true_eq, decide_eq_false_iff_not, beq_iff_eq, beq_eq_false_iff_ne, bne_iff_ne, bne_eq_false_iff_eq, ne_eq, Decidable.not_not, selI_z, selB_z, selS_z, selN_z, selL_z, selI_s, selB_s, selS_s, selN_s, selL_s, Int.toNat_natCast, Nat.mul_one, Nat.zero_add, Nat.div_one, List.drop_zero, Nat.zero_mul, Nat.le_refl, Bool.not_eq_true', Bool.not_eq_false', Bool.false_eq_true, Bool.true_eq_false, not_true_eq_false, not_false_eq_true, false_imp_iff, true_imp_iff, if_true, if_false, sig, sigF, sigW, sigR, sigO, sigD, sigWD, List.map_cons, List.map_nil]
    exact ⟨0, rfl, by omega, by omega⟩
  · rintro h ys ⟨rfl, k, rfl, hk, hp⟩
    rw [t_iplace0]
    simp only [Tree.holds, ltI_t, ltI_f, leI_t, leI_f, all_cons, all_nil, and_true, true_and, forall_eq, decide_eq_true_eq, decide_eq_false_iff_not, beq_iff_eq, beq_eq_false_iff_ne, bne_iff_ne, bne_eq_false_iff_eq, ne_eq, Decidable.not_not, selI_z, selB_z, selS_z, selN_z, selL_z, selI_s, selB_s, selS_s, selN_s, selL_s, Int.toNat_natCast, Nat.mul_one, Nat.zero_add, Nat.div_one, List.drop_zero, Nat.zero_mul, Nat.le_refl, Bool.not_eq_true', Bool.not_eq_false', Bool.false_eq_true, Bool.true_eq_false, not_true_eq_false, not_false_eq_true, false_imp_iff, true_imp_iff, if_true, if_false, sig, sigF, sigW, sigR, sigO, sigD, sigWD, List.map_cons, List.map_nil]
    refine ⟨fun hj => ?_, fun hj => ?_⟩
    · have hlt : k < s.size := by omega
      refine ⟨⟨by omega, by omega⟩, fun e => ?_, fun e => ⟨by unfold inK; omega, ⟨k + 1, rfl, by omega, ?_⟩, by omega⟩⟩
      · have e := (byte_32 hlt).mp e
        have h2 : spL s.data.toList = k := by
          by_cases hlt2 : k < spL s.data.toList
          · exfalso
            have h3 : spL s.data.toList ≤ s.data.toList.length := List.findIdx_le_length
            have := List.not_of_lt_findIdx (show k < s.data.toList.findIdx (· == 32) from hlt2)
            rw [List.getElem?_eq_getElem (by omega)] at e
            injection e with e
            rw [e] at this
            simp at this
          · omega
        unfold plI
        rw [h2, if_pos hlt]
      · by_cases hlt2 : k < spL s.data.toList
        · omega
        · exfalso
          have h2 : spL s.data.toList = k := by omega
          have h4 : s.data.toList.findIdx (· == 32) < s.data.toList.length := by show spL _ < _; omega
          have h3 := List.findIdx_getElem (w := h4)
          apply e
          apply (byte_32 hlt).mpr
          have h5 : s.data.toList.findIdx (· == 32) = k := h2
          rw [List.getElem?_eq_getElem (by omega)]
          simp only [h5] at h3
          congr 1
          exact eq_of_beq h3
    · unfold plI
      rw [if_neg (by omega)]
theorem words_space {s : ByteArray} (h : spL s.data.toList < s.size) : wordsS s = s.extract 0 (spL s.data.toList) :: wordsS (s.extract (spL s.data.toList + 1) s.size) := by
  obtain ⟨h1, h2⟩ := sp_split s.data.toList (by simpa using h)
  have e1 : (s.extract 0 (spL s.data.toList)).data.toList = s.data.toList.take (spL s.data.toList) := by
    simp only [ByteArray.data_extract, Array.toList_extract, List.extract_eq_take_drop, List.drop_zero, Nat.sub_zero]
  have e2 : (s.extract (spL s.data.toList + 1) s.size).data.toList = s.data.toList.drop (spL s.data.toList + 1) := by
    simp only [ByteArray.data_extract, Array.toList_extract, List.extract_eq_take_drop]
    exact List.take_of_length_le (by simp)
  have e3 : wordsL s.data.toList = s.data.toList.take (spL s.data.toList) :: wordsL (s.data.toList.drop (spL s.data.toList + 1)) := by
    conv => lhs; rw [h1]
    exact wordsL_cut h2
  unfold wordsS
  rw [e3, e2, List.map_cons, ← e1]
  rfl
theorem words_no {s : ByteArray} (h : ¬ spL s.data.toList < s.size) : wordsS s = [s] := by
  unfold wordsS
  rw [wordsL_plain (sp_none _ (by simpa using h))]
  rfl
theorem wordsS_pos (s : ByteArray) : 1 ≤ (wordsS s).length := by
  unfold wordsS
  rw [List.length_map]
  have := wordsL_ne s.data.toList
  cases hw : wordsL s.data.toList with
  | nil => exact absurd hw this
  | cons a l => simp
theorem ok_icut : FnOk Try.prog 60 s_icut := by
  refine fnOk (fn := Try.f60) (F := F_icut) (hs := hs_icut) (tab_cons ok_iplace tab_nil) mixed rfl rfl rfl [.str, .int .i64] (by kernel_rfl) (by simp) ?_
  rintro s m ⟨hs, hm⟩
  have hs : s.size ≤ 1048575 := hs
  have hm : m = 7 := hm
  subst hm
  refine ⟨fun h ys => h = 0 ∧ ∃ (ws : List ByteArray) (r : ByteArray), ys = [.int .i64 7, .int .i64 (0 : Nat), .int .i64 (ws.length : Nat), .str r, .list 9 0 (textsD ws)] ∧ wordsS s = ws ++ wordsS r ∧ ws.length ≤ 7 ∧ r.size ≤ 1048575, fun h ys => 7 - (selI ys 2).toNat, ?_, ?_⟩
  · rw [t_icut]
    simp only [F_icut_iplace, s_iplace, Tree.holds, ltI_t, ltI_f, leI_t, leI_f, all_cons, all_nil, and_true, true_and, forall_eq, decide_eq_true_eq, decide_eq_false_iff_not, beq_iff_eq, beq_eq_false_iff_ne, bne_iff_ne, bne_eq_false_iff_eq, ne_eq, Decidable.not_not, selI_z, selB_z, selS_z, selN_z, selL_z, selI_s, selB_s, selS_s, selN_s, selL_s, Int.toNat_natCast, Nat.mul_one, Nat.zero_add, Nat.div_one, List.drop_zero, Nat.zero_mul, Nat.le_refl, Bool.not_eq_true', Bool.not_eq_false', Bool.false_eq_true, Bool.true_eq_false, not_true_eq_false, not_false_eq_true, false_imp_iff, true_imp_iff, if_true, if_false, sig, sigF, sigW, sigR, sigO, sigD, sigWD, List.map_cons, List.map_nil]
    exact ⟨[], s, rfl, rfl, by simp, hs⟩
  · rintro h ys ⟨rfl, ws, r, rfl, hw, h7, hr⟩
    rw [t_icut0]
    simp only [F_icut_iplace, s_iplace, Tree.holds, ltI_t, ltI_f, leI_t, leI_f, all_cons, all_nil, and_true, true_and, forall_eq, decide_eq_true_eq, decide_eq_false_iff_not, beq_iff_eq, beq_eq_false_iff_ne, bne_iff_ne, bne_eq_false_iff_eq, ne_eq, Decidable.not_not, selI_z, selB_z, selS_z, selN_z, selL_z, selI_s, selB_s, selS_s, selN_s, selL_s, Int.toNat_natCast, Nat.mul_one, Nat.zero_add, Nat.div_one, List.drop_zero, Nat.zero_mul, Nat.le_refl, Bool.not_eq_true', Bool.not_eq_false', Bool.false_eq_true, Bool.true_eq_false, not_true_eq_false, not_false_eq_true, false_imp_iff, true_imp_iff, if_true, if_false, sig, sigF, sigW, sigR, sigO, sigD, sigWD, List.map_cons, List.map_nil, textsD_take]
    have hrm : r.size ≤ maxLen := by unfold maxLen; omega
    refine ⟨fun hlt => ⟨hrm, ?_⟩, fun hge => ?_⟩
    · by_cases hsp : spL r.data.toList < r.size
      · have hpl : plI r = (spL r.data.toList : Int) := by unfold plI; rw [if_pos hsp]
        simp only [hpl]
        have e := words_space hsp
        have ez : ((spL r.data.toList : Int) + 1).toNat = spL r.data.toList + 1 := by omega
        simp only [Option.getD_some, Option.getD_none, Int.toNat_natCast, ez, show (0 : Int).toNat = 0 from rfl]
        refine ⟨fun h => by omega, fun _ => ⟨⟨by omega, by omega, by omega⟩, ⟨by rw [textsD_len]; omega, by omega⟩, by unfold inK; omega, ⟨by omega, by omega, by omega⟩, ⟨ws ++ [r.extract 0 (spL r.data.toList)], r.extract (spL r.data.toList + 1) r.size, ?_, ?_, by simp; omega, by rw [ByteArray.size_extract]; omega⟩, by omega⟩⟩
        · rw [textsD_push]; simp
        · rw [hw, e]; simp
      · have hpl : plI r = -1 := by unfold plI; rw [if_neg hsp]
        simp only [hpl]
        have e := words_no hsp
        have hw2 : wordsS s = ws ++ [r] := by rw [hw, e]
        have hlen : (wordsS s).length = ws.length + 1 := by rw [hw2]; simp
        have e3 : textsD ws ++ [D.str r] = textsD (wordsS s) := by rw [hw2, textsD_push]
        have e4 : List.take (ws.length + 1) (textsD (wordsS s)) = textsD (wordsS s) := List.take_of_length_le (by rw [textsD_len]; omega)
        have e5 : cutD s = [.list 9 (wordsS s).length (textsD (wordsS s))] := by unfold cutD; rw [if_pos (by omega)]
        rw [e3, e4, e5]
        refine ⟨fun _ => ⟨⟨by rw [textsD_len]; omega, by omega⟩, ⟨by rw [textsD_len]; omega, textsD_scal _⟩, by rw [hlen]⟩, fun h => by omega⟩
    · have := wordsS_pos r
      unfold cutD
      rw [if_neg (by rw [hw, List.length_append]; omega)]
theorem ok_iway : FnOk Try.prog 59 s_iway := by
  refine fnOk (fn := Try.f59) (F := F_iway) (hs := hs_iway) tab_nil mixed rfl rfl rfl [.bool, .bool] (by kernel_rfl) (by simp) ?_
  intro s h _
  refine ⟨fun _ _ => False, fun _ _ => 0, ?_, fun _ _ h => h.elim⟩
  rw [t_iway]
  cases s <;> cases h <;> simp only [Tree.holds, ltI_t, ltI_f, leI_t, leI_f, all_cons, all_nil, and_true, true_and, forall_eq, decide_eq_true_eq, decide_eq_false_iff_not, beq_iff_eq, beq_eq_false_iff_ne, bne_iff_ne, bne_eq_false_iff_eq, ne_eq, Decidable.not_not, selI_z, selB_z, selS_z, selN_z, selL_z, selI_s, selB_s, selS_s, selN_s, selL_s, Int.toNat_natCast, Nat.mul_one, Nat.zero_add, Nat.div_one, List.drop_zero, Nat.zero_mul, Nat.le_refl, Bool.not_eq_true', Bool.not_eq_false', Bool.false_eq_true, Bool.true_eq_false, not_true_eq_false, not_false_eq_true, false_imp_iff, true_imp_iff, if_true, if_false, sig, sigF, sigW, sigR, sigO, sigD, sigWD, List.map_cons, List.map_nil] <;> simp <;> rfl
theorem ok_irway : FnOk Try.prog 61 s_irway := by
  refine fnOk (fn := Try.f61) (F := F_irway) (hs := hs_irway) tab_nil mixed rfl rfl rfl [.str] (by kernel_rfl) (by simp) ?_
  intro w _
  refine ⟨fun _ _ => False, fun _ _ => 0, ?_, fun _ _ h => h.elim⟩
  rw [t_irway]
  simp only [Tree.holds, ltI_t, ltI_f, leI_t, leI_f, all_cons, all_nil, and_true, true_and, forall_eq, decide_eq_true_eq, decide_eq_false_iff_not, beq_iff_eq, beq_eq_false_iff_ne, bne_iff_ne, bne_eq_false_iff_eq, ne_eq, Decidable.not_not, selI_z, selB_z, selS_z, selN_z, selL_z, selI_s, selB_s, selS_s, selN_s, selL_s, Int.toNat_natCast, Nat.mul_one, Nat.zero_add, Nat.div_one, List.drop_zero, Nat.zero_mul, Nat.le_refl, Bool.not_eq_true', Bool.not_eq_false', Bool.false_eq_true, Bool.true_eq_false, not_true_eq_false, not_false_eq_true, false_imp_iff, true_imp_iff, if_true, if_false, sig, sigF, sigW, sigR, sigO, sigD, sigWD, List.map_cons, List.map_nil, ByteArray.toList_eq]
  unfold rdWay
  refine ⟨fun e => ?_, fun e1 => ⟨fun e => ?_, fun e2 => ⟨fun e => ?_, fun e3 => ⟨fun e => ?_, fun e4 => ?_⟩⟩⟩⟩
  · rw [if_pos e]
  · rw [if_neg e1, if_pos e]
  · rw [if_neg e1, if_neg e2, if_pos e]
  · rw [if_neg e1, if_neg e2, if_neg e3, if_pos e]
  · rw [if_neg e1, if_neg e2, if_neg e3, if_neg e4]
theorem ok_icod : FnOk Try.prog 42 s_icod := by
  refine fnOk (fn := Try.f42) (F := F_icod) (hs := hs_icod) (tab_cons ok_tdif tab_nil) mixed rfl rfl rfl [.list 9] (by kernel_rfl) (by simp) ?_
  rintro n cs ⟨ls, e, hl, hs⟩
  simp only [List.cons.injEq, D.list.injEq, true_and, and_true] at e
  obtain ⟨rfl, rfl⟩ := e
  refine ⟨fun _ _ => False, fun _ _ => 0, ?_, fun _ _ h => h.elim⟩
  rw [t_icod]
  simp only [F_icod_tdif, s_tdif, Tree.holds, ltI_t, ltI_f, leI_t, leI_f, all_cons, all_nil, and_true, true_and, forall_eq, decide_eq_true_eq, decide_eq_false_iff_not, beq_iff_eq, beq_eq_false_iff_ne, bne_iff_ne, bne_eq_false_iff_eq, ne_eq, Decidable.not_not, selI_z, selB_z, selS_z, selN_z, selL_z, selI_s, selB_s, selS_s, selN_s, selL_s, Int.toNat_natCast, Nat.mul_one, Nat.zero_add, Nat.div_one, List.drop_zero, Nat.zero_mul, Nat.le_refl, Bool.not_eq_true', Bool.not_eq_false', Bool.false_eq_true, Bool.true_eq_false, not_true_eq_false, not_false_eq_true, false_imp_iff, true_imp_iff, if_true, if_false, sig, sigF, sigW, sigR, sigO, sigD, sigWD, List.map_cons, List.map_nil, unS_texts]
  refine ⟨fun h => ⟨⟨ls, 4, rfl, hl, hs⟩, ret_bool' ?_⟩, fun h => ret_bool' ?_⟩
  · unfold codB difB
    by_cases h4 : (ls.length : Int) ≤ 4
    · rw [show inB ls.length 1 4 = true from inB_iff.mpr ⟨by omega, h4⟩, decide_eq_true h4]; simp
    · rw [show inB ls.length 1 4 = false by
        rw [Bool.eq_false_iff]
        intro h2
        exact h4 (inB_iff.mp h2).2, decide_eq_false h4]; simp
  · unfold codB
    rw [show inB ls.length 1 4 = false by
      rw [Bool.eq_false_iff]
      intro h2
      have := inB_iff.mp h2
      omega]
    simp
theorem med_open {k : ByteArray} {p : Int} {s h : Bool} {n : Nat} {cs : List D} {m : Med} (e : [D.str k, .int .i64 p, .bool s, .bool h, .list 9 n cs] = medD m) : k = m.k ∧ p = m.p ∧ s = m.s ∧ h = m.h ∧ n = m.c.length ∧ cs = textsD m.c := by
  simp only [medD, List.cons.injEq, D.str.injEq, D.int.injEq, D.bool.injEq, D.list.injEq, true_and, and_true] at e
  exact e
theorem ok_imed : FnOk Try.prog 12 s_imed := by
  refine fnOk (fn := Try.f12) (F := F_imed) (hs := hs_imed) (tab_cons ok_iword (tab_cons ok_icod tab_nil)) mixed rfl rfl rfl [.str, .int .i64, .bool, .bool, .list 9] (by kernel_rfl) (by simp) ?_
  rintro k p s h n cs ⟨m, e, hm⟩
  obtain ⟨mk, mp, ms, mh, mc⟩ := m
  obtain ⟨rfl, rfl, rfl, rfl, rfl, rfl⟩ := med_open e
  obtain ⟨h1, h2, h3⟩ := hm
  have hu : unM [.str k, .int .i64 p, .bool s, .bool h, .list 9 mc.length (textsD mc)] = ⟨k, p, s, h, mc⟩ := unM_med ⟨k, p, s, h, mc⟩
  refine ⟨fun _ _ => False, fun _ _ => 0, ?_, fun _ _ h => h.elim⟩
  rw [t_imed]
  simp only [F_imed_iword, F_imed_icod, s_iword, s_icod, Tree.holds, ltI_t, ltI_f, leI_t, leI_f, all_cons, all_nil, and_true, true_and, forall_eq, decide_eq_true_eq, decide_eq_false_iff_not, beq_iff_eq, beq_eq_false_iff_ne, bne_iff_ne, bne_eq_false_iff_eq, ne_eq, Decidable.not_not, selI_z, selB_z, selS_z, selN_z, selL_z, selI_s, selB_s, selS_s, selN_s, selL_s, Int.toNat_natCast, Nat.mul_one, Nat.zero_add, Nat.div_one, List.drop_zero, Nat.zero_mul, Nat.le_refl, Bool.not_eq_true', Bool.not_eq_false', Bool.false_eq_true, Bool.true_eq_false, not_true_eq_false, not_false_eq_true, false_imp_iff, true_imp_iff, if_true, if_false, sig, sigF, sigW, sigR, sigO, sigD, sigWD, List.map_cons, List.map_nil, hu, unS_texts]
  have hm : medB ⟨k, p, s, h, mc⟩ = (wordS k && (inB p 0 65535 && codB mc)) := by
    unfold medB codB
    simp only
    cases mc.all wordS <;> cases distB mc <;> cases wordS k <;> cases inB p 0 65535 <;> simp
  refine ⟨m20 h1, fun e0 => ⟨fun e1 => ⟨fun e2 => ⟨⟨mc, rfl, h2, h3⟩, ret_bool' ?_⟩, fun e2 => ret_bool' ?_⟩, fun e1 => ret_bool' ?_⟩, fun e0 => ret_bool' ?_⟩
  · rw [hm, show wordS k = true from e0, show inB p 0 65535 = true from inB_iff.mpr ⟨by omega, by omega⟩]; rfl
  · rw [hm, show inB p 0 65535 = false by rw [Bool.eq_false_iff]; intro h; have := inB_iff.mp h; omega]; simp
  · rw [hm, show inB p 0 65535 = false by rw [Bool.eq_false_iff]; intro h; have := inB_iff.mp h; omega]; simp
  · rw [hm, show wordS k = false from e0]; rfl
theorem ok_ioff : FnOk Try.prog 19 s_ioff := by
  refine fnOk (fn := Try.f19) (F := F_ioff) (hs := hs_ioff) (tab_cons ok_imed tab_nil) mixed rfl rfl rfl [.list 25] (by kernel_rfl) (by simp) ?_
  rintro n cs ⟨l, e, hl, hm⟩
  simp only [List.cons.injEq, D.list.injEq, true_and, and_true] at e
  obtain ⟨rfl, rfl⟩ := e
  refine ⟨fun h ys => h = 0 ∧ ∃ i : Nat, ys = [.list 25 l.length (offD l), .int .i64 i] ∧ i ≤ l.length ∧ l.length ≤ 4 ∧ (∀ (a : Nat) (m : Med), a < i → l[a]? = some m → medB m = true), fun h ys => l.length - (selI ys 1).toNat, ?_, ?_⟩
  · rw [t_ioff]
    simp only [F_ioff_imed, s_imed, Tree.holds, ltI_t, ltI_f, leI_t, leI_f, all_cons, all_nil, and_true, true_and, forall_eq, decide_eq_true_eq, decide_eq_false_iff_not, beq_iff_eq, beq_eq_false_iff_ne, bne_iff_ne, bne_eq_false_iff_eq, ne_eq, Decidable.not_not, selI_z, selB_z, selS_z, selN_z, selL_z, selI_s, selB_s, selS_s, selN_s, selL_s, Int.toNat_natCast, Nat.mul_one, Nat.zero_add, Nat.div_one, List.drop_zero, Nat.zero_mul, Nat.le_refl, Bool.not_eq_true', Bool.not_eq_false', Bool.false_eq_true, Bool.true_eq_false, not_true_eq_false, not_false_eq_true, false_imp_iff, true_imp_iff, if_true, if_false, sig, sigF, sigW, sigR, sigO, sigD, sigWD, List.map_cons, List.map_nil, unO_off]
    refine ⟨fun h => ret_bool' ?_, fun h => ⟨0, rfl, by omega, by omega, fun a m h => by omega⟩⟩
    unfold offB
    rw [show decide (l.length ≤ 4) = false from decide_eq_false (by omega)]
    simp
  · rintro h ys ⟨rfl, i, rfl, hi, l4, hv⟩
    rw [t_ioff0]
    simp only [F_ioff_imed, s_imed, Tree.holds, ltI_t, ltI_f, leI_t, leI_f, all_cons, all_nil, and_true, true_and, forall_eq, decide_eq_true_eq, decide_eq_false_iff_not, beq_iff_eq, beq_eq_false_iff_ne, bne_iff_ne, bne_eq_false_iff_eq, ne_eq, Decidable.not_not, selI_z, selB_z, selS_z, selN_z, selL_z, selI_s, selB_s, selS_s, selN_s, selL_s, Int.toNat_natCast, Nat.mul_one, Nat.zero_add, Nat.div_one, List.drop_zero, Nat.zero_mul, Nat.le_refl, Bool.not_eq_true', Bool.not_eq_false', Bool.false_eq_true, Bool.true_eq_false, not_true_eq_false, not_false_eq_true, false_imp_iff, true_imp_iff, if_true, if_false, sig, sigF, sigW, sigR, sigO, sigD, sigWD, List.map_cons, List.map_nil, sel_kstr, sel_kint, sel_kbool, unO_off]
    refine ⟨fun hj => ?_, fun hj => ret_bool' ?_⟩
    · obtain ⟨m, m1, m2⟩ := off_get (l := l) (i := i) (by omega)
      obtain ⟨c0, c1, c2, c3, c4⟩ := off_at m1
      rw [selS_of c0, selI_of c1, selB_of c2, selB_of c3, selN_of c4, selL_of c4]
      have e := unM_med m
      unfold medD at e
      rw [e]
      refine ⟨⟨by omega, by omega⟩, ⟨c0, c1, c2, c3, .inl c4⟩, ⟨m, rfl, hm m m2⟩, fun e0 => ret_bool' ?_, fun e0 => ⟨by unfold inK; omega, ⟨i + 1, rfl, by omega, l4, fun a m' ha hm' => ?_⟩, by omega⟩⟩
      · rw [med_no m2 e0]
      · by_cases hai : a = i
        · rw [hai, m1] at hm'; injection hm' with hm'; rw [← hm']; exact e0
        · exact hv a m' (by omega) hm'
    · have ha : l.all medB = true := List.all_eq_true.mpr (fun x hx => by
        obtain ⟨a, ha, rfl⟩ := List.getElem_of_mem hx
        exact hv a _ (by omega) (List.getElem?_eq_getElem ha))
      unfold offB
      rw [ha]
      simp [l4]
theorem ok_iml : FnOk Try.prog 46 s_iml := by
  refine fnOk (fn := Try.f46) (F := F_iml) (hs := hs_iml) (tab_cons ok_inum (tab_cons ok_iway tab_nil)) mixed rfl rfl rfl [.str, .int .i64, .bool, .bool, .list 9] (by kernel_rfl) (by simp) ?_
  rintro k p s h n cs ⟨m, e, hm⟩
  obtain ⟨rfl, rfl, rfl, rfl, rfl, rfl⟩ := med_open e
  have hb' := hm
  unfold medB at hb'
  simp only [Bool.and_eq_true, List.all_eq_true, inB_iff] at hb'
  have z1 := word_size hb'.2.1
  have z2 := textS_size m.p
  have z3 := way_size m.s m.h
  have z4 : (" ".toUTF8).size = 1 := rfl
  have hc4 : m.c.length ≤ 4 := by omega
  have hu : unM [.str m.k, .int .i64 m.p, .bool m.s, .bool m.h, .list 9 m.c.length (textsD m.c)] = m := unM_med m
  refine ⟨fun h ys => h = 0 ∧ ∃ j : Nat, ys = [.str (lineK m j), .int .i64 j, .str m.k, .int .i64 m.p, .bool m.s, .bool m.h, .list 9 m.c.length (textsD m.c)] ∧ j ≤ m.c.length, fun h ys => m.c.length - (selI ys 1).toNat, ?_, ?_⟩
  · rw [t_iml]
    simp only [F_iml_inum, F_iml_iway, s_inum, s_iway, Tree.holds, ltI_t, ltI_f, leI_t, leI_f, all_cons, all_nil, and_true, true_and, forall_eq, decide_eq_true_eq, decide_eq_false_iff_not, beq_iff_eq, beq_eq_false_iff_ne, bne_iff_ne, bne_eq_false_iff_eq, ne_eq, Decidable.not_not, selI_z, selB_z, selS_z, selN_z, selL_z, selI_s, selB_s, selS_s, selN_s, selL_s, Int.toNat_natCast, Nat.mul_one, Nat.zero_add, Nat.div_one, List.drop_zero, Nat.zero_mul, Nat.le_refl, Bool.not_eq_true', Bool.not_eq_false', Bool.false_eq_true, Bool.true_eq_false, not_true_eq_false, not_false_eq_true, false_imp_iff, true_imp_iff, if_true, if_false, sig, sigF, sigW, sigR, sigO, sigD, sigWD, List.map_cons, List.map_nil, sp_is, size_cat, z3, z4]
    exact ⟨by omega, by omega, by omega, by omega, 0, rfl, by omega⟩
  · rintro h ys ⟨rfl, j, rfl, hj⟩
    rw [t_iml0]
    simp only [F_iml_inum, F_iml_iway, s_inum, s_iway, Tree.holds, ltI_t, ltI_f, leI_t, leI_f, all_cons, all_nil, and_true, true_and, forall_eq, decide_eq_true_eq, decide_eq_false_iff_not, beq_iff_eq, beq_eq_false_iff_ne, bne_iff_ne, bne_eq_false_iff_eq, ne_eq, Decidable.not_not, selI_z, selB_z, selS_z, selN_z, selL_z, selI_s, selB_s, selS_s, selN_s, selL_s, Int.toNat_natCast, Nat.mul_one, Nat.zero_add, Nat.div_one, List.drop_zero, Nat.zero_mul, Nat.le_refl, Bool.not_eq_true', Bool.not_eq_false', Bool.false_eq_true, Bool.true_eq_false, not_true_eq_false, not_false_eq_true, false_imp_iff, true_imp_iff, if_true, if_false, sig, sigF, sigW, sigR, sigO, sigD, sigWD, List.map_cons, List.map_nil, sel_kstr, hu]
    have z5 := lineK_size hm j hj
    refine ⟨fun hlt => ?_, fun hlt => ?_⟩
    · obtain ⟨x, x1, x2, x3⟩ := textsD_get (ls := m.c) (i := j) (by omega)
      have hx := word_size (hb'.1.1 x x3)
      rw [selS_of x2]
      simp only [sp_is, size_cat, z4]
      refine ⟨by omega, ⟨by omega, by omega⟩, x2, by omega, by unfold inK; omega, ⟨j + 1, ?_, by omega⟩, by omega⟩
      rw [lineK_step x1]; rfl
    · obtain rfl : j = m.c.length := by omega
      rw [lineK_all]
/-- Lines, so many of them made. -/
def linesK (l : List Med) (i : Nat) : List D := textsD ((l.take i).map lineM) ++ (rep l.length [D.str ⟨#[]⟩]).drop i
theorem linesK_zero (l : List Med) : linesK l 0 = rep l.length [D.str ⟨#[]⟩] := rfl
theorem linesK_len (l : List Med) {i : Nat} (h : i ≤ l.length) : (linesK l i).length = l.length := by
  unfold linesK
  rw [List.length_append, textsD_len, List.length_map, List.length_take, List.length_drop, rep_len, List.length_cons, List.length_nil]
  omega
theorem linesK_all (l : List Med) : linesK l l.length = textsD (l.map lineM) := by
  unfold linesK
  rw [List.drop_of_length_le (by rw [rep_len]; simp), List.append_nil, List.take_of_length_le (Nat.le_refl _)]
theorem linesK_step {l : List Med} {i : Nat} {m : Med} (h : l[i]? = some m) : setL (linesK l i) i [.str (lineM m)] = linesK l (i + 1) := by
  have hi := (List.getElem?_eq_some_iff.mp h).1
  have h1 : (textsD ((l.take i).map lineM)).length = i := by rw [textsD_len, List.length_map, List.length_take]; omega
  unfold setL linesK
  rw [List.take_append_of_le_length (by omega), List.take_of_length_le (by omega)]
  rw [List.drop_append, List.drop_of_length_le (by omega), h1, List.nil_append, List.drop_drop]
  rw [show i + (i + [D.str (lineM m)].length - i) = i + 1 by simp]
  rw [List.take_add_one, h]
  simp only [Option.toList_some, List.map_append, List.map_cons, List.map_nil, textsD_push]
theorem ok_iol : FnOk Try.prog 25 s_iol := by
  refine fnOk (fn := Try.f25) (F := F_iol) (hs := hs_iol) (tab_cons ok_ioff (tab_cons ok_iml tab_nil)) mixed rfl rfl rfl [.list 25] (by kernel_rfl) (by simp) ?_
  rintro n cs ⟨l, e, hl, hm⟩
  simp only [List.cons.injEq, D.list.injEq, true_and, and_true] at e
  obtain ⟨rfl, rfl⟩ := e
  refine ⟨fun h ys => h = 0 ∧ ∃ i : Nat, ys = [.list 25 l.length (offD l), .int .i64 (0 : Nat), .int .i64 (l.length : Nat), .int .i64 i, .list 9 0 (linesK l i)] ∧ i ≤ l.length ∧ offB l = true, fun h ys => l.length - (selI ys 3).toNat, ?_, ?_⟩
  · rw [t_iol]
    simp only [F_iol_ioff, F_iol_iml, s_ioff, s_iml, Tree.holds, ltI_t, ltI_f, leI_t, leI_f, all_cons, all_nil, and_true, true_and, forall_eq, decide_eq_true_eq, decide_eq_false_iff_not, beq_iff_eq, beq_eq_false_iff_ne, bne_iff_ne, bne_eq_false_iff_eq, ne_eq, Decidable.not_not, selI_z, selB_z, selS_z, selN_z, selL_z, selI_s, selB_s, selS_s, selN_s, selL_s, Int.toNat_natCast, Nat.mul_one, Nat.zero_add, Nat.div_one, List.drop_zero, Nat.zero_mul, Nat.le_refl, Bool.not_eq_true', Bool.not_eq_false', Bool.false_eq_true, Bool.true_eq_false, not_true_eq_false, not_false_eq_true, false_imp_iff, true_imp_iff, if_true, if_false, sig, sigF, sigW, sigR, sigO, sigD, sigWD, List.map_cons, List.map_nil, unO_off]
    refine ⟨⟨l, rfl, hl, hm⟩, fun e => ?_, fun e => ?_⟩
    rotate_left
    · exact ⟨⟨by omega, by omega, by omega⟩, ⟨0, (by rw [linesK_zero]; rfl), by omega, e⟩⟩
    unfold linesO
    rw [e]; rfl
  · rintro h ys ⟨rfl, i, rfl, hi, ho⟩
    rw [t_iol0]
    simp only [F_iol_ioff, F_iol_iml, s_ioff, s_iml, Tree.holds, ltI_t, ltI_f, leI_t, leI_f, all_cons, all_nil, and_true, true_and, forall_eq, decide_eq_true_eq, decide_eq_false_iff_not, beq_iff_eq, beq_eq_false_iff_ne, bne_iff_ne, bne_eq_false_iff_eq, ne_eq, Decidable.not_not, selI_z, selB_z, selS_z, selN_z, selL_z, selI_s, selB_s, selS_s, selN_s, selL_s, Int.toNat_natCast, Nat.mul_one, Nat.zero_add, Nat.div_one, List.drop_zero, Nat.zero_mul, Nat.le_refl, Bool.not_eq_true', Bool.not_eq_false', Bool.false_eq_true, Bool.true_eq_false, not_true_eq_false, not_false_eq_true, false_imp_iff, true_imp_iff, if_true, if_false, sig, sigF, sigW, sigR, sigO, sigD, sigWD, List.map_cons, List.map_nil, sel_kstr, sel_kint, sel_kbool, unO_off]
    have hv := (off_parts ho).1
    have h4 := (off_parts ho).2
    refine ⟨fun hj => ?_, fun hj => ?_⟩
    · obtain ⟨m, m1, m2⟩ := off_get (l := l) (i := i) (by omega)
      obtain ⟨c0, c1, c2, c3, c4⟩ := off_at m1
      rw [selS_of c0, selI_of c1, selB_of c2, selB_of c3, selN_of c4, selL_of c4]
      have e := unM_med m
      unfold medD at e
      rw [e]
      refine ⟨⟨by omega, by omega⟩, ⟨c0, c1, c2, c3, .inl c4⟩, ⟨m, rfl, hv m m2⟩, ⟨by omega, by omega⟩, by rw [linesK_len l hi]; omega, by unfold inK; omega, ⟨i + 1, ?_, by omega, ho⟩, by omega⟩
      rw [linesK_step m1]; rfl
    · obtain rfl : i = l.length := by omega
      have e1 : linesO l = l.map lineM := by unfold linesO; rw [ho]; rfl
      have e2 : List.take l.length (textsD (l.map lineM)) = textsD (l.map lineM) := List.take_of_length_le (by rw [textsD_len]; simp)
      rw [linesK_all, e2, e1]
      exact ⟨⟨by rw [textsD_len]; simp, textsD_scal _⟩, by simp⟩
/-- What a media's words are read as. -/
def waS (w : ByteArray) : Bool := w.data.toList == [98, 111, 116, 104] || w.data.toList == [115, 101, 110, 100]
def waH (w : ByteArray) : Bool := w.data.toList == [98, 111, 116, 104] || w.data.toList == [104, 101, 97, 114]
def waK (w : ByteArray) : Bool := decide ((wayS (waS w) (waH w)).data.toList = w.data.toList)
theorem rdWay_is (w : ByteArray) : rdWay w = if waK w = true then [.bool (waS w), .bool (waH w), .bool true] else [.bool false, .bool false, .bool false] := by
  unfold rdWay waK waS waH
  by_cases h1 : w.data.toList = [98, 111, 116, 104]
  · rw [if_pos h1, h1]; rfl
  · rw [if_neg h1]
    by_cases h2 : w.data.toList = [115, 101, 110, 100]
    · rw [if_pos h2, h2]; rfl
    · rw [if_neg h2]
      by_cases h3 : w.data.toList = [104, 101, 97, 114]
      · rw [if_pos h3, h3]; rfl
      · rw [if_neg h3]
        by_cases h4 : w.data.toList = [110, 111, 110, 101]
        · rw [if_pos h4, h4]; rfl
        · rw [if_neg h4, if_neg]
          rw [decide_eq_true_eq]
          intro e
          have f1 : (w.data.toList == [98, 111, 116, 104]) = false := by simpa using h1
          have f2 : (w.data.toList == [115, 101, 110, 100]) = false := by simpa using h2
          have f3 : (w.data.toList == [104, 101, 97, 114]) = false := by simpa using h3
          rw [f1, f2, f3] at e
          exact h4 e.symm
theorem rdW3 (k p w : ByteArray) (cs : List ByteArray) : rdW (k :: p :: w :: cs) = if waK w = true ∧ medB ⟨k, readN p.data.toList, waS w, waH w, cs⟩ = true then some ⟨k, readN p.data.toList, waS w, waH w, cs⟩ else none := by
  cases cs with
  | nil =>
    rw [if_neg]
    · rfl
    · intro h
      have := (med_parts h.2).2.2.2.2.2.1
      simp at this
  | cons c cs =>
    unfold rdW waK
    simp only [decide_eq_true_eq]
    rfl
/-- Media, so many of them read. -/
def medsK (n : Nat) (l : List Med) : List D := offD l ++ (rep n [D.str ⟨#[]⟩, .int .i64 0, .bool false, .bool false, .list 0 0 []]).drop (l.length * 5)
theorem medsK_len {n : Nat} {l : List Med} (h : l.length ≤ n) : (medsK n l).length = n * 5 := by
  unfold medsK
  rw [List.length_append, offD_len, List.length_drop, rep_len]
  simp only [List.length_cons, List.length_nil]
  omega
theorem medsK_all (l : List Med) : medsK l.length l = offD l := by
  unfold medsK
  rw [List.drop_of_length_le (by rw [rep_len]; simp), List.append_nil]
theorem medsK_step {n : Nat} {l : List Med} (m : Med) (h : l.length < n) : setL (medsK n l) (l.length * 5) (medD m) = medsK n (l ++ [m]) := by
  have h1 := offD_len l
  unfold setL medsK
  rw [List.take_append_of_le_length (by omega), List.take_of_length_le (by omega)]
  rw [List.drop_append, List.drop_of_length_le (by rw [medD_len]; omega), h1, List.nil_append, List.drop_drop]
  rw [medD_len, show l.length * 5 + (l.length * 5 + 5 - l.length * 5) = (l ++ [m]).length * 5 by simp; omega]
  unfold offD
  rw [flatD_append, flatD_one]
end Go.Proofs.Ytjleempapphlhaa.Mini
end
