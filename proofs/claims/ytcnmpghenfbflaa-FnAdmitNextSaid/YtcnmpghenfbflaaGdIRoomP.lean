/- Parts of the proof: IRoomP. -/
import Derived.Test.YtcnmpghenfbflaaGdIRoom
section
namespace Go.Proofs.Ytcnmpghenfbflaa.Mini
open Go Go.RowKit
set_option linter.unusedVariables false
set_option linter.unusedSimpArgs false
set_option maxRecDepth 20000
theorem roomB_dif (w : ByteArray) (s m : Int) (k : Bool) (l : List ByteArray) : roomB ⟨w, s, m, k, l⟩ = (wordS w && (inB s 0 1000000 && (inB m 1 8 && difB l 8))) := by
  unfold roomB difB
  simp only
  cases l.all wordS <;> cases distB l <;> cases wordS w <;> cases inB s 0 1000000 <;> cases inB m 1 8 <;> simp <;> omega
theorem ok_irov : FnOk Try.prog 12 s_irov := by
  refine fnOk (fn := Try.f12) (F := F_irov) (hs := hs_irov) (tab_cons ok_iword (tab_cons ok_tdif tab_nil)) mixed rfl rfl rfl [.str, .int .i64, .int .i64, .bool, .list 9] (by kernel_rfl) (by simp) ?_
  rintro w0 s m k n0 cs ⟨r, e, hm⟩
  obtain ⟨rw, rs, rm, rk, rl⟩ := r
  simp only [roomD, List.cons_append, List.nil_append, List.cons.injEq, D.str.injEq, D.int.injEq, D.bool.injEq, D.list.injEq, true_and, and_true] at e
  obtain ⟨rfl, rfl, rfl, rfl, rfl, rfl⟩ := e
  obtain ⟨h1, h2, h3⟩ := hm
  have h1 : w0.size ≤ 1048576 := h1
  have h2 : rl.length ≤ 1048576 := h2
  have h3 : ∀ x ∈ rl, x.size ≤ 1048576 := h3
  have hu : unRm [.str w0, .int .i64 s, .int .i64 m, .bool k, .list 9 rl.length (textsD rl)] = ⟨w0, s, m, k, rl⟩ := unRm_one ⟨w0, s, m, k, rl⟩
  refine ⟨fun _ _ => False, fun _ _ => 0, ?_, fun _ _ h => h.elim⟩
  rw [t_irov]
  simp only [F_irov_iword, F_irov_tdif, s_iword, s_tdif, Tree.holds, ltI_t, ltI_f, leI_t, leI_f, all_cons, all_nil, and_true, true_and, forall_eq, decide_eq_true_eq, decide_eq_false_iff_not, beq_iff_eq, beq_eq_false_iff_ne, bne_iff_ne, bne_eq_false_iff_eq, ne_eq, Decidable.not_not, selI_z, selB_z, selS_z, selN_z, selL_z, selI_s, selB_s, selS_s, selN_s, selL_s, Int.toNat_natCast, Nat.mul_one, Nat.zero_add, Nat.div_one, List.drop_zero, Nat.zero_mul, Nat.le_refl, Bool.not_eq_true', Bool.not_eq_false', Bool.false_eq_true, Bool.true_eq_false, not_true_eq_false, not_false_eq_true, false_imp_iff, true_imp_iff, if_true, if_false, sig, sigF, sigW, sigR, sigO, sigD, sigWD, List.map_cons, List.map_nil, hu, unS_texts, roomB_dif]
  have no1 : ∀ {a b c : Int}, ¬(b ≤ a ∧ a ≤ c) → inB a b c = false := fun h => by rw [Bool.eq_false_iff]; intro h2; exact h (inB_iff.mp h2)
  refine ⟨m20 h1, fun e0 => ⟨fun e1 => ⟨fun e2 => ⟨fun e3 => ⟨fun e4 => ⟨⟨rl, 8, rfl, h2, h3⟩, ret_bool' ?_⟩, fun e4 => ret_bool' ?_⟩, fun e3 => ret_bool' ?_⟩, fun e2 => ret_bool' ?_⟩, fun e1 => ret_bool' ?_⟩, fun e0 => ret_bool' ?_⟩
  · rw [show wordS w0 = true from e0, inB_iff.mpr ⟨e1, e2⟩, inB_iff.mpr ⟨e3, e4⟩]; rfl
  · rw [no1 (a := m) (by omega)]; simp
  · rw [no1 (a := m) (by omega)]; simp
  · rw [no1 (a := s) (by omega)]; simp
  · rw [no1 (a := s) (by omega)]; simp
  · rw [show wordS w0 = false from e0]; rfl
theorem ok_icopyr : FnOk Try.prog 44 s_icopyr := by
  refine fnOk (fn := Try.f44) (F := F_icopyr) (hs := hs_icopyr) (tab_cons ok_tcpl tab_nil) mixed rfl rfl rfl [.str, .int .i64, .int .i64, .bool, .list 9] (by kernel_rfl) (by simp) ?_
  rintro w0 s m k n0 cs ⟨r, e, hm⟩
  obtain ⟨rw, rs, rm, rk, rl⟩ := r
  simp only [roomD, List.cons_append, List.nil_append, List.cons.injEq, D.str.injEq, D.int.injEq, D.bool.injEq, D.list.injEq, true_and, and_true] at e
  obtain ⟨rfl, rfl, rfl, rfl, rfl, rfl⟩ := e
  obtain ⟨h1, h2, h3⟩ := hm
  have h1 : w0.size ≤ 1048576 := h1
  have h2 : rl.length ≤ 1048576 := h2
  have h3 : ∀ x ∈ rl, x.size ≤ 1048576 := h3
  have hu : unRm [.str w0, .int .i64 s, .int .i64 m, .bool k, .list 9 rl.length (textsD rl)] = ⟨w0, s, m, k, rl⟩ := unRm_one ⟨w0, s, m, k, rl⟩
  refine ⟨fun _ _ => False, fun _ _ => 0, ?_, fun _ _ h => h.elim⟩
  rw [t_icopyr]
  simp only [F_icopyr_tcpl, s_tcpl, Tree.holds, ltI_t, ltI_f, leI_t, leI_f, all_cons, all_nil, and_true, true_and, forall_eq, decide_eq_true_eq, decide_eq_false_iff_not, beq_iff_eq, beq_eq_false_iff_ne, bne_iff_ne, bne_eq_false_iff_eq, ne_eq, Decidable.not_not, selI_z, selB_z, selS_z, selN_z, selL_z, selI_s, selB_s, selS_s, selN_s, selL_s, Int.toNat_natCast, Nat.mul_one, Nat.zero_add, Nat.div_one, List.drop_zero, Nat.zero_mul, Nat.le_refl, Bool.not_eq_true', Bool.not_eq_false', Bool.false_eq_true, Bool.true_eq_false, not_true_eq_false, not_false_eq_true, false_imp_iff, true_imp_iff, if_true, if_false, sig, sigF, sigW, sigR, sigO, sigD, sigWD, List.map_cons, List.map_nil, hu, List.take_zero, List.nil_append, textsD_take, textsD_len]
  exact ⟨⟨rl, rfl, h2⟩, textsD_scal _, rfl⟩
theorem ok_ientc : FnOk Try.prog 45 s_ientc := by
  refine fnOk (fn := Try.f45) (F := F_ientc) (hs := hs_ientc) (tab_cons ok_thas tab_nil) mixed rfl rfl rfl [.str, .int .i64, .int .i64, .bool, .list 9, .str, .int .i64, .int .i64] (by kernel_rfl) (by simp) ?_
  rintro w0 s m k n0 cs w n p ⟨r, w', n', p', e, hm, hr, hw, hp⟩
  obtain ⟨rw, rs, rm, rk, rl⟩ := r
  simp only [roomD, List.cons_append, List.nil_append, List.cons.injEq, D.str.injEq, D.int.injEq, D.bool.injEq, D.list.injEq, true_and, and_true] at e
  obtain ⟨rfl, rfl, rfl, rfl, ⟨rfl, rfl⟩, rfl, rfl, rfl⟩ := e
  obtain ⟨h1, h2, h3⟩ := hm
  have h1 : w0.size ≤ 1048576 := h1
  have h2 : rl.length ≤ 1048576 := h2
  have h3 : ∀ x ∈ rl, x.size ≤ 1048576 := h3
  have hu : unRm [.str w0, .int .i64 s, .int .i64 m, .bool k, .list 9 rl.length (textsD rl), .str w, .int .i64 n, .int .i64 p] = ⟨w0, s, m, k, rl⟩ := unRm_room ⟨w0, s, m, k, rl⟩ _
  refine ⟨fun _ _ => False, fun _ _ => 0, ?_, fun _ _ h => h.elim⟩
  rw [t_ientc]
  simp only [F_ientc_thas, s_thas, Tree.holds, ltI_t, ltI_f, leI_t, leI_f, all_cons, all_nil, and_true, true_and, forall_eq, decide_eq_true_eq, decide_eq_false_iff_not, beq_iff_eq, beq_eq_false_iff_ne, bne_iff_ne, bne_eq_false_iff_eq, ne_eq, Decidable.not_not, selI_z, selB_z, selS_z, selN_z, selL_z, selI_s, selB_s, selS_s, selN_s, selL_s, Int.toNat_natCast, Nat.mul_one, Nat.zero_add, Nat.div_one, List.drop_zero, Nat.zero_mul, Nat.le_refl, Bool.not_eq_true', Bool.not_eq_false', Bool.false_eq_true, Bool.true_eq_false, not_true_eq_false, not_false_eq_true, false_imp_iff, true_imp_iff, if_true, if_false, sig, sigF, sigW, sigR, sigO, sigD, sigWD, List.map_cons, List.map_nil, hu, sel_kstr, unS_texts]
  have ha : roomB ⟨w0, s, m, k, rl⟩ = true ∧ wordS w = true ∧ 0 ≤ p := ⟨hr, hw, hp⟩
  have hs0 : 0 ≤ s := by
    unfold roomB at hr
    simp only [Bool.and_eq_true] at hr
    exact (inB_iff.mp hr.2.2.1).1
  have h8 : rl.length ≤ 8 := by
    unfold roomB at hr
    simp only [Bool.and_eq_true, decide_eq_true_eq] at hr
    exact hr.2.2.2.2
  have ST : ∀ n' : Int, (n' = s ∨ s = 0) → n = n' → (m ≤ p → [D.int IntKind.i64 486] = [D.int IntKind.i64 (enterR ⟨w0, s, m, k, rl⟩ w n p).2]) ∧ (¬m ≤ p → (k = false → [D.int IntKind.i64 200] = [D.int IntKind.i64 (enterR ⟨w0, s, m, k, rl⟩ w n p).2]) ∧ (k = true → (∃ (ls : List ByteArray) (s : ByteArray), [D.list 9 rl.length (textsD rl), D.str w] = [D.list 9 ls.length (textsD ls), D.str s] ∧ ls.length ≤ 1048576) ∧ (hasT rl w = true → [D.int IntKind.i64 182] = [D.int IntKind.i64 (enterR ⟨w0, s, m, k, rl⟩ w n p).2]) ∧ (hasT rl w = false → ((rl.length : Int) < 8 → [D.int IntKind.i64 182] = [D.int IntKind.i64 (enterR ⟨w0, s, m, k, rl⟩ w n p).2]) ∧ (¬(rl.length : Int) < 8 → [D.int IntKind.i64 480] = [D.int IntKind.i64 (enterR ⟨w0, s, m, k, rl⟩ w n p).2])))) := by
    intro n' hn1 hn2
    have h403 : ¬(0 < s ∧ n ≠ s) := fun h => by rcases hn1 with e | e <;> omega
    refine ⟨fun h => by rw [ent_486 ha h403 h], fun h => ⟨fun hk => by rw [ent_200 ha h403 h hk], fun hk => ⟨⟨rl, w, rfl, h2⟩, fun ht => ?_, fun ht => ⟨fun hl => ?_, fun hl => ?_⟩⟩⟩⟩
    · rw [ent_in ha h403 h hk, if_pos ht]
    · rw [ent_in ha h403 h hk, if_neg (by rw [ht]; simp), if_neg (by show ¬rl.length = 8; omega)]
    · rw [ent_in ha h403 h hk, if_neg (by rw [ht]; simp), if_pos (by show rl.length = 8; omega)]
  exact ⟨fun hs => ⟨fun hn => by rw [ent_403 ha ⟨by show 0 < s; omega, hn⟩], fun hn => ST s (.inl rfl) hn⟩, fun hs => ST n (.inr hs) rfl⟩
theorem ok_ient : FnOk Try.prog 19 s_ient := by
  refine fnOk (fn := Try.f19) (F := F_ient) (hs := hs_ient) (tab_cons ok_irov (tab_cons ok_iword (tab_cons ok_icopyr (tab_cons ok_ientc (tab_cons ok_thas tab_nil))))) mixed rfl rfl rfl [.str, .int .i64, .int .i64, .bool, .list 9, .str, .int .i64, .int .i64] (by kernel_rfl) (by simp) ?_
  rintro w0 s m k n0 cs w n p ⟨r, w', n', p', e, hm, hw⟩
  obtain ⟨rw, rs, rm, rk, rl⟩ := r
  simp only [roomD, List.cons_append, List.nil_append, List.cons.injEq, D.str.injEq, D.int.injEq, D.bool.injEq, D.list.injEq, true_and, and_true] at e
  obtain ⟨rfl, rfl, rfl, rfl, ⟨rfl, rfl⟩, rfl, rfl, rfl⟩ := e
  obtain ⟨h1, h2, h3⟩ := hm
  have h1 : w0.size ≤ 1048576 := h1
  have h2 : rl.length ≤ 1048576 := h2
  have h3 : ∀ x ∈ rl, x.size ≤ 1048576 := h3
  have hu : unRm [.str w0, .int .i64 s, .int .i64 m, .bool k, .list 9 rl.length (textsD rl), .str w, .int .i64 n, .int .i64 p] = ⟨w0, s, m, k, rl⟩ := unRm_room ⟨w0, s, m, k, rl⟩ _
  have ho : unRm [.str w0, .int .i64 s, .int .i64 m, .bool k, .list 9 rl.length (textsD rl)] = ⟨w0, s, m, k, rl⟩ := unRm_one ⟨w0, s, m, k, rl⟩
  have sm : smRm ⟨w0, s, m, k, rl⟩ := ⟨h1, h2, h3⟩
  have RX : ∃ r : Rm, [D.str w0, .int .i64 s, .int .i64 m, .bool k, .list 9 rl.length (textsD rl)] = [.str r.w, .int .i64 r.s, .int .i64 r.m, .bool r.k, .list 9 r.l.length (textsD r.l)] ∧ smRm r := ⟨⟨w0, s, m, k, rl⟩, rfl, sm⟩
  refine ⟨fun _ _ => False, fun _ _ => 0, ?_, fun _ _ h => h.elim⟩
  rw [t_ient]
  simp only [F_ient_irov, F_ient_iword, F_ient_icopyr, F_ient_ientc, F_ient_thas, s_irov, s_iword, s_icopyr, s_ientc, s_thas, Tree.holds, ltI_t, ltI_f, leI_t, leI_f, all_cons, all_nil, and_true, true_and, forall_eq, decide_eq_true_eq, decide_eq_false_iff_not, beq_iff_eq, beq_eq_false_iff_ne, bne_iff_ne, bne_eq_false_iff_eq, ne_eq, Decidable.not_not, selI_z, selB_z, selS_z, selN_z, selL_z, selI_s, selB_s, selS_s, selN_s, selL_s, Int.toNat_natCast, Nat.mul_one, Nat.zero_add, Nat.div_one, List.drop_zero, Nat.zero_mul, Nat.le_refl, Bool.not_eq_true', Bool.not_eq_false', Bool.false_eq_true, Bool.true_eq_false, not_true_eq_false, not_false_eq_true, false_imp_iff, true_imp_iff, if_true, if_false, sig, sigF, sigW, sigR, sigO, sigD, sigWD, List.map_cons, List.map_nil, hu, ho, roomD, List.take_zero, List.nil_append, textsD_take, textsD_len, sel_kstr, Option.getD_some, Option.getD_none, unS_texts]
  have sc := textsD_scal rl
  have no : ¬(roomB ⟨w0, s, m, k, rl⟩ = true ∧ wordS w = true ∧ 0 ≤ p) → enterR ⟨w0, s, m, k, rl⟩ w n p = (zeroRm, 0) := ent_no
  refine ⟨RX, fun h => ?_, fun hr => ⟨m20 hw, fun h => ?_, fun h0 => ⟨fun h => ?_, fun h1 => ⟨RX, ⟨⟨w0, s, m, k, rl⟩, w, n, p, rfl, sm, hr, h0, by omega⟩, ?_⟩⟩⟩⟩
  · rw [no fun h2 => by rw [h2.1] at h; cases h]; rfl
  · rw [no fun h2 => by rw [show wordS w = false from h] at h2; cases h2.2.1]; rfl
  · rw [no fun h2 => by omega]; rfl
  have ha : roomB ⟨w0, s, m, k, rl⟩ = true ∧ wordS w = true ∧ 0 ≤ p := ⟨hr, h0, by omega⟩
  rcases ent_cases ⟨w0, s, m, k, rl⟩ w n p with E | E | E | E | ⟨E, -⟩ | ⟨E, -, -, ht⟩ | ⟨E, -, -, -, ht, h8⟩ <;> rw [E]
  · refine ⟨(fun h => by simp [zeroRm] at h), fun _ => by
      exfalso
      have := E
      unfold enterR at this
      rw [if_pos ha] at this
      have t2 := congrArg Prod.snd this
      split at t2
      · simp [zeroRm] at t2
      split at t2
      · simp [zeroRm] at t2
      split at t2
      · simp [zeroRm] at t2
      split at t2
      · simp [zeroRm] at t2
      split at t2 <;> simp [zeroRm] at t2⟩
  · exact ⟨(fun h => by simp at h), fun _ => ⟨sc, rfl⟩⟩
  · exact ⟨(fun h => by simp at h), fun _ => ⟨sc, rfl⟩⟩
  · exact ⟨(fun h => by simp at h), fun _ => ⟨sc, rfl⟩⟩
  · exact ⟨(fun h => by simp at h), fun _ => ⟨sc, rfl⟩⟩
  · exact ⟨fun _ => ⟨⟨rl, w, rfl, h2⟩, (fun h => by rw [show hasT rl w = true from ht] at h; cases h), fun _ => ⟨sc, rfl⟩⟩, fun h => absurd rfl h⟩
  · refine ⟨fun _ => ⟨⟨rl, w, rfl, h2⟩, fun _ => ?_, (fun h => by rw [show hasT rl w = false from ht] at h; cases h)⟩, fun h => absurd rfl h⟩
    have h8 : rl.length ≤ 8 := by
      unfold roomB at hr
      simp only [Bool.and_eq_true, decide_eq_true_eq] at hr
      exact hr.2.2.2.2
    have e1 : textsD rl ++ [D.str w] = textsD (rl ++ [w]) := (textsD_push rl w).symm
    have e2 : (rl ++ [w]).length = rl.length + 1 := by simp
    have e3 := textsD_take (rl ++ [w])
    have e4 := textsD_len (rl ++ [w])
    rw [e1]
    simp only [e2] at e3 e4 ⊢
    rw [e3]
    exact ⟨by omega, ⟨by omega, textsD_scal _⟩, rfl⟩
theorem ok_iadm : FnOk Try.prog 25 s_iadm := by
  refine fnOk (fn := Try.f25) (F := F_iadm) (hs := hs_iadm) (tab_cons ok_irov (tab_cons ok_icopyr (tab_cons ok_tcpl tab_nil))) mixed rfl rfl rfl [.str, .int .i64, .int .i64, .bool, .list 9] (by kernel_rfl) (by simp) ?_
  rintro w0 s m k n0 cs ⟨r, e, hm⟩
  obtain ⟨rw, rs, rm, rk, rl⟩ := r
  simp only [roomD, List.cons_append, List.nil_append, List.cons.injEq, D.str.injEq, D.int.injEq, D.bool.injEq, D.list.injEq, true_and, and_true] at e
  obtain ⟨rfl, rfl, rfl, rfl, rfl, rfl⟩ := e
  obtain ⟨h1, h2, h3⟩ := hm
  have h1 : w0.size ≤ 1048576 := h1
  have h2 : rl.length ≤ 1048576 := h2
  have h3 : ∀ x ∈ rl, x.size ≤ 1048576 := h3
  have hu : unRm [.str w0, .int .i64 s, .int .i64 m, .bool k, .list 9 rl.length (textsD rl)] = ⟨w0, s, m, k, rl⟩ := unRm_one ⟨w0, s, m, k, rl⟩
  refine ⟨fun _ _ => False, fun _ _ => 0, ?_, fun _ _ h => h.elim⟩
  rw [t_iadm]
  have sm : smRm ⟨w0, s, m, k, rl⟩ := ⟨h1, h2, h3⟩
  have RX : ∃ r : Rm, [D.str w0, .int .i64 s, .int .i64 m, .bool k, .list 9 rl.length (textsD rl)] = [.str r.w, .int .i64 r.s, .int .i64 r.m, .bool r.k, .list 9 r.l.length (textsD r.l)] ∧ smRm r := ⟨⟨w0, s, m, k, rl⟩, rfl, sm⟩
  simp only [F_iadm_irov, F_iadm_icopyr, F_iadm_tcpl, s_irov, s_icopyr, s_tcpl, Tree.holds, ltI_t, ltI_f, leI_t, leI_f, all_cons, all_nil, and_true, true_and, forall_eq, decide_eq_true_eq, decide_eq_false_iff_not, beq_iff_eq, beq_eq_false_iff_ne, bne_iff_ne, bne_eq_false_iff_eq, ne_eq, Decidable.not_not, selI_z, selB_z, selS_z, selN_z, selL_z, selI_s, selB_s, selS_s, selN_s, selL_s, Int.toNat_natCast, Nat.mul_one, Nat.zero_add, Nat.div_one, List.drop_zero, Nat.zero_mul, Nat.le_refl, Bool.not_eq_true', Bool.not_eq_false', Bool.false_eq_true, Bool.true_eq_false, not_true_eq_false, not_false_eq_true, false_imp_iff, true_imp_iff, if_true, if_false, sig, sigF, sigW, sigR, sigO, sigD, sigWD, List.map_cons, List.map_nil, hu, roomD, List.take_zero, List.nil_append, textsD_take, textsD_len, sel_kstr, Option.getD_some, Option.getD_none, ByteArray.toList_eq]
  have sc := textsD_scal rl
  refine ⟨RX, fun h => ?_, fun hr => ⟨RX, fun h => ⟨sc, ?_⟩, fun h => ?_⟩⟩
  · unfold admitR; rw [if_neg (by rw [h]; simp)]; rfl
  · unfold admitR; rw [if_pos hr]
    have : rl = [] := List.length_eq_zero_iff.mp (by omega)
    subst this
    rfl
  · unfold admitR; rw [if_pos hr]
    match rl, h, hr, h2 with
    | x :: t, h, hr, h2 =>
      have e1 : (((x :: t).length : Int) - 1).toNat = t.length := by simp only [List.length_cons]; omega
      have k1 : ((1 : Int)).toNat = 1 := rfl
      have e2 : List.drop 1 (textsD (x :: t)) = textsD t := rfl
      rw [e1, k1, e2, textsD_take, textsD_take, textsD_len]
      simp only [List.length_cons] at h2 ⊢
      exact ⟨⟨by omega, by omega, by omega⟩, ⟨t, rfl, by omega⟩, ⟨by omega, by omega⟩, rfl, ⟨by omega, textsD_scal _⟩, rfl⟩
    | [], h, _, _ => exact absurd rfl h
theorem ok_ilock : FnOk Try.prog 29 s_ilock := by
  refine fnOk (fn := Try.f29) (F := F_ilock) (hs := hs_ilock) (tab_cons ok_irov (tab_cons ok_icopyr (tab_cons ok_tcpl tab_nil))) mixed rfl rfl rfl [.str, .int .i64, .int .i64, .bool, .list 9, .bool] (by kernel_rfl) (by simp) ?_
  rintro w0 s m k n0 cs q ⟨r, q', e, hm⟩
  obtain ⟨rw, rs, rm, rk, rl⟩ := r
  simp only [roomD, List.cons_append, List.nil_append, List.cons.injEq, D.str.injEq, D.int.injEq, D.bool.injEq, D.list.injEq, true_and, and_true] at e
  obtain ⟨rfl, rfl, rfl, rfl, ⟨rfl, rfl⟩, rfl⟩ := e
  obtain ⟨h1, h2, h3⟩ := hm
  have h1 : w0.size ≤ 1048576 := h1
  have h2 : rl.length ≤ 1048576 := h2
  have h3 : ∀ x ∈ rl, x.size ≤ 1048576 := h3
  have hu : unRm [.str w0, .int .i64 s, .int .i64 m, .bool k, .list 9 rl.length (textsD rl), .bool q] = ⟨w0, s, m, k, rl⟩ := unRm_room ⟨w0, s, m, k, rl⟩ _
  have ho : unRm [.str w0, .int .i64 s, .int .i64 m, .bool k, .list 9 rl.length (textsD rl)] = ⟨w0, s, m, k, rl⟩ := unRm_one ⟨w0, s, m, k, rl⟩
  refine ⟨fun _ _ => False, fun _ _ => 0, ?_, fun _ _ h => h.elim⟩
  rw [t_ilock]
  have sm : smRm ⟨w0, s, m, k, rl⟩ := ⟨h1, h2, h3⟩
  have RX : ∃ r : Rm, [D.str w0, .int .i64 s, .int .i64 m, .bool k, .list 9 rl.length (textsD rl)] = [.str r.w, .int .i64 r.s, .int .i64 r.m, .bool r.k, .list 9 r.l.length (textsD r.l)] ∧ smRm r := ⟨⟨w0, s, m, k, rl⟩, rfl, sm⟩
  simp only [F_ilock_irov, F_ilock_icopyr, F_ilock_tcpl, s_irov, s_icopyr, s_tcpl, Tree.holds, ltI_t, ltI_f, leI_t, leI_f, all_cons, all_nil, and_true, true_and, forall_eq, decide_eq_true_eq, decide_eq_false_iff_not, beq_iff_eq, beq_eq_false_iff_ne, bne_iff_ne, bne_eq_false_iff_eq, ne_eq, Decidable.not_not, selI_z, selB_z, selS_z, selN_z, selL_z, selI_s, selB_s, selS_s, selN_s, selL_s, Int.toNat_natCast, Nat.mul_one, Nat.zero_add, Nat.div_one, List.drop_zero, Nat.zero_mul, Nat.le_refl, Bool.not_eq_true', Bool.not_eq_false', Bool.false_eq_true, Bool.true_eq_false, not_true_eq_false, not_false_eq_true, false_imp_iff, true_imp_iff, if_true, if_false, sig, sigF, sigW, sigR, sigO, sigD, sigWD, List.map_cons, List.map_nil, hu, ho, roomD, List.take_zero, List.nil_append, textsD_take, textsD_len, sel_kstr, Option.getD_some, Option.getD_none, ByteArray.toList_eq]
  have sc := textsD_scal rl
  have s0 : scal [] := by simp [scal]
  refine ⟨RX, fun h => ?_, fun hr => ⟨RX, fun h => ⟨sc, ?_⟩, fun h => ⟨⟨rl, rfl, h2⟩, sc, ?_⟩⟩⟩
  · unfold lockR; rw [if_neg (by rw [h]; simp)]; rfl
  · unfold lockR; rw [if_pos hr, if_pos h, h]; rfl
  · unfold lockR; rw [if_pos hr, if_neg (by rw [h]; simp), h]; rfl
end Go.Proofs.Ytcnmpghenfbflaa.Mini
end
