/- Parts of the proof: RoomP. -/
import Derived.Test.YtcnmpghenfbflaaGeRoom
section
namespace Go.Proofs.Ytcnmpghenfbflaa.Mini
open Go Go.RowKit
set_option linter.unusedVariables false
set_option linter.unusedSimpArgs false
set_option maxRecDepth 20000
theorem unRm_room (r : Rm) (t : List D) : unRm (roomD r ++ t) = r := by
  show Rm.mk _ _ _ _ (unS (textsD r.l)) = r
  rw [unS_texts]
  rfl
theorem unRm_one (r : Rm) : unRm (roomD r) = r := by
  have := unRm_room r []
  rwa [List.append_nil] at this
theorem unRm_x (x : Rm) (t : List D) : unRm (.str x.w :: .int .i64 x.s :: .int .i64 x.m :: .bool x.k :: .list 9 x.l.length (textsD x.l) :: t) = x := unRm_room x t
theorem ent_no {r : Rm} {w : ByteArray} {n p : Int} (h : ¬(roomB r = true ∧ wordS w = true ∧ 0 ≤ p)) : enterR r w n p = (zeroRm, 0) := if_neg h
theorem ent_403 {r : Rm} {w : ByteArray} {n p : Int} (h : roomB r = true ∧ wordS w = true ∧ 0 ≤ p) (h1 : 0 < r.s ∧ n ≠ r.s) : enterR r w n p = (r, 403) := by unfold enterR; rw [if_pos h, if_pos h1]
theorem ent_486 {r : Rm} {w : ByteArray} {n p : Int} (h : roomB r = true ∧ wordS w = true ∧ 0 ≤ p) (h1 : ¬(0 < r.s ∧ n ≠ r.s)) (h2 : r.m ≤ p) : enterR r w n p = (r, 486) := by unfold enterR; rw [if_pos h, if_neg h1, if_pos h2]
theorem ent_200 {r : Rm} {w : ByteArray} {n p : Int} (h : roomB r = true ∧ wordS w = true ∧ 0 ≤ p) (h1 : ¬(0 < r.s ∧ n ≠ r.s)) (h2 : ¬r.m ≤ p) (h3 : r.k = false) : enterR r w n p = (r, 200) := by unfold enterR; rw [if_pos h, if_neg h1, if_neg h2, if_pos h3]
/-- What is left when it is locked. -/
theorem ent_in {r : Rm} {w : ByteArray} {n p : Int} (h : roomB r = true ∧ wordS w = true ∧ 0 ≤ p) (h1 : ¬(0 < r.s ∧ n ≠ r.s)) (h2 : ¬r.m ≤ p) (h3 : r.k = true) : enterR r w n p = if hasT r.l w = true then (r, 182) else if r.l.length = 8 then (r, 480) else ({ r with l := r.l ++ [w] }, 182) := by unfold enterR; rw [if_pos h, if_neg h1, if_neg h2, if_neg (by rw [h3]; simp)]
theorem ent_cases (r : Rm) (w : ByteArray) (n p : Int) : enterR r w n p = (zeroRm, 0) ∨ enterR r w n p = (r, 403) ∨ enterR r w n p = (r, 486) ∨ enterR r w n p = (r, 480) ∨ (enterR r w n p = (r, 200) ∧ roomB r = true ∧ r.k = false ∧ p < r.m ∧ ¬(0 < r.s ∧ n ≠ r.s)) ∨ (enterR r w n p = (r, 182) ∧ roomB r = true ∧ r.k = true ∧ hasT r.l w = true) ∨ (enterR r w n p = ({ r with l := r.l ++ [w] }, 182) ∧ roomB r = true ∧ wordS w = true ∧ r.k = true ∧ hasT r.l w = false ∧ r.l.length ≠ 8) := by
  unfold enterR
  split
  · rename_i ha
    split
    · exact .inr (.inl rfl)
    · rename_i h1
      split
      · exact .inr (.inr (.inl rfl))
      · rename_i h2
        split
        · rename_i h3
          exact .inr (.inr (.inr (.inr (.inl ⟨rfl, ha.1, h3, by omega, h1⟩))))
        · rename_i h3
          have h3 : r.k = true := by simpa using h3
          split
          · rename_i h4
            exact .inr (.inr (.inr (.inr (.inr (.inl ⟨rfl, ha.1, h3, h4⟩)))))
          · rename_i h4
            split
            · exact .inr (.inr (.inr (.inl rfl)))
            · rename_i h5
              exact .inr (.inr (.inr (.inr (.inr (.inr ⟨rfl, ha.1, ha.2.1, h3, by simpa using h4, h5⟩)))))
  · exact .inl rfl
theorem ok_srov : FnOk Try.prog 13 s_srov := by
  refine fnOk (fn := Try.f13) (F := F_srov) (hs := hs_srov) (tab_cons ok_sword (tab_cons ok_sin tab_nil)) mixed rfl rfl rfl [.str, .int .i64, .int .i64, .bool, .list 9] (by kernel_rfl) (by simp) ?_
  rintro w0 s m k n0 cs ⟨r, e, hm⟩
  obtain ⟨rw, rs, rm, rk, rl⟩ := r
  simp only [roomD, List.cons_append, List.nil_append, List.cons.injEq, D.str.injEq, D.int.injEq, D.bool.injEq, D.list.injEq, true_and, and_true] at e
  obtain ⟨rfl, rfl, rfl, rfl, rfl, rfl⟩ := e
  obtain ⟨h1, h2, h3⟩ := hm
  have h1 : w0.size ≤ 1048576 := h1
  have h2 : rl.length ≤ 1048576 := h2
  have h3 : ∀ x ∈ rl, x.size ≤ 1048576 := h3
  have hu : unRm [.str w0, .int .i64 s, .int .i64 m, .bool k, .list 9 rl.length (textsD rl)] = ⟨w0, s, m, k, rl⟩ := unRm_one ⟨w0, s, m, k, rl⟩
  refine ⟨fun h' ys => (h' = 0 ∧ ∃ i : Nat, ys = [.int .i64 i, .str w0, .int .i64 s, .int .i64 m, .bool k, .list 9 rl.length (textsD rl)] ∧ i ≤ rl.length ∧ (∀ (a : Nat) (x : ByteArray), a < i → rl[a]? = some x → wordS x = true) ∧ (∀ (a b : Nat) (x y : ByteArray), rl[a]? = some x → rl[b]? = some y → a < b → b < i → x.data.toList ≠ y.data.toList)) ∨
    (h' = 1 ∧ ∃ i j : Nat, ys = [.int .i64 i, .int .i64 j, .str w0, .int .i64 s, .int .i64 m, .bool k, .list 9 rl.length (textsD rl)] ∧ i < rl.length ∧ j ≤ i ∧ (∀ (a : Nat) (x : ByteArray), a < i + 1 → rl[a]? = some x → wordS x = true) ∧ (∀ (a b : Nat) (x y : ByteArray), rl[a]? = some x → rl[b]? = some y → a < b → b < i → x.data.toList ≠ y.data.toList) ∧ (∀ (a : Nat) (x y : ByteArray), rl[a]? = some x → rl[i]? = some y → a < j → x.data.toList ≠ y.data.toList)),
    fun h' ys => mu2 rl.length h' (selI ys 0).toNat (selI ys 1).toNat, ?_, ?_⟩
  · rw [t_srov]
    simp only [F_srov_sword, F_srov_sin, s_sword, s_sin, Tree.holds, ltI_t, ltI_f, leI_t, leI_f, all_cons, all_nil, and_true, true_and, forall_eq, decide_eq_true_eq, decide_eq_false_iff_not, beq_iff_eq, beq_eq_false_iff_ne, bne_iff_ne, bne_eq_false_iff_eq, ne_eq, Decidable.not_not, selI_z, selB_z, selS_z, selN_z, selL_z, selI_s, selB_s, selS_s, selN_s, selL_s, Int.toNat_natCast, Nat.mul_one, Nat.zero_add, Nat.div_one, List.drop_zero, Nat.zero_mul, Nat.le_refl, Bool.not_eq_true', Bool.not_eq_false', Bool.false_eq_true, Bool.true_eq_false, not_true_eq_false, not_false_eq_true, false_imp_iff, true_imp_iff, if_true, if_false, sig, sigF, sigW, sigR, sigO, sigD, sigWD, List.map_cons, List.map_nil]
    exact .inl ⟨0, rfl, by omega, fun a x h => by omega, fun a b x y _ _ _ h => by omega⟩
  · rintro h' ys (⟨rfl, i, rfl, i1, i2, i3⟩ | ⟨rfl, i, j, rfl, i1, j1, i2, i3, i4⟩)
    · rw [t_srov0]
      simp only [F_srov_sword, F_srov_sin, s_sword, s_sin, Tree.holds, ltI_t, ltI_f, leI_t, leI_f, all_cons, all_nil, and_true, true_and, forall_eq, decide_eq_true_eq, decide_eq_false_iff_not, beq_iff_eq, beq_eq_false_iff_ne, bne_iff_ne, bne_eq_false_iff_eq, ne_eq, Decidable.not_not, selI_z, selB_z, selS_z, selN_z, selL_z, selI_s, selB_s, selS_s, selN_s, selL_s, Int.toNat_natCast, Nat.mul_one, Nat.zero_add, Nat.div_one, List.drop_zero, Nat.zero_mul, Nat.le_refl, Bool.not_eq_true', Bool.not_eq_false', Bool.false_eq_true, Bool.true_eq_false, not_true_eq_false, not_false_eq_true, false_imp_iff, true_imp_iff, if_true, if_false, sig, sigF, sigW, sigR, sigO, sigD, sigWD, List.map_cons, List.map_nil, sel_kstr, hu]
      refine ⟨fun hi => ?_, fun hi => ⟨m20 h1, ?_⟩⟩
      · obtain ⟨x, x1, x2, x3⟩ := textsD_get (ls := rl) (i := i) (by omega)
        rw [selS_of x2]
        refine ⟨⟨by omega, by omega⟩, x2, m20 (h3 x x3), fun e => ret_bool' ?_, fun e => ⟨.inr ⟨i, 0, rfl, by omega, by omega, fun a y ha hy => ?_, i3, fun a x y _ _ h => by omega⟩, ?_⟩⟩
        · unfold roomB; rw [word_no x3 e]; rfl
        · by_cases hai : a = i
          · rw [hai, x1] at hy; injection hy with hy; rw [← hy]; exact e
          · exact i2 a y (by omega) hy
        · unfold mu2; simp; omega
      · obtain rfl : i = rl.length := by omega
        have ha : rl.all wordS = true := List.all_eq_true.mpr (fun x hx => by
          obtain ⟨a, ha, rfl⟩ := List.getElem_of_mem hx
          exact i2 a _ ha (List.getElem?_eq_getElem ha))
        have hd : distB rl = true := dist_yes (fun a b x y hx hy hab => i3 a b x y hx hy hab (List.getElem?_eq_some_iff.mp hy).1)
        have hm : roomB ⟨w0, s, m, k, rl⟩ = (wordS w0 && (inB s 0 1000000 && (inB m 1 8 && decide (rl.length ≤ 8)))) := by unfold roomB; simp only [ha, hd, Bool.and_self, Bool.true_and]
        refine ⟨fun e0 => ⟨fun e1 => ⟨fun e2 => ret_bool' ?_, fun e2 => ret_bool' ?_⟩, fun e1 => ret_bool' ?_⟩, fun e0 => ret_bool' ?_⟩
        · rw [hm, show wordS w0 = true from e0, e1, e2, Bool.eq_iff_iff, leI_t]; simp; omega
        · rw [hm, e2]; simp
        · rw [hm, e1]; simp
        · rw [hm, show wordS w0 = false from e0]; rfl
    · rw [t_srov1]
      simp only [F_srov_sword, F_srov_sin, s_sword, s_sin, Tree.holds, ltI_t, ltI_f, leI_t, leI_f, all_cons, all_nil, and_true, true_and, forall_eq, decide_eq_true_eq, decide_eq_false_iff_not, beq_iff_eq, beq_eq_false_iff_ne, bne_iff_ne, bne_eq_false_iff_eq, ne_eq, Decidable.not_not, selI_z, selB_z, selS_z, selN_z, selL_z, selI_s, selB_s, selS_s, selN_s, selL_s, Int.toNat_natCast, Nat.mul_one, Nat.zero_add, Nat.div_one, List.drop_zero, Nat.zero_mul, Nat.le_refl, Bool.not_eq_true', Bool.not_eq_false', Bool.false_eq_true, Bool.true_eq_false, not_true_eq_false, not_false_eq_true, false_imp_iff, true_imp_iff, if_true, if_false, sig, sigF, sigW, sigR, sigO, sigD, sigWD, List.map_cons, List.map_nil, sel_kstr, hu, ByteArray.toList_eq]
      obtain ⟨y, y1, y2, y3⟩ := textsD_get (ls := rl) (i := i) (by omega)
      refine ⟨fun hj => ?_, fun hj => ⟨by unfold inK; omega, .inl ⟨i + 1, rfl, by omega, i2, fun a b x z hx hz hab hb => ?_⟩, ?_⟩⟩
      · obtain ⟨x, x1, x2, x3⟩ := textsD_get (ls := rl) (i := j) (by omega)
        rw [selS_of x2, selS_of y2]
        refine ⟨⟨by omega, by omega⟩, x2, ⟨by omega, by omega⟩, y2, fun e => ret_bool' ?_, fun e => ⟨by unfold inK; omega, .inr ⟨i, j + 1, rfl, by omega, by omega, i2, i3, fun a z w hz hw ha => ?_⟩, ?_⟩⟩
        · unfold roomB; rw [dist_no x1 y1 (by omega) e]; simp
        · by_cases haj : a = j
          · rw [haj, x1] at hz; rw [y1] at hw
            injection hz with hz; injection hw with hw
            rw [← hz, ← hw]; exact e
          · exact i4 a z w hz hw (by omega)
        · unfold mu2; simp; omega
      · by_cases hbi : b = i
        · rw [hbi] at hz hab
          exact i4 a x z hx hz (by omega)
        · exact i3 a b x z hx hz hab (by omega)
      · unfold mu2; simp; omega
theorem ok_scopy : FnOk Try.prog 47 s_scopy := by
  refine fnOk (fn := Try.f47) (F := F_scopy) (hs := hs_scopy) tab_nil mixed rfl rfl rfl [.str, .int .i64, .int .i64, .bool, .list 9] (by kernel_rfl) (by simp) ?_
  rintro w0 s m k n0 cs ⟨r, e, hm⟩
  obtain ⟨rw, rs, rm, rk, rl⟩ := r
  simp only [roomD, List.cons_append, List.nil_append, List.cons.injEq, D.str.injEq, D.int.injEq, D.bool.injEq, D.list.injEq, true_and, and_true] at e
  obtain ⟨rfl, rfl, rfl, rfl, rfl, rfl⟩ := e
  obtain ⟨h1, h2, h3⟩ := hm
  have h1 : w0.size ≤ 1048576 := h1
  have h2 : rl.length ≤ 1048576 := h2
  have h3 : ∀ x ∈ rl, x.size ≤ 1048576 := h3
  have hu : unRm [.str w0, .int .i64 s, .int .i64 m, .bool k, .list 9 rl.length (textsD rl)] = ⟨w0, s, m, k, rl⟩ := unRm_one ⟨w0, s, m, k, rl⟩
  refine ⟨fun _ _ => False, fun _ _ => 0, ?_, fun _ _ h => h.elim⟩
  rw [t_scopy]
  simp only [Tree.holds, ltI_t, ltI_f, leI_t, leI_f, all_cons, all_nil, and_true, true_and, forall_eq, decide_eq_true_eq, decide_eq_false_iff_not, beq_iff_eq, beq_eq_false_iff_ne, bne_iff_ne, bne_eq_false_iff_eq, ne_eq, Decidable.not_not, selI_z, selB_z, selS_z, selN_z, selL_z, selI_s, selB_s, selS_s, selN_s, selL_s, Int.toNat_natCast, Nat.mul_one, Nat.zero_add, Nat.div_one, List.drop_zero, Nat.zero_mul, Nat.le_refl, Bool.not_eq_true', Bool.not_eq_false', Bool.false_eq_true, Bool.true_eq_false, not_true_eq_false, not_false_eq_true, false_imp_iff, true_imp_iff, if_true, if_false, sig, sigF, sigW, sigR, sigO, sigD, sigWD, List.map_cons, List.map_nil, hu, List.take_zero, List.nil_append, textsD_take, textsD_len]
  exact ⟨h2, textsD_scal _, rfl⟩
theorem ok_sent : FnOk Try.prog 20 s_sent := by
  refine fnOk (fn := Try.f20) (F := F_sent) (hs := hs_sent) (tab_cons ok_srov (tab_cons ok_sword (tab_cons ok_scopy tab_nil))) mixed rfl rfl rfl [.str, .int .i64, .int .i64, .bool, .list 9, .str, .int .i64, .int .i64] (by kernel_rfl) (by simp) ?_
  rintro w0 s m k n0 cs w n p ⟨r, w', n', p', e, hm, hw⟩
  obtain ⟨rw, rs, rm, rk, rl⟩ := r
  simp only [roomD, List.cons_append, List.nil_append, List.cons.injEq, D.str.injEq, D.int.injEq, D.bool.injEq, D.list.injEq, true_and, and_true] at e
  obtain ⟨rfl, rfl, rfl, rfl, ⟨rfl, rfl⟩, rfl, rfl, rfl⟩ := e
  obtain ⟨h1, h2, h3⟩ := hm
  have h1 : w0.size ≤ 1048576 := h1
  have h2 : rl.length ≤ 1048576 := h2
  have h3 : ∀ x ∈ rl, x.size ≤ 1048576 := h3
  have hu : unRm [.str w0, .int .i64 s, .int .i64 m, .bool k, .list 9 rl.length (textsD rl), .str w, .int .i64 n, .int .i64 p] = ⟨w0, s, m, k, rl⟩ := unRm_room ⟨w0, s, m, k, rl⟩ _
  have ho : unRm [.str w0, .int .i64 s, .int .i64 m, .bool k, .list 9 rl.length (textsD rl)] = ⟨w0, s, m, k, rl⟩ := unRm_one ⟨w0, s, m, k, rl⟩
  have sm : smRm ⟨w0, s, m, k, rl⟩ := ⟨h1, h2, h3⟩
  have RX : ∃ r : Rm, [D.str w0, .int .i64 s, .int .i64 m, .bool k, .list 9 rl.length (textsD rl)] = [.str r.w, .int .i64 r.s, .int .i64 r.m, .bool r.k, .list 9 r.l.length (textsD r.l)] ∧ smRm r := ⟨⟨w0, s, m, k, rl⟩, rfl, sm⟩
  refine ⟨fun h ys => h = 0 ∧ ∃ j : Nat, ys = [.str w, .int .i64 j, .str w0, .int .i64 s, .int .i64 m, .bool k, .list 9 rl.length (textsD rl), .str ⟨#[]⟩, .int .i64 0, .int .i64 0, .bool false, .int .i64 (0 : Nat), .int .i64 (0 : Nat), .str w0, .int .i64 s, .int .i64 m, .bool k, .int .i64 (0 : Nat), .int .i64 (rl.length : Nat), .list 9 0 (textsD rl), .list 9 0 []] ∧ j ≤ rl.length ∧ roomB ⟨w0, s, m, k, rl⟩ = true ∧ (enterR ⟨w0, s, m, k, rl⟩ w n p = if hasT rl w = true then (⟨w0, s, m, k, rl⟩, 182) else if rl.length = 8 then (⟨w0, s, m, k, rl⟩, 480) else (⟨w0, s, m, k, rl ++ [w]⟩, 182)) ∧ ∀ (a : Nat) (x : ByteArray), a < j → rl[a]? = some x → x.data.toList ≠ w.data.toList, fun h ys => rl.length - (selI ys 1).toNat, ?_, ?_⟩
  · rw [t_sent]
    simp only [F_sent_srov, F_sent_sword, F_sent_scopy, s_srov, s_sword, s_scopy, Tree.holds, ltI_t, ltI_f, leI_t, leI_f, all_cons, all_nil, and_true, true_and, forall_eq, decide_eq_true_eq, decide_eq_false_iff_not, beq_iff_eq, beq_eq_false_iff_ne, bne_iff_ne, bne_eq_false_iff_eq, ne_eq, Decidable.not_not, selI_z, selB_z, selS_z, selN_z, selL_z, selI_s, selB_s, selS_s, selN_s, selL_s, Int.toNat_natCast, Nat.mul_one, Nat.zero_add, Nat.div_one, List.drop_zero, Nat.zero_mul, Nat.le_refl, Bool.not_eq_true', Bool.not_eq_false', Bool.false_eq_true, Bool.true_eq_false, not_true_eq_false, not_false_eq_true, false_imp_iff, true_imp_iff, if_true, if_false, sig, sigF, sigW, sigR, sigO, sigD, sigWD, List.map_cons, List.map_nil, hu, ho, roomD, List.take_zero, List.nil_append, textsD_take, textsD_len, sel_kstr, Option.getD_some, Option.getD_none, ByteArray.toList_eq]
    have sc := textsD_scal rl
    have no : ¬(roomB ⟨w0, s, m, k, rl⟩ = true ∧ wordS w = true ∧ 0 ≤ p) → enterR ⟨w0, s, m, k, rl⟩ w n p = (zeroRm, 0) := ent_no
    refine ⟨RX, fun h => ?_, fun hr => ⟨m20 hw, fun h => ?_, fun h0 => ⟨fun h => ?_, fun h1 => ⟨RX, ?_⟩⟩⟩⟩
    · rw [no fun h2 => by rw [h2.1] at h; cases h]; rfl
    · rw [no fun h2 => by rw [show wordS w = false from h] at h2; cases h2.2.1]; rfl
    · rw [no fun h2 => by omega]; rfl
    have ha : roomB ⟨w0, s, m, k, rl⟩ = true ∧ wordS w = true ∧ 0 ≤ p := ⟨hr, h0, by omega⟩
    refine ⟨fun hs => ⟨fun hn => ?_, fun hn => ⟨fun hm => ?_, fun hm => ⟨fun hk => ?_, fun hk => ?_⟩⟩⟩, fun hs => ⟨fun hm => ?_, fun hm => ⟨fun hk => ?_, fun hk => ?_⟩⟩⟩
    · rw [ent_403 ha ⟨hs, hn⟩]; exact ⟨sc, rfl⟩
    · rw [ent_486 ha (fun h => h.2 hn) hm]; exact ⟨sc, rfl⟩
    · rw [ent_200 ha (fun h => h.2 hn) hm hk]; exact ⟨sc, rfl⟩
    · exact ⟨0, rfl, by omega, hr, ent_in ha (fun h => h.2 hn) hm hk, fun a x h => by omega⟩
    · rw [ent_486 ha (fun h => hs h.1) hm]; exact ⟨sc, rfl⟩
    · rw [ent_200 ha (fun h => hs h.1) hm hk]; exact ⟨sc, rfl⟩
    · exact ⟨0, rfl, by omega, hr, ent_in ha (fun h => hs h.1) hm hk, fun a x h => by omega⟩
  · rintro h ys ⟨rfl, j, rfl, hj, hr, he, hv⟩
    rw [t_sent0]
    simp only [F_sent_srov, F_sent_sword, F_sent_scopy, s_srov, s_sword, s_scopy, Tree.holds, ltI_t, ltI_f, leI_t, leI_f, all_cons, all_nil, and_true, true_and, forall_eq, decide_eq_true_eq, decide_eq_false_iff_not, beq_iff_eq, beq_eq_false_iff_ne, bne_iff_ne, bne_eq_false_iff_eq, ne_eq, Decidable.not_not, selI_z, selB_z, selS_z, selN_z, selL_z, selI_s, selB_s, selS_s, selN_s, selL_s, Int.toNat_natCast, Nat.mul_one, Nat.zero_add, Nat.div_one, List.drop_zero, Nat.zero_mul, Nat.le_refl, Bool.not_eq_true', Bool.not_eq_false', Bool.false_eq_true, Bool.true_eq_false, not_true_eq_false, not_false_eq_true, false_imp_iff, true_imp_iff, if_true, if_false, sig, sigF, sigW, sigR, sigO, sigD, sigWD, List.map_cons, List.map_nil, hu, ho, roomD, List.take_zero, List.nil_append, textsD_take, textsD_len, sel_kstr, Option.getD_some, Option.getD_none, ByteArray.toList_eq, he]
    have sc := textsD_scal rl
    have h8 : rl.length ≤ 8 := by
      unfold roomB at hr
      simp only [Bool.and_eq_true, decide_eq_true_eq] at hr
      exact hr.2.2.2.2
    refine ⟨fun hlt => ?_, fun hge => ?_⟩
    · obtain ⟨x, x1, x2, x3⟩ := textsD_get (ls := rl) (i := j) (by omega)
      rw [selS_of x2]
      refine ⟨⟨by omega, by omega⟩, x2, fun e => ?_, fun e => ⟨by unfold inK; omega, ⟨j + 1, rfl, by omega, hr, fun a y ha hy => ?_⟩, by omega⟩⟩
      · have : hasT rl w = true := List.any_eq_true.mpr ⟨x, x3, by rw [e]; exact beq_self_eq_true _⟩
        rw [if_pos this]
        exact ⟨sc, rfl⟩
      · by_cases hai : a = j
        · rw [hai, x1] at hy; injection hy with hy; rw [← hy]; exact e
        · exact hv a y (by omega) hy
    · have : ¬hasT rl w = true := fun h => by
        obtain ⟨x, x1, x2⟩ := List.any_eq_true.mp h
        obtain ⟨a, ha, rfl⟩ := List.getElem_of_mem x1
        exact hv a _ (by omega) (List.getElem?_eq_getElem ha) (by simpa using x2)
      rw [if_neg this]
      refine ⟨fun h => ?_, fun h => ?_⟩
      · rw [if_pos (by omega)]; exact ⟨sc, rfl⟩
      · rw [if_neg (by omega)]
        have e1 : textsD rl ++ [D.str w] = textsD (rl ++ [w]) := (textsD_push rl w).symm
        have e2 : (rl ++ [w]).length = rl.length + 1 := by simp
        have e3 := textsD_take (rl ++ [w])
        have e4 := textsD_len (rl ++ [w])
        rw [e1]
        simp only [e2] at e3 e4 ⊢
        rw [e3]
        exact ⟨by omega, ⟨by omega, textsD_scal _⟩, rfl⟩
theorem ok_sadm : FnOk Try.prog 26 s_sadm := by
  refine fnOk (fn := Try.f26) (F := F_sadm) (hs := hs_sadm) (tab_cons ok_srov (tab_cons ok_scopy tab_nil)) mixed rfl rfl rfl [.str, .int .i64, .int .i64, .bool, .list 9] (by kernel_rfl) (by simp) ?_
  rintro w0 s m k n0 cs ⟨r, e, hm⟩
  obtain ⟨rw, rs, rm, rk, rl⟩ := r
  simp only [roomD, List.cons_append, List.nil_append, List.cons.injEq, D.str.injEq, D.int.injEq, D.bool.injEq, D.list.injEq, true_and, and_true] at e
  obtain ⟨rfl, rfl, rfl, rfl, rfl, rfl⟩ := e
  obtain ⟨h1, h2, h3⟩ := hm
  have h1 : w0.size ≤ 1048576 := h1
  have h2 : rl.length ≤ 1048576 := h2
  have h3 : ∀ x ∈ rl, x.size ≤ 1048576 := h3
  have hu : unRm [.str w0, .int .i64 s, .int .i64 m, .bool k, .list 9 rl.length (textsD rl)] = ⟨w0, s, m, k, rl⟩ := unRm_one ⟨w0, s, m, k, rl⟩
  refine ⟨fun _ _ => False, fun _ _ => 0, ?_, fun _ _ h => h.elim⟩
  rw [t_sadm]
  have sm : smRm ⟨w0, s, m, k, rl⟩ := ⟨h1, h2, h3⟩
  have RX : ∃ r : Rm, [D.str w0, .int .i64 s, .int .i64 m, .bool k, .list 9 rl.length (textsD rl)] = [.str r.w, .int .i64 r.s, .int .i64 r.m, .bool r.k, .list 9 r.l.length (textsD r.l)] ∧ smRm r := ⟨⟨w0, s, m, k, rl⟩, rfl, sm⟩
  simp only [F_sadm_srov, F_sadm_scopy, s_srov, s_scopy, Tree.holds, ltI_t, ltI_f, leI_t, leI_f, all_cons, all_nil, and_true, true_and, forall_eq, decide_eq_true_eq, decide_eq_false_iff_not, beq_iff_eq, beq_eq_false_iff_ne, bne_iff_ne, bne_eq_false_iff_eq, ne_eq, Decidable.not_not, selI_z, selB_z, selS_z, selN_z, selL_z, selI_s, selB_s, selS_s, selN_s, selL_s, Int.toNat_natCast, Nat.mul_one, Nat.zero_add, Nat.div_one, List.drop_zero, Nat.zero_mul, Nat.le_refl, Bool.not_eq_true', Bool.not_eq_false', Bool.false_eq_true, Bool.true_eq_false, not_true_eq_false, not_false_eq_true, false_imp_iff, true_imp_iff, if_true, if_false, sig, sigF, sigW, sigR, sigO, sigD, sigWD, List.map_cons, List.map_nil, hu, roomD, List.take_zero, List.nil_append, textsD_take, textsD_len, sel_kstr, Option.getD_some, Option.getD_none, ByteArray.toList_eq]
  have sc := textsD_scal rl
  refine ⟨RX, fun h => ?_, fun hr => ⟨RX, fun h => ⟨sc, ?_⟩, fun h => ?_⟩⟩
  · unfold admitR; rw [if_neg (by rw [h]; simp)]; rfl
  · unfold admitR; rw [if_pos hr]
    have : rl = [] := List.length_eq_zero_iff.mp (by omega)
    subst this
    rfl
  · unfold admitR; rw [if_pos hr]
    match rl, h, hr with
    | x :: t, h, hr =>
      have e1 : (((x :: t).length : Int) - 1).toNat = t.length := by simp only [List.length_cons]; omega
      have k1 : ((1 : Int)).toNat = 1 := rfl
      have e2 : List.drop 1 (textsD (x :: t)) = textsD t := rfl
      rw [e1, k1, e2, textsD_take]
      simp only [List.length_cons]
      exact ⟨⟨by omega, by omega, by omega⟩, ⟨by omega, by omega⟩, rfl, ⟨by omega, textsD_scal _⟩, rfl⟩
    | [], h, _ => exact absurd rfl h
theorem ok_slock : FnOk Try.prog 30 s_slock := by
  refine fnOk (fn := Try.f30) (F := F_slock) (hs := hs_slock) (tab_cons ok_srov (tab_cons ok_scopy tab_nil)) mixed rfl rfl rfl [.str, .int .i64, .int .i64, .bool, .list 9, .bool] (by kernel_rfl) (by simp) ?_
  rintro w0 s m k n0 cs q ⟨r, q', e, hm⟩
  obtain ⟨rw, rs, rm, rk, rl⟩ := r
  simp only [roomD, List.cons_append, List.nil_append, List.cons.injEq, D.str.injEq, D.int.injEq, D.bool.injEq, D.list.injEq, true_and, and_true] at e
  obtain ⟨rfl, rfl, rfl, rfl, ⟨rfl, rfl⟩, rfl⟩ := e
  obtain ⟨h1, h2, h3⟩ := hm
  have h1 : w0.size ≤ 1048576 := h1
  have h2 : rl.length ≤ 1048576 := h2
  have h3 : ∀ x ∈ rl, x.size ≤ 1048576 := h3
  have hu : unRm [.str w0, .int .i64 s, .int .i64 m, .bool k, .list 9 rl.length (textsD rl), .bool q] = ⟨w0, s, m, k, rl⟩ := unRm_room ⟨w0, s, m, k, rl⟩ _
  have ho : unRm [.str w0, .int .i64 s, .int .i64 m, .bool k, .list 9 rl.length (textsD rl)] = ⟨w0, s, m, k, rl⟩ := unRm_one ⟨w0, s, m, k, rl⟩
  refine ⟨fun _ _ => False, fun _ _ => 0, ?_, fun _ _ h => h.elim⟩
  rw [t_slock]
  have sm : smRm ⟨w0, s, m, k, rl⟩ := ⟨h1, h2, h3⟩
  have RX : ∃ r : Rm, [D.str w0, .int .i64 s, .int .i64 m, .bool k, .list 9 rl.length (textsD rl)] = [.str r.w, .int .i64 r.s, .int .i64 r.m, .bool r.k, .list 9 r.l.length (textsD r.l)] ∧ smRm r := ⟨⟨w0, s, m, k, rl⟩, rfl, sm⟩
  simp only [F_slock_srov, F_slock_scopy, s_srov, s_scopy, Tree.holds, ltI_t, ltI_f, leI_t, leI_f, all_cons, all_nil, and_true, true_and, forall_eq, decide_eq_true_eq, decide_eq_false_iff_not, beq_iff_eq, beq_eq_false_iff_ne, bne_iff_ne, bne_eq_false_iff_eq, ne_eq, Decidable.not_not, selI_z, selB_z, selS_z, selN_z, selL_z, selI_s, selB_s, selS_s, selN_s, selL_s, Int.toNat_natCast, Nat.mul_one, Nat.zero_add, Nat.div_one, List.drop_zero, Nat.zero_mul, Nat.le_refl, Bool.not_eq_true', Bool.not_eq_false', Bool.false_eq_true, Bool.true_eq_false, not_true_eq_false, not_false_eq_true, false_imp_iff, true_imp_iff, if_true, if_false, sig, sigF, sigW, sigR, sigO, sigD, sigWD, List.map_cons, List.map_nil, hu, ho, roomD, List.take_zero, List.nil_append, textsD_take, textsD_len, sel_kstr, Option.getD_some, Option.getD_none, ByteArray.toList_eq]
  have sc := textsD_scal rl
  have s0 : scal [] := by simp [scal]
  refine ⟨RX, fun h => ⟨s0, ?_⟩, fun hr => ⟨RX, fun h => ⟨⟨sc, s0⟩, ?_⟩, fun h => ⟨h2, ⟨s0, sc⟩, ?_⟩⟩⟩
  · unfold lockR; rw [if_neg (by rw [h]; simp)]; rfl
  · unfold lockR; rw [if_pos hr, if_pos h, h]; rfl
  · unfold lockR; rw [if_pos hr, if_neg (by rw [h]; simp), h]; rfl
end Go.Proofs.Ytcnmpghenfbflaa.Mini
end
