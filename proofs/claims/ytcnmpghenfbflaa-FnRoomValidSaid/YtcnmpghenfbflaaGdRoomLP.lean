/- Parts of the proof: RoomLP. -/
import Derived.Test.YtcnmpghenfbflaaGdRoomL
section
namespace Go.Proofs.Ytcnmpghenfbflaa.Mini
open Go Go.RowKit
set_option linter.unusedVariables false
set_option linter.unusedSimpArgs false
set_option maxRecDepth 20000
theorem sameRm_iff {a b : Rm} : sameRm a b = true ↔ a = b := @decide_eq_true_iff _ (Classical.propDecidable _)
theorem sameRm_self (a : Rm) : sameRm a a = true := sameRm_iff.mpr rfl
theorem sameRm_no {a b : Rm} (h : a ≠ b) : sameRm a b = false := by
  cases e : sameRm a b with
  | false => rfl
  | true => exact absurd (sameRm_iff.mp e) h
theorem room_iff {r : Rm} : roomB r = true ↔ ((∀ x ∈ r.l, wordS x = true) ∧ distB r.l = true) ∧ wordS r.w = true ∧ inB r.s 0 1000000 = true ∧ inB r.m 1 8 = true ∧ r.l.length ≤ 8 := by
  unfold roomB
  simp only [Bool.and_eq_true, List.all_eq_true, decide_eq_true_eq]
theorem dist_sub {l l' : List ByteArray} (h : l'.Sublist l) (hd : distB l = true) : distB l' = true := by
  unfold distB at hd ⊢
  have hd := of_decide_eq_true hd
  exact decide_eq_true ((h.map _).nodup hd)
theorem room_sub {r : Rm} {l : List ByteArray} {k : Bool} (h : roomB r = true) (hs : l.Sublist r.l) : roomB { r with l := l, k := k } = true := by
  rw [room_iff] at h ⊢
  obtain ⟨⟨h1, h2⟩, h3, h4, h5, h6⟩ := h
  exact ⟨⟨fun x hx => h1 x (hs.subset hx), dist_sub hs h2⟩, h3, h4, h5, by have := hs.length_le; show l.length ≤ 8; omega⟩
theorem room_twice {w : ByteArray} {s m : Int} {k : Bool} {x : ByteArray} {l : List ByteArray} : roomB ⟨w, s, m, k, x :: x :: l⟩ = false := by
  have : distB (x :: x :: l) = false := dist_no (i := 0) (j := 1) rfl rfl (by omega) rfl
  unfold roomB
  simp only [this]
  simp
theorem word_some {x : ByteArray} (h : wordS x = true) : x.data.toList ≠ [] := fun e => by
  unfold wordS wordB at h
  rw [e] at h
  simp at h
theorem text_cons (x : ByteArray) (l : List ByteArray) : List.take (1 + l.length) (List.take 1 [D.str x] ++ textsD l) = textsD (x :: l) := by
  rw [Nat.add_comm]
  exact List.take_of_length_le (by show (textsD (x :: l)).length ≤ _; rw [textsD_len]; simp)
theorem room_push {r : Rm} {w : ByteArray} (h : roomB r = true) (hw : wordS w = true) (hn : hasT r.l w = false) (h8 : r.l.length ≠ 8) : roomB { r with l := r.l ++ [w] } = true := by
  rw [room_iff] at h ⊢
  obtain ⟨⟨h1, h2⟩, h3, h4, h5, h6⟩ := h
  refine ⟨⟨fun x hx => ?_, ?_⟩, h3, h4, h5, by show (r.l ++ [w]).length ≤ 8; rw [List.length_append, List.length_singleton]; omega⟩
  · rcases List.mem_append.mp hx with h | h
    · exact h1 x h
    · simp at h; rw [h]; exact hw
  · unfold distB at h2 ⊢
    have h2 := of_decide_eq_true h2
    refine decide_eq_true ?_
    rw [List.map_append, List.nodup_append]
    refine ⟨h2, by simp, fun a ha b hb e => ?_⟩
    obtain ⟨x, x1, x2⟩ := List.mem_map.mp ha
    have hb : b = w.data.toList := by simpa using hb
    have : hasT r.l w = true := List.any_eq_true.mpr ⟨x, x1, by rw [x2, e, hb]; exact beq_self_eq_true _⟩
    rw [this] at hn; cases hn
theorem has_push (l : List ByteArray) (w : ByteArray) : hasT (l ++ [w]) w = true := List.any_eq_true.mpr ⟨w, by simp, beq_self_eq_true _⟩
theorem ok_samerm : FnOk Try.prog 21 s_samerm := by
  refine fnOk (fn := Try.f21) (F := F_samerm) (hs := hs_samerm) (tab_cons ok_samet tab_nil) mixed rfl rfl rfl [.str, .int .i64, .int .i64, .bool, .list 9, .str, .int .i64, .int .i64, .bool, .list 9] (by kernel_rfl) (by simp) ?_
  rintro a0 a1 a2 a3 n cs b0 b1 b2 b3 n' cs' ⟨a, b, e, hl⟩
  obtain ⟨aw, as', am, ak, al⟩ := a
  obtain ⟨bw, bs, bm, bk, bl⟩ := b
  simp only [roomD, List.cons_append, List.nil_append, List.cons.injEq, D.str.injEq, D.int.injEq, D.bool.injEq, D.list.injEq, true_and, and_true] at e
  obtain ⟨rfl, rfl, rfl, rfl, ⟨rfl, rfl⟩, rfl, rfl, rfl, rfl, rfl, rfl⟩ := e
  have hl : al.length ≤ 1048576 := hl
  have hu : unRm [.str a0, .int .i64 a1, .int .i64 a2, .bool a3, .list 9 al.length (textsD al), .str b0, .int .i64 b1, .int .i64 b2, .bool b3, .list 9 bl.length (textsD bl)] = ⟨a0, a1, a2, a3, al⟩ := unRm_room ⟨a0, a1, a2, a3, al⟩ _
  have hv : unRm (List.drop 5 [.str a0, .int .i64 a1, .int .i64 a2, .bool a3, .list 9 al.length (textsD al), .str b0, .int .i64 b1, .int .i64 b2, .bool b3, .list 9 bl.length (textsD bl)]) = ⟨b0, b1, b2, b3, bl⟩ := unRm_one ⟨b0, b1, b2, b3, bl⟩
  refine ⟨fun _ _ => False, fun _ _ => 0, ?_, fun _ _ h => h.elim⟩
  rw [t_samerm]
  simp only [F_samerm_samet, s_samet, Tree.holds, ltI_t, ltI_f, leI_t, leI_f, all_cons, all_nil, and_true, true_and, forall_eq, decide_eq_true_eq, decide_eq_false_iff_not, beq_iff_eq, beq_eq_false_iff_ne, bne_iff_ne, bne_eq_false_iff_eq, ne_eq, Decidable.not_not, selI_z, selB_z, selS_z, selN_z, selL_z, selI_s, selB_s, selS_s, selN_s, selL_s, Int.toNat_natCast, Nat.mul_one, Nat.zero_add, Nat.div_one, List.drop_zero, Nat.zero_mul, Nat.le_refl, Bool.not_eq_true', Bool.not_eq_false', Bool.false_eq_true, Bool.true_eq_false, not_true_eq_false, not_false_eq_true, false_imp_iff, true_imp_iff, if_true, if_false, sig, sigF, sigW, sigR, sigO, sigD, sigWD, List.map_cons, List.map_nil, hu, hv, unS_texts, ByteArray.toList_eq]
  refine ⟨fun h0 => ⟨fun h1 => ⟨fun h2 => ⟨fun h3 => ⟨⟨al, bl, rfl, hl⟩, ret_bool' ?_⟩, fun h => ret_bool' (sameRm_no fun e => h (congrArg Rm.k e)).symm⟩, fun h => ret_bool' (sameRm_no fun e => h (congrArg Rm.m e)).symm⟩, fun h => ret_bool' (sameRm_no fun e => h (congrArg Rm.s e)).symm⟩, fun h => ret_bool' (sameRm_no fun e => h (congrArg (fun r => r.w.data.toList) e)).symm⟩
  subst h1 h2 h3
  rw [text_eq h0]
  by_cases e : al = bl
  · rw [e, sameRm_self]; exact sameB_rfl _
  · rw [sameRm_no fun h => e (congrArg Rm.l h)]; exact decide_eq_false e
theorem ok_lrov : FnOk Try.prog 3 s_lrov := by
  refine fnOk (fn := Try.f3) (F := F_lrov) (hs := hs_lrov) (tab_cons ok_drov (tab_cons ok_irov (tab_cons ok_srov (tab_cons ok_alive tab_nil)))) mixed rfl rfl rfl [.list 5] (by kernel_rfl) (by simp) ?_
  intro n l hw
  refine ⟨fun _ _ => False, fun _ _ => 0, ?_, fun _ _ h => h.elim⟩
  rw [t_lrov]
  simp only [F_lrov_drov, F_lrov_irov, F_lrov_srov, F_lrov_alive, s_drov, s_irov, s_srov, s_alive, Tree.holds, ltI_t, ltI_f, leI_t, leI_f, all_cons, all_nil, and_true, true_and, forall_eq, decide_eq_true_eq, decide_eq_false_iff_not, beq_iff_eq, beq_eq_false_iff_ne, bne_iff_ne, bne_eq_false_iff_eq, ne_eq, Decidable.not_not, selI_z, selB_z, selS_z, selN_z, selL_z, selI_s, selB_s, selS_s, selN_s, selL_s, Int.toNat_natCast, Nat.mul_one, Nat.zero_add, Nat.div_one, List.drop_zero, Nat.zero_mul, Nat.le_refl, Bool.not_eq_true', Bool.not_eq_false', Bool.false_eq_true, Bool.true_eq_false, not_true_eq_false, not_false_eq_true, false_imp_iff, true_imp_iff, if_true, if_false, sig, sigF, sigW, sigR, sigO, sigD, sigWD, List.map_cons, List.map_nil]
  refine ⟨fun _ => trivial, fun _ => ⟨bytes_wf hw, ?_⟩⟩
  rintro ys ⟨r, rfl, hr⟩
  have sm := drRm_sm hr
  simp only [F_lrov_drov, F_lrov_irov, F_lrov_srov, F_lrov_alive, s_drov, s_irov, s_srov, s_alive, Tree.holds, ltI_t, ltI_f, leI_t, leI_f, all_cons, all_nil, and_true, true_and, forall_eq, decide_eq_true_eq, decide_eq_false_iff_not, beq_iff_eq, beq_eq_false_iff_ne, bne_iff_ne, bne_eq_false_iff_eq, ne_eq, Decidable.not_not, selI_z, selB_z, selS_z, selN_z, selL_z, selI_s, selB_s, selS_s, selN_s, selL_s, Int.toNat_natCast, Nat.mul_one, Nat.zero_add, Nat.div_one, List.drop_zero, Nat.zero_mul, Nat.le_refl, Bool.not_eq_true', Bool.not_eq_false', Bool.false_eq_true, Bool.true_eq_false, not_true_eq_false, not_false_eq_true, false_imp_iff, true_imp_iff, if_true, if_false, sig, sigF, sigW, sigR, sigO, sigD, sigWD, List.map_cons, List.map_nil, roomD, List.cons_append, unRm_x, unS_texts, List.drop_succ_cons, List.drop_zero, List.length_cons, List.length_nil, List.take_zero, List.nil_append, textsD_take, textsD_len, sel_kstr, ByteArray.toList_eq]
  refine ⟨⟨r, rfl, sm⟩, ⟨r, rfl, sm⟩, fun _ => trivial, fun hv => ⟨fun _ => trivial, fun hz => ?_⟩⟩
  have u1 : unRm [D.str r.w, .int .i64 r.s, .int .i64 r.m, .bool r.k, .list 9 0 []] = { r with l := [], k := r.k } := rfl
  have v1 : roomB { r with l := [], k := r.k } = true := room_sub hv (List.nil_sublist _)
  have h20 := hr.2.1
  obtain ⟨x, x1, x2, x3⟩ := textsD_get (ls := r.l) (i := 0) (by omega)
  rw [selS_of x2, text_cons, u1, v1]
  have u2 : unRm [D.str r.w, .int .i64 r.s, .int .i64 r.m, .bool false, .list 9 (1 + r.l.length) (textsD (x :: r.l))] = ⟨r.w, r.s, r.m, false, x :: r.l⟩ := by
    show Rm.mk _ _ _ _ (unS (textsD (x :: r.l))) = _
    rw [unS_texts]
    rfl
  have e1 : (x :: r.l).length = 1 + r.l.length := by rw [List.length_cons]; omega
  have v2 : roomB ⟨r.w, r.s, r.m, false, x :: r.l⟩ = false := by
    match hl : r.l, x1 with
    | y :: t, x1 =>
      injection x1 with x1
      rw [x1]; exact room_twice
  rw [u2, v2]
  refine ⟨⟨⟨r.w, r.s, r.m, r.k, []⟩, rfl, sm.1, Nat.zero_le _, fun y hy => by cases hy⟩, fun _ => ⟨⟨by omega, by omega⟩, x2, by omega, by simp [textsD_len]; omega, ⟨⟨r.w, r.s, r.m, false, x :: r.l⟩, by rw [e1], sm.1, by rw [e1]; omega, fun y hy => ?_⟩, rfl⟩, fun h => by cases h⟩
  rcases List.mem_cons.mp hy with rfl | hy
  · exact sm.2.2 _ x3
  · exact sm.2.2 _ hy
theorem ok_lent : FnOk Try.prog 5 s_lent := by
  refine fnOk (fn := Try.f5) (F := F_lent) (hs := hs_lent) (tab_cons ok_dent (tab_cons ok_ient (tab_cons ok_sent (tab_cons ok_samerm (tab_cons ok_irov (tab_cons ok_alive tab_nil)))))) mixed rfl rfl rfl [.list 5] (by kernel_rfl) (by simp) ?_
  intro n l hw
  refine ⟨fun h ys => h = 0 ∧ ∃ (w : ByteArray) (r x : Rm) (k : Nat), ys = [.str w, .bool (hasT (x.l.take k) w), .int .i64 k, .str r.w, .int .i64 r.s, .int .i64 r.m, .bool r.k, .list 9 r.l.length (textsD r.l), .str x.w, .int .i64 x.s, .int .i64 x.m, .bool x.k, .int .i64 (0 : Nat), .int .i64 (x.l.length : Nat), .list 9 0 (textsD x.l)] ∧ drRm r ∧ smRm x ∧ roomB x = true ∧ hasT x.l w = true ∧ r.k = true ∧ x.l.length ≤ r.l.length + 1 ∧ k ≤ x.l.length, fun h ys => (selI ys 13 - selI ys 2).toNat, ?_, ?_⟩
  rotate_left
  · rintro h ys ⟨rfl, w, r, x, k, rfl, hr, sx, hv, hh, hk, hl, hkl⟩
    rw [t_lent0]
    simp only [F_lent_dent, F_lent_ient, F_lent_sent, F_lent_samerm, F_lent_irov, F_lent_alive, s_dent, s_ient, s_sent, s_samerm, s_irov, s_alive, Tree.holds, ltI_t, ltI_f, leI_t, leI_f, all_cons, all_nil, and_true, true_and, forall_eq, decide_eq_true_eq, decide_eq_false_iff_not, beq_iff_eq, beq_eq_false_iff_ne, bne_iff_ne, bne_eq_false_iff_eq, ne_eq, Decidable.not_not, selI_z, selB_z, selS_z, selN_z, selL_z, selI_s, selB_s, selS_s, selN_s, selL_s, Int.toNat_natCast, Nat.mul_one, Nat.zero_add, Nat.div_one, List.drop_zero, Nat.zero_mul, Nat.le_refl, Bool.not_eq_true', Bool.not_eq_false', Bool.false_eq_true, Bool.true_eq_false, not_true_eq_false, not_false_eq_true, false_imp_iff, true_imp_iff, if_true, if_false, sig, sigF, sigW, sigR, sigO, sigD, sigWD, List.map_cons, List.map_nil, roomD, List.cons_append, unRm_x, textsD_take, textsD_len, sel_kstr, ByteArray.toList_eq]
    have h8 := (room_iff.mp hv).2.2.2.2
    have W : ∀ b : Bool, b = hasT (x.l.take (k + 1)) w → k + 1 ≤ x.l.length → ∃ (w_1 : ByteArray) (r_1 x_1 : Rm) (k_1 : Nat), [D.str w, .bool b, .int .i64 ((k : Int) + 1), .str r.w, .int .i64 r.s, .int .i64 r.m, .bool r.k, .list 9 r.l.length (textsD r.l), .str x.w, .int .i64 x.s, .int .i64 x.m, .bool x.k, .int .i64 (0 : Nat), .int .i64 (x.l.length : Nat), .list 9 0 (textsD x.l)] = [.str w_1, .bool (hasT (x_1.l.take k_1) w_1), .int .i64 k_1, .str r_1.w, .int .i64 r_1.s, .int .i64 r_1.m, .bool r_1.k, .list 9 r_1.l.length (textsD r_1.l), .str x_1.w, .int .i64 x_1.s, .int .i64 x_1.m, .bool x_1.k, .int .i64 (0 : Nat), .int .i64 (x_1.l.length : Nat), .list 9 0 (textsD x_1.l)] ∧ drRm r_1 ∧ smRm x_1 ∧ roomB x_1 = true ∧ hasT x_1.l w_1 = true ∧ r_1.k = true ∧ x_1.l.length ≤ r_1.l.length + 1 ∧ k_1 ≤ x_1.l.length := fun b e h => ⟨w, r, x, k + 1, by rw [e]; rfl, hr, sx, hv, hh, hk, hl, h⟩
    refine ⟨fun hj => ⟨fun h => ⟨by unfold inK; omega, W _ ?_ (by omega), by omega⟩, fun h => ?_⟩, fun hj => ?_⟩
    · symm
      obtain ⟨q, q1, q2⟩ := List.any_eq_true.mp h
      exact List.any_eq_true.mpr ⟨q, List.take_subset_take_left _ (Nat.le_succ k) q1, q2⟩
    · obtain ⟨q, q1, q2, q3⟩ := textsD_get (ls := x.l) (i := k) (by omega)
      rw [selS_of q2]
      refine ⟨⟨by omega, by omega⟩, q2, by unfold inK; omega, W _ ?_ (by omega), by omega⟩
      unfold hasT at h ⊢
      rw [List.take_add_one, q1, List.any_append, h]
      simp
    · have e : List.take k x.l = x.l := List.take_of_length_le (by omega)
      have h20 := hr.2.1
      rw [e, hh, hv, hk]
      exact ⟨⟨x, rfl, sx⟩, fun _ => ⟨fun _ => ⟨fun _ => ⟨by unfold inK; omega, ret_bool' (by rw [leI_t]; omega)⟩, fun h => by cases h⟩, fun h => by cases h⟩, fun h => by cases h⟩
  rw [t_lent]
  simp only [F_lent_dent, F_lent_ient, F_lent_sent, F_lent_samerm, F_lent_irov, F_lent_alive, s_dent, s_ient, s_sent, s_samerm, s_irov, s_alive, Tree.holds, ltI_t, ltI_f, leI_t, leI_f, all_cons, all_nil, and_true, true_and, forall_eq, decide_eq_true_eq, decide_eq_false_iff_not, beq_iff_eq, beq_eq_false_iff_ne, bne_iff_ne, bne_eq_false_iff_eq, ne_eq, Decidable.not_not, selI_z, selB_z, selS_z, selN_z, selL_z, selI_s, selB_s, selS_s, selN_s, selL_s, Int.toNat_natCast, Nat.mul_one, Nat.zero_add, Nat.div_one, List.drop_zero, Nat.zero_mul, Nat.le_refl, Bool.not_eq_true', Bool.not_eq_false', Bool.false_eq_true, Bool.true_eq_false, not_true_eq_false, not_false_eq_true, false_imp_iff, true_imp_iff, if_true, if_false, sig, sigF, sigW, sigR, sigO, sigD, sigWD, List.map_cons, List.map_nil]
  refine ⟨fun _ => trivial, fun _ => ⟨bytes_wf hw, ?_⟩⟩
  rintro ys ⟨r, w, m, p, rfl, hr, hw', p0, p1⟩
  have sm := drRm_sm hr
  simp only [F_lent_dent, F_lent_ient, F_lent_sent, F_lent_samerm, F_lent_irov, F_lent_alive, s_dent, s_ient, s_sent, s_samerm, s_irov, s_alive, Tree.holds, ltI_t, ltI_f, leI_t, leI_f, all_cons, all_nil, and_true, true_and, forall_eq, decide_eq_true_eq, decide_eq_false_iff_not, beq_iff_eq, beq_eq_false_iff_ne, bne_iff_ne, bne_eq_false_iff_eq, ne_eq, Decidable.not_not, selI_z, selB_z, selS_z, selN_z, selL_z, selI_s, selB_s, selS_s, selN_s, selL_s, Int.toNat_natCast, Nat.mul_one, Nat.zero_add, Nat.div_one, List.drop_zero, Nat.zero_mul, Nat.le_refl, Bool.not_eq_true', Bool.not_eq_false', Bool.false_eq_true, Bool.true_eq_false, not_true_eq_false, not_false_eq_true, false_imp_iff, true_imp_iff, if_true, if_false, sig, sigF, sigW, sigR, sigO, sigD, sigWD, List.map_cons, List.map_nil, roomD, List.cons_append, unRm_x, unS_texts, List.drop_succ_cons, List.drop_zero, List.length_cons, List.length_nil, List.take_zero, List.nil_append, textsD_take, textsD_len, sel_kstr, ByteArray.toList_eq]
  have h20 := hr.2.1
  have z0 : zeroRm.l.length ≤ 1048576 := Nat.zero_le _
  have sr : r.l.length ≤ 1048576 := by omega
  have u0 : unRm [D.str ⟨#[]⟩, .int .i64 0, .int .i64 0, .bool false, .list 9 0 []] = zeroRm := rfl
  rw [u0]
  rcases ent_cases r w m p with E | E | E | E | ⟨E, hv, hk, hp, hs⟩ | ⟨E, hv, hk, hh⟩ | ⟨E, hv, hw1, hk, hh, h8⟩
  · simp only [E, sameRm_self]
    repeat' (first | exact trivial | rfl | exact ⟨r, w, m, p, rfl, sm, by omega⟩ | exact ⟨zeroRm, zeroRm, rfl, z0⟩ | exact ⟨zeroRm, r, rfl, z0⟩ | omega | (intro h9; cases h9; done) | (intro h9; exact absurd rfl h9) | (intro h9; exact absurd trivial h9) | (intro h9; exact absurd h9 (by decide)) | (intro _) | apply And.intro)
    all_goals trace_state
  · simp only [E, sameRm_self]
    repeat' (first | exact trivial | rfl | exact ⟨r, w, m, p, rfl, sm, by omega⟩ | exact ⟨r, r, rfl, sr⟩ | exact ⟨r, zeroRm, rfl, sr⟩ | omega | (intro h9; cases h9; done) | (intro h9; exact absurd rfl h9) | (intro h9; exact absurd trivial h9) | (intro h9; exact absurd h9 (by decide)) | (intro h9; exact absurd h9 (by omega)) | (intro _) | apply And.intro)
    all_goals trace_state
  · simp only [E, sameRm_self]
    repeat' (first | exact trivial | rfl | exact ⟨r, w, m, p, rfl, sm, by omega⟩ | exact ⟨r, r, rfl, sr⟩ | exact ⟨r, zeroRm, rfl, sr⟩ | omega | (intro h9; cases h9; done) | (intro h9; exact absurd rfl h9) | (intro h9; exact absurd trivial h9) | (intro h9; exact absurd h9 (by decide)) | (intro h9; exact absurd h9 (by omega)) | (intro _) | apply And.intro)
    all_goals trace_state
  · simp only [E, sameRm_self]
    repeat' (first | exact trivial | rfl | exact ⟨r, w, m, p, rfl, sm, by omega⟩ | exact ⟨r, r, rfl, sr⟩ | exact ⟨r, zeroRm, rfl, sr⟩ | omega | (intro h9; cases h9; done) | (intro h9; exact absurd rfl h9) | (intro h9; exact absurd trivial h9) | (intro h9; exact absurd h9 (by decide)) | (intro h9; exact absurd h9 (by omega)) | (intro _) | apply And.intro)
    all_goals trace_state
  · have hs0 := (inB_iff.mp (room_iff.mp hv).2.2.1).1
    have hm : r.s ≠ 0 → (m == r.s) = true := fun h => by
      by_cases e : m = r.s
      · rw [e]; exact beq_self_eq_true _
      · exact absurd ⟨by omega, e⟩ hs
    simp only [E, sameRm_self]
    repeat' (first | exact trivial | rfl | exact ⟨r, w, m, p, rfl, sm, by omega⟩ | exact ⟨r, r, rfl, sr⟩ | exact ⟨r, zeroRm, rfl, sr⟩ | (intro h9; rw [hk] at h9; cases h9; done) | (intro h9; exact absurd hp h9) | (intro h9; rw [hm h9]; done) | omega | (intro h9; cases h9; done) | (intro h9; exact absurd rfl h9) | (intro h9; exact absurd trivial h9) | (intro h9; exact absurd h9 (by decide)) | (intro h9; exact absurd h9 (by omega)) | (intro _) | apply And.intro)
    all_goals trace_state
  · simp only [E, sameRm_self]
    repeat' (first | exact trivial | rfl | exact ⟨r, w, m, p, rfl, sm, by omega⟩ | exact ⟨r, r, rfl, sr⟩ | exact ⟨r, zeroRm, rfl, sr⟩ | exact ⟨w, r, r, 0, rfl, hr, sm, hv, hh, hk, by omega, by omega⟩ | omega | (intro h9; cases h9; done) | (intro h9; exact absurd rfl h9) | (intro h9; exact absurd trivial h9) | (intro h9; exact absurd h9 (by decide)) | (intro h9; exact absurd h9 (by omega)) | (intro _) | apply And.intro)
    all_goals trace_state
  · have x20 : (r.l ++ [w]).length = r.l.length + 1 := by rw [List.length_append]; rfl
    have v1 := room_push hv hw1 hh h8
    have sx : smRm ⟨r.w, r.s, r.m, r.k, r.l ++ [w]⟩ := ⟨sm.1, by show (r.l ++ [w]).length ≤ 1048576; omega, fun y hy => by
      rcases List.mem_append.mp hy with h | h
      · exact sm.2.2 y h
      · simp at h; rw [h]; omega⟩
    simp only [E, sameRm_self]
    repeat' (first | exact trivial | rfl | exact ⟨r, w, m, p, rfl, sm, by omega⟩ | exact ⟨⟨r.w, r.s, r.m, r.k, r.l ++ [w]⟩, ⟨r.w, r.s, r.m, r.k, r.l ++ [w]⟩, rfl, sx.2.1⟩ | exact ⟨⟨r.w, r.s, r.m, r.k, r.l ++ [w]⟩, zeroRm, rfl, sx.2.1⟩ | exact ⟨⟨r.w, r.s, r.m, r.k, r.l ++ [w]⟩, r, rfl, sx.2.1⟩ | exact ⟨w, r, ⟨r.w, r.s, r.m, r.k, r.l ++ [w]⟩, 0, rfl, hr, sx, v1, has_push _ _, hk, by show (r.l ++ [w]).length ≤ _; omega, Nat.zero_le _⟩ | omega | (intro h9; cases h9; done) | (intro h9; exact absurd rfl h9) | (intro h9; exact absurd trivial h9) | (intro h9; exact absurd h9 (by decide)) | (intro h9; exact absurd h9 (by omega)) | (intro _) | apply And.intro)
    all_goals trace_state
theorem ok_ladm : FnOk Try.prog 7 s_ladm := by
  refine fnOk (fn := Try.f7) (F := F_ladm) (hs := hs_ladm) (tab_cons ok_dadm (tab_cons ok_iadm (tab_cons ok_sadm (tab_cons ok_samerm (tab_cons ok_samet (tab_cons ok_irov (tab_cons ok_alive tab_nil))))))) mixed rfl rfl rfl [.list 5] (by kernel_rfl) (by simp) ?_
  intro n l hw
  refine ⟨fun _ _ => False, fun _ _ => 0, ?_, fun _ _ h => h.elim⟩
  rw [t_ladm]
  simp only [F_ladm_dadm, F_ladm_iadm, F_ladm_sadm, F_ladm_samerm, F_ladm_samet, F_ladm_irov, F_ladm_alive, s_dadm, s_iadm, s_sadm, s_samerm, s_samet, s_irov, s_alive, Tree.holds, ltI_t, ltI_f, leI_t, leI_f, all_cons, all_nil, and_true, true_and, forall_eq, decide_eq_true_eq, decide_eq_false_iff_not, beq_iff_eq, beq_eq_false_iff_ne, bne_iff_ne, bne_eq_false_iff_eq, ne_eq, Decidable.not_not, selI_z, selB_z, selS_z, selN_z, selL_z, selI_s, selB_s, selS_s, selN_s, selL_s, Int.toNat_natCast, Nat.mul_one, Nat.zero_add, Nat.div_one, List.drop_zero, Nat.zero_mul, Nat.le_refl, Bool.not_eq_true', Bool.not_eq_false', Bool.false_eq_true, Bool.true_eq_false, not_true_eq_false, not_false_eq_true, false_imp_iff, true_imp_iff, if_true, if_false, sig, sigF, sigW, sigR, sigO, sigD, sigWD, List.map_cons, List.map_nil]
  refine ⟨fun _ => trivial, fun _ => ⟨bytes_wf hw, ?_⟩⟩
  rintro ys ⟨r, rfl, hr⟩
  have sm := drRm_sm hr
  simp only [F_ladm_dadm, F_ladm_iadm, F_ladm_sadm, F_ladm_samerm, F_ladm_samet, F_ladm_irov, F_ladm_alive, s_dadm, s_iadm, s_sadm, s_samerm, s_samet, s_irov, s_alive, Tree.holds, ltI_t, ltI_f, leI_t, leI_f, all_cons, all_nil, and_true, true_and, forall_eq, decide_eq_true_eq, decide_eq_false_iff_not, beq_iff_eq, beq_eq_false_iff_ne, bne_iff_ne, bne_eq_false_iff_eq, ne_eq, Decidable.not_not, selI_z, selB_z, selS_z, selN_z, selL_z, selI_s, selB_s, selS_s, selN_s, selL_s, Int.toNat_natCast, Nat.mul_one, Nat.zero_add, Nat.div_one, List.drop_zero, Nat.zero_mul, Nat.le_refl, Bool.not_eq_true', Bool.not_eq_false', Bool.false_eq_true, Bool.true_eq_false, not_true_eq_false, not_false_eq_true, false_imp_iff, true_imp_iff, if_true, if_false, sig, sigF, sigW, sigR, sigO, sigD, sigWD, List.map_cons, List.map_nil, roomD, List.cons_append, unRm_x, unS_texts, List.drop_succ_cons, List.drop_zero, List.length_cons, List.length_nil, List.take_zero, List.nil_append, textsD_take, textsD_len, sel_kstr, ByteArray.toList_eq]
  have A0 : roomB r = false → admitR r = (zeroRm, ⟨#[]⟩) := fun h => by unfold admitR; rw [if_neg (by rw [h]; simp)]
  have A1 : roomB r = true → admitR r = ({ r with l := r.l.drop 1 }, r.l.headD ⟨#[]⟩) := fun h => by unfold admitR; rw [if_pos h]
  have smA : smRm (admitR r).1 := by
    cases hv : roomB r with
    | false => rw [A0 hv]; exact ⟨by decide, Nat.zero_le _, fun x hx => by cases hx⟩
    | true => rw [A1 hv]; exact ⟨sm.1, by show (r.l.drop 1).length ≤ _; rw [List.length_drop]; have := sm.2.1; omega, fun x hx => sm.2.2 x (List.mem_of_mem_drop hx)⟩
  have len := smA.2.1
  refine ⟨⟨r, rfl, sm⟩, ⟨r, rfl, sm⟩, ⟨_, _, rfl, len⟩, fun h => (by rw [sameRm_self] at h; cases h), fun _ => ⟨fun he => ⟨⟨r, rfl, sm⟩, fun _ => trivial, fun hv => ⟨fun h0 => ⟨⟨_, r, rfl, len⟩, fun _ => trivial, fun h => ?_⟩, fun h0 => ?_⟩⟩, fun he => ?_⟩⟩
  · rw [A1 hv] at h
    have e : r.l = [] := List.length_eq_zero_iff.mp (by omega)
    have e2 : ({ r with l := r.l.drop 1 } : Rm) = r := by
      obtain ⟨a1, a2, a3, a4, a5⟩ := r
      have e : a5 = [] := e
      subst e
      rfl
    rw [e2, sameRm_self] at h; cases h
  · rw [A1 hv] at he
    match hl : r.l, h0 with
    | [], h0 => exact absurd rfl h0
    | x :: t, _ =>
      rw [hl] at he
      exact absurd he (word_some ((room_iff.mp hv).1.1 x (by rw [hl]; simp)))
  · have : ∃ x t, r.l = x :: t ∧ roomB r = true ∧ admitR r = ({ r with l := t, k := r.k }, x) := by
      cases hv : roomB r with
      | false => rw [A0 hv] at he; exact absurd rfl he
      | true =>
        match hl : r.l with
        | [] => rw [A1 hv, hl] at he; exact absurd rfl he
        | x :: t => exact ⟨x, t, rfl, rfl, by rw [A1 hv, hl]; rfl⟩
    obtain ⟨x, t, e1, hv, e2⟩ := this
    have v1 : roomB { r with l := t, k := r.k } = true := room_sub hv (by rw [e1]; exact List.sublist_cons_self _ _)
    have h20 := hr.2.1
    have e3 : t.length + 1 = r.l.length := by rw [e1]; rfl
    rw [e2] at smA ⊢
    simp only [text_cons, unS_texts, v1, e1, sameB_rfl]
    have e4 : (x :: t).length = 1 + t.length := by rw [List.length_cons]; omega
    exact ⟨⟨⟨r.w, r.s, r.m, r.k, t⟩, rfl, smA⟩, fun _ => ⟨by omega, by simp [textsD_len]; omega, ⟨x :: t, x :: t, by rw [e4], by rw [e4]; omega⟩, fun _ => ret_bool' (beq_self_eq_true _), fun h => by cases h⟩, fun h => by cases h⟩
theorem ok_llock : FnOk Try.prog 9 s_llock := by
  refine fnOk (fn := Try.f9) (F := F_llock) (hs := hs_llock) (tab_cons ok_dlock (tab_cons ok_ilock (tab_cons ok_slock (tab_cons ok_samerm (tab_cons ok_samet (tab_cons ok_irov (tab_cons ok_alive tab_nil))))))) mixed rfl rfl rfl [.list 5] (by kernel_rfl) (by simp) ?_
  intro n l hw
  refine ⟨fun _ _ => False, fun _ _ => 0, ?_, fun _ _ h => h.elim⟩
  rw [t_llock]
  simp only [F_llock_dlock, F_llock_ilock, F_llock_slock, F_llock_samerm, F_llock_samet, F_llock_irov, F_llock_alive, s_dlock, s_ilock, s_slock, s_samerm, s_samet, s_irov, s_alive, Tree.holds, ltI_t, ltI_f, leI_t, leI_f, all_cons, all_nil, and_true, true_and, forall_eq, decide_eq_true_eq, decide_eq_false_iff_not, beq_iff_eq, beq_eq_false_iff_ne, bne_iff_ne, bne_eq_false_iff_eq, ne_eq, Decidable.not_not, selI_z, selB_z, selS_z, selN_z, selL_z, selI_s, selB_s, selS_s, selN_s, selL_s, Int.toNat_natCast, Nat.mul_one, Nat.zero_add, Nat.div_one, List.drop_zero, Nat.zero_mul, Nat.le_refl, Bool.not_eq_true', Bool.not_eq_false', Bool.false_eq_true, Bool.true_eq_false, not_true_eq_false, not_false_eq_true, false_imp_iff, true_imp_iff, if_true, if_false, sig, sigF, sigW, sigR, sigO, sigD, sigWD, List.map_cons, List.map_nil]
  refine ⟨fun _ => trivial, fun _ => ⟨bytes_wf hw, ?_⟩⟩
  rintro ys ⟨r, k, rfl, hr⟩
  have sm := drRm_sm hr
  simp only [F_llock_dlock, F_llock_ilock, F_llock_slock, F_llock_samerm, F_llock_samet, F_llock_irov, F_llock_alive, s_dlock, s_ilock, s_slock, s_samerm, s_samet, s_irov, s_alive, Tree.holds, ltI_t, ltI_f, leI_t, leI_f, all_cons, all_nil, and_true, true_and, forall_eq, decide_eq_true_eq, decide_eq_false_iff_not, beq_iff_eq, beq_eq_false_iff_ne, bne_iff_ne, bne_eq_false_iff_eq, ne_eq, Decidable.not_not, selI_z, selB_z, selS_z, selN_z, selL_z, selI_s, selB_s, selS_s, selN_s, selL_s, Int.toNat_natCast, Nat.mul_one, Nat.zero_add, Nat.div_one, List.drop_zero, Nat.zero_mul, Nat.le_refl, Bool.not_eq_true', Bool.not_eq_false', Bool.false_eq_true, Bool.true_eq_false, not_true_eq_false, not_false_eq_true, false_imp_iff, true_imp_iff, if_true, if_false, sig, sigF, sigW, sigR, sigO, sigD, sigWD, List.map_cons, List.map_nil, roomD, List.cons_append, unRm_x, unS_texts, List.drop_succ_cons, List.drop_zero, List.length_cons, List.length_nil, List.take_zero, List.nil_append, textsD_take, textsD_len, sel_kstr, ByteArray.toList_eq]
  have L0 : roomB r = false → lockR r k = (zeroRm, []) := fun h => by unfold lockR; rw [if_neg (by rw [h]; simp)]
  have L1 : roomB r = true → k = true → lockR r k = ({ r with l := r.l, k := true }, []) := fun h hk => by unfold lockR; rw [if_pos h, if_pos hk]
  have L2 : roomB r = true → k = false → lockR r k = ({ r with l := [], k := false }, r.l) := fun h hk => by unfold lockR; rw [if_pos h, if_neg (by rw [hk]; simp)]
  have h20 := hr.2.1
  have RX : ∃ r_1 : Rm, [D.str r.w, .int .i64 r.s, .int .i64 r.m, .bool r.k, .list 9 r.l.length (textsD r.l)] = [.str r_1.w, .int .i64 r_1.s, .int .i64 r_1.m, .bool r_1.k, .list 9 r_1.l.length (textsD r_1.l)] ∧ smRm r_1 := ⟨r, rfl, sm⟩
  cases hv : roomB r with
  | false =>
    simp only [L0 hv, sameRm_self, sameB_rfl]
    have u0 : unRm [D.str ⟨#[]⟩, .int .i64 0, .int .i64 0, .bool false, .list 9 0 []] = zeroRm := rfl
    rw [u0, sameRm_self]
    have sx : zeroRm.l.length ≤ 1048576 := Nat.zero_le _
    have sxx : smRm zeroRm := ⟨by decide, Nat.zero_le _, fun x hx => by cases hx⟩
    have sl : ([] : List ByteArray).length ≤ 1048576 := Nat.zero_le _
    repeat' (first | exact trivial | rfl | exact ⟨r, _, rfl, sm⟩ | exact ⟨r, rfl, sm⟩ | exact ⟨zeroRm, zeroRm, rfl, sx⟩ | exact ⟨zeroRm, rfl, sxx⟩ | exact ⟨zeroRm, zeroRm, rfl, sx⟩ | exact ⟨[], [], rfl, sl⟩ | omega | (intro h9; cases h9; done) | (intro h9; exact absurd rfl h9) | (intro h9; exact absurd trivial h9) | (intro _) | apply And.intro)
    all_goals trace_state
  | true =>
    cases hk : k with
    | true =>
      have v1 : roomB { r with l := r.l, k := true } = true := room_sub hv (List.Sublist.refl _)
      have L3 := L1 hv hk
      rw [hk] at L3
      have tn : textsD [] = [] := rfl
      have slr : r.l.length ≤ 1048576 := by omega
      have lt := textsD_len r.l
      simp only [L3, sameRm_self, sameB_rfl, v1, tn, List.length_nil, Nat.zero_add, Nat.add_zero, List.nil_append, List.append_nil, textsD_take, unS_texts]
      have sx : r.l.length ≤ 1048576 := by omega
      have sxx : smRm ⟨r.w, r.s, r.m, true, r.l⟩ := sm
      have sl : ([] : List ByteArray).length ≤ 1048576 := Nat.zero_le _
      repeat' (first | exact trivial | rfl | exact ⟨r.l, r.l, rfl, slr⟩ | exact ⟨[], [], rfl, Nat.zero_le _⟩ | exact ⟨r, _, rfl, sm⟩ | exact ⟨r, rfl, sm⟩ | exact ⟨⟨r.w, r.s, r.m, true, r.l⟩, ⟨r.w, r.s, r.m, true, r.l⟩, rfl, sx⟩ | exact ⟨⟨r.w, r.s, r.m, true, r.l⟩, rfl, sxx⟩ | exact ⟨⟨r.w, r.s, r.m, true, r.l⟩, zeroRm, rfl, sx⟩ | exact ⟨[], [], rfl, sl⟩ | omega | (intro h9; cases h9; done) | (intro h9; exact absurd rfl h9) | (intro h9; exact absurd trivial h9) | (intro _) | apply And.intro)
      all_goals trace_state
    | false =>
      have v1 : roomB { r with l := [], k := false } = true := room_sub hv (List.nil_sublist _)
      have L3 := L2 hv hk
      rw [hk] at L3
      have tn : textsD [] = [] := rfl
      have slr : r.l.length ≤ 1048576 := by omega
      have lt := textsD_len r.l
      simp only [L3, sameRm_self, sameB_rfl, v1, tn, List.length_nil, Nat.zero_add, Nat.add_zero, List.nil_append, List.append_nil, textsD_take, unS_texts]
      have sx : ([] : List ByteArray).length ≤ 1048576 := Nat.zero_le _
      have sxx : smRm ⟨r.w, r.s, r.m, false, []⟩ := ⟨sm.1, Nat.zero_le _, fun x hx => by cases hx⟩
      have sl : r.l.length ≤ 1048576 := by omega
      repeat' (first | exact trivial | rfl | exact ⟨r.l, r.l, rfl, slr⟩ | exact ⟨[], [], rfl, Nat.zero_le _⟩ | exact ⟨r, _, rfl, sm⟩ | exact ⟨r, rfl, sm⟩ | exact ⟨⟨r.w, r.s, r.m, false, []⟩, ⟨r.w, r.s, r.m, false, []⟩, rfl, sx⟩ | exact ⟨⟨r.w, r.s, r.m, false, []⟩, rfl, sxx⟩ | exact ⟨⟨r.w, r.s, r.m, false, []⟩, zeroRm, rfl, sx⟩ | exact ⟨r.l, r.l, rfl, sl⟩ | omega | (intro h9; cases h9; done) | (intro h9; exact absurd rfl h9) | (intro h9; exact absurd trivial h9) | (intro _) | apply And.intro)
      all_goals trace_state
end Go.Proofs.Ytcnmpghenfbflaa.Mini
end
