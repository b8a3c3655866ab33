/- Parts of the proof: SOffer. -/
import Derived.Test.YtjleempapphlhaaGeOffer
section
namespace Go.Proofs.Ytjleempapphlhaa.Mini
open Go Go.RowKit
set_option linter.unusedVariables false
set_option linter.unusedSimpArgs false
set_option maxRecDepth 20000
theorem unM_med (m : Med) : unM (medD m) = m := by
  show Med.mk _ _ _ _ (unS (textsD m.c)) = m
  rw [unS_texts]
  rfl
theorem medD_len (m : Med) : (medD m).length = 5 := rfl
theorem unO_off : ∀ l : List Med, unO (offD l) = l
  | [] => rfl
  | m :: l => by
    show Med.mk m.k m.p m.s m.h (unS (textsD m.c)) :: unO (offD l) = m :: l
    rw [unS_texts, unO_off l]
theorem offD_len (l : List Med) : (offD l).length = l.length * 5 := flatD_len medD_len l
theorem ok_sway : FnOk Try.prog 48 s_sway := by
  refine fnOk (fn := Try.f48) (F := F_sway) (hs := hs_sway) tab_nil mixed rfl rfl rfl [.str, .int .i64, .bool, .bool, .list 9] (by kernel_rfl) (by simp) ?_
  intro k p s h n c _
  refine ⟨fun _ _ => False, fun _ _ => 0, ?_, fun _ _ h => h.elim⟩
  rw [t_sway]
  cases s <;> cases h <;> simp only [Tree.holds, ltI_t, ltI_f, leI_t, leI_f, all_cons, all_nil, and_true, true_and, forall_eq, decide_eq_true_eq, decide_eq_false_iff_not, beq_iff_eq, beq_eq_false_iff_ne, bne_iff_ne, bne_eq_false_iff_eq, ne_eq, Decidable.not_not, selI_z, selB_z, selS_z, selN_z, selL_z, selI_s, selB_s, selS_s, selN_s, selL_s, Int.toNat_natCast, Nat.mul_one, Nat.zero_add, Nat.div_one, List.drop_zero, Nat.zero_mul, Nat.le_refl, Bool.not_eq_true', Bool.not_eq_false', Bool.false_eq_true, Bool.true_eq_false, not_true_eq_false, not_false_eq_true, false_imp_iff, true_imp_iff, if_true, if_false, sig, sigF, sigW, sigR, sigO, sigD, sigWD, List.map_cons, List.map_nil] <;> simp <;> rfl
theorem ok_smed : FnOk Try.prog 13 s_smed := by
  refine fnOk (fn := Try.f13) (F := F_smed) (hs := hs_smed) (tab_cons ok_sword (tab_cons ok_sin tab_nil)) mixed rfl rfl rfl [.str, .int .i64, .bool, .bool, .list 9] (by kernel_rfl) (by simp) ?_
  rintro k p s h n cs ⟨m, e, hm⟩
  obtain ⟨mk, mp, ms, mh, mc⟩ := m
  simp only [medD, List.cons.injEq, D.str.injEq, D.int.injEq, D.bool.injEq, D.list.injEq, true_and, and_true] at e
  obtain ⟨rfl, rfl, rfl, rfl, rfl, rfl⟩ := e
  obtain ⟨h1, h2, h3⟩ := hm
  have h1 : k.size ≤ 1048576 := h1
  have h2 : mc.length ≤ 1048576 := h2
  have h3 : ∀ x ∈ mc, x.size ≤ 1048576 := h3
  have hu : unM [.str k, .int .i64 p, .bool s, .bool h, .list 9 mc.length (textsD mc)] = ⟨k, p, s, h, mc⟩ := unM_med ⟨k, p, s, h, mc⟩
  refine ⟨fun h' ys => (h' = 0 ∧ ∃ i : Nat, ys = [.int .i64 i, .str k, .int .i64 p, .bool s, .bool h, .list 9 mc.length (textsD mc)] ∧ i ≤ mc.length ∧ (∀ (a : Nat) (x : ByteArray), a < i → mc[a]? = some x → wordS x = true) ∧ (∀ (a b : Nat) (x y : ByteArray), mc[a]? = some x → mc[b]? = some y → a < b → b < i → x.data.toList ≠ y.data.toList)) ∨
    (h' = 1 ∧ ∃ i j : Nat, ys = [.int .i64 i, .int .i64 j, .str k, .int .i64 p, .bool s, .bool h, .list 9 mc.length (textsD mc)] ∧ i < mc.length ∧ j ≤ i ∧ (∀ (a : Nat) (x : ByteArray), a < i + 1 → mc[a]? = some x → wordS x = true) ∧ (∀ (a b : Nat) (x y : ByteArray), mc[a]? = some x → mc[b]? = some y → a < b → b < i → x.data.toList ≠ y.data.toList) ∧ (∀ (a : Nat) (x y : ByteArray), mc[a]? = some x → mc[i]? = some y → a < j → x.data.toList ≠ y.data.toList)),
    fun h' ys => mu2 mc.length h' (selI ys 0).toNat (selI ys 1).toNat, ?_, ?_⟩
  · rw [t_smed]
    simp only [F_smed_sword, F_smed_sin, s_sword, s_sin, Tree.holds, ltI_t, ltI_f, leI_t, leI_f, all_cons, all_nil, and_true, true_and, forall_eq, decide_eq_true_eq, decide_eq_false_iff_not, beq_iff_eq, beq_eq_false_iff_ne, bne_iff_ne, bne_eq_false_iff_eq, ne_eq, Decidable.not_not, selI_z, selB_z, selS_z, selN_z, selL_z, selI_s, selB_s, selS_s, selN_s, selL_s, Int.toNat_natCast, Nat.mul_one, Nat.zero_add, Nat.div_one, List.drop_zero, Nat.zero_mul, Nat.le_refl, Bool.not_eq_true', Bool.not_eq_false', Bool.false_eq_true, Bool.true_eq_false, not_true_eq_false, not_false_eq_true, false_imp_iff, true_imp_iff, if_true, if_false, sig, sigF, sigW, sigR, sigO, sigD, sigWD, List.map_cons, List.map_nil]
    exact .inl ⟨0, rfl, by omega, fun a x h => by omega, fun a b x y _ _ _ h => by omega⟩
  · rintro h' ys (⟨rfl, i, rfl, i1, i2, i3⟩ | ⟨rfl, i, j, rfl, i1, j1, i2, i3, i4⟩)
    · rw [t_smed0]
      simp only [F_smed_sword, F_smed_sin, s_sword, s_sin, Tree.holds, ltI_t, ltI_f, leI_t, leI_f, all_cons, all_nil, and_true, true_and, forall_eq, decide_eq_true_eq, decide_eq_false_iff_not, beq_iff_eq, beq_eq_false_iff_ne, bne_iff_ne, bne_eq_false_iff_eq, ne_eq, Decidable.not_not, selI_z, selB_z, selS_z, selN_z, selL_z, selI_s, selB_s, selS_s, selN_s, selL_s, Int.toNat_natCast, Nat.mul_one, Nat.zero_add, Nat.div_one, List.drop_zero, Nat.zero_mul, Nat.le_refl, Bool.not_eq_true', Bool.not_eq_false', Bool.false_eq_true, Bool.true_eq_false, not_true_eq_false, not_false_eq_true, false_imp_iff, true_imp_iff, if_true, if_false, sig, sigF, sigW, sigR, sigO, sigD, sigWD, List.map_cons, List.map_nil, sel_kstr, hu]
      refine ⟨fun hi => ?_, fun hi => ⟨m20 h1, ?_⟩⟩
      · obtain ⟨x, x1, x2, x3⟩ := textsD_get (ls := mc) (i := i) (by omega)
        rw [selS_of x2]
        refine ⟨⟨by omega, by omega⟩, x2, m20 (h3 x x3), fun e => ret_bool' ?_, fun e => ⟨.inr ⟨i, 0, rfl, by omega, by omega, fun a y ha hy => ?_, i3, fun a x y _ _ h => by omega⟩, ?_⟩⟩
        · unfold medB; rw [word_no x3 e]; rfl
        · by_cases hai : a = i
          · rw [hai, x1] at hy; injection hy with hy; rw [← hy]; exact e
          · exact i2 a y (by omega) hy
        · unfold mu2; simp; omega
      · obtain rfl : i = mc.length := by omega
        have ha : mc.all wordS = true := List.all_eq_true.mpr (fun x hx => by
          obtain ⟨a, ha, rfl⟩ := List.getElem_of_mem hx
          exact i2 a _ ha (List.getElem?_eq_getElem ha))
        have hd : distB mc = true := dist_yes (fun a b x y hx hy hab => i3 a b x y hx hy hab (List.getElem?_eq_some_iff.mp hy).1)
        have hm : medB ⟨k, p, s, h, mc⟩ = (wordS k && (inB p 0 65535 && inB mc.length 1 4)) := by unfold medB; simp only [ha, hd, Bool.and_self, Bool.true_and]
        refine ⟨fun e0 => ⟨fun e1 => ret_bool' ?_, fun e1 => ret_bool' ?_⟩, fun e0 => ret_bool' ?_⟩
        · rw [hm, show wordS k = true from e0, e1]; rfl
        · rw [hm, e1]; simp
        · rw [hm, show wordS k = false from e0]; rfl
    · rw [t_smed1]
      simp only [F_smed_sword, F_smed_sin, s_sword, s_sin, Tree.holds, ltI_t, ltI_f, leI_t, leI_f, all_cons, all_nil, and_true, true_and, forall_eq, decide_eq_true_eq, decide_eq_false_iff_not, beq_iff_eq, beq_eq_false_iff_ne, bne_iff_ne, bne_eq_false_iff_eq, ne_eq, Decidable.not_not, selI_z, selB_z, selS_z, selN_z, selL_z, selI_s, selB_s, selS_s, selN_s, selL_s, Int.toNat_natCast, Nat.mul_one, Nat.zero_add, Nat.div_one, List.drop_zero, Nat.zero_mul, Nat.le_refl, Bool.not_eq_true', Bool.not_eq_false', Bool.false_eq_true, Bool.true_eq_false, not_true_eq_false, not_false_eq_true, false_imp_iff, true_imp_iff, if_true, if_false, sig, sigF, sigW, sigR, sigO, sigD, sigWD, List.map_cons, List.map_nil, sel_kstr, hu, ByteArray.toList_eq]
      obtain ⟨y, y1, y2, y3⟩ := textsD_get (ls := mc) (i := i) (by omega)
      refine ⟨fun hj => ?_, fun hj => ⟨by unfold inK; omega, .inl ⟨i + 1, rfl, by omega, i2, fun a b x z hx hz hab hb => ?_⟩, ?_⟩⟩
      · obtain ⟨x, x1, x2, x3⟩ := textsD_get (ls := mc) (i := j) (by omega)
        rw [selS_of x2, selS_of y2]
        refine ⟨⟨by omega, by omega⟩, x2, ⟨by omega, by omega⟩, y2, fun e => ret_bool' ?_, fun e => ⟨by unfold inK; omega, .inr ⟨i, j + 1, rfl, by omega, by omega, i2, i3, fun a z w hz hw ha => ?_⟩, ?_⟩⟩
        · unfold medB; rw [dist_no x1 y1 (by omega) e]; simp
        · by_cases haj : a = j
          · rw [haj, x1] at hz; rw [y1] at hw
            injection hz with hz; injection hw with hw
            rw [← hz, ← hw]; exact e
          · exact i4 a z w hz hw (by omega)
        · unfold mu2; simp; omega
      · by_cases hbi : b = i
        · rw [hbi] at hz hab
          exact i4 a x z hx hz (by omega)
        · exact i3 a b x z hx hz hab (by omega)
      · unfold mu2; simp; omega
/-- The words of a text's beginning. -/
def wordsK (s : ByteArray) (k : Nat) : List ByteArray := (wordsL (s.data.toList.take k)).map bytesOf
theorem wordsK_zero (s : ByteArray) : wordsK s 0 = [⟨#[]⟩] := rfl
theorem wordsK_all (s : ByteArray) : wordsK s s.size = wordsS s := by
  unfold wordsK wordsS
  rw [List.take_of_length_le (by simp)]
theorem wordsK_step (s : ByteArray) (k : Nat) (h : k < s.size) : ∃ i a, wordsK s k = i ++ [a] ∧ wordsK s (k + 1) = if s[k] = 32 then i ++ [a] ++ [⟨#[]⟩] else i ++ [a ++ s.extract k (k + 1)] := by
  obtain ⟨i, a, h1, h2⟩ := wordsL_snoc (s.data.toList.take k) s[k]
  refine ⟨i.map bytesOf, bytesOf a, by unfold wordsK; rw [h1]; simp, ?_⟩
  unfold wordsK
  rw [take_snoc s k h, h2]
  split
  · simp; rfl
  · rw [List.map_append]
    congr 1
    show [bytesOf (a ++ [s[k]])] = _
    congr 1
    apply ByteArray.ext
    apply Array.ext'
    have e := ext_one s k h
    have e2 : (s.extract k (k + 1)).data.toList = [s[k]] := e
    show (a ++ [s[k]]) = (bytesOf a ++ s.extract k (k + 1)).data.toList
    rw [cat_list, e2]
    rfl
theorem wordsK_size (s : ByteArray) : ∀ k, k ≤ s.size → (wordsK s k).length ≤ k + 1 ∧ ∀ w ∈ wordsK s k, w.size ≤ k
  | 0, _ => by rw [wordsK_zero]; exact ⟨by simp, fun w hw => by simp at hw; subst hw; exact Nat.le_refl _⟩
  | k + 1, h => by
    obtain ⟨h1, h2⟩ := wordsK_size s k (by omega)
    obtain ⟨i, a, e1, e2⟩ := wordsK_step s k (by omega)
    rw [e1] at h1 h2
    rw [e2]
    have hx : (s.extract k (k + 1)).size = 1 := by rw [ByteArray.size_extract]; omega
    split
    · refine ⟨by simp at h1 ⊢; omega, fun w hw => ?_⟩
      rcases List.mem_append.mp hw with hw | hw
      · have := h2 w hw; omega
      · simp at hw; subst hw; exact Nat.zero_le _
    · refine ⟨by simp at h1 ⊢; omega, fun w hw => ?_⟩
      rcases List.mem_append.mp hw with hw | hw
      · have := h2 w (by simp [hw]); omega
      · simp at hw
        subst hw
        have := h2 a (by simp)
        rw [size_cat, hx]; omega
theorem ok_swords : FnOk Try.prog 54 s_swords := by
  refine fnOk (fn := Try.f54) (F := F_swords) (hs := hs_swords) tab_nil mixed rfl rfl rfl [.str] (by kernel_rfl) (by simp) ?_
  intro s hp
  have hp : s.size ≤ 1048575 := hp
  refine ⟨fun h ys => h = 0 ∧ ∃ k : Nat, ys = [.str s, .int .i64 (0 : Nat), .int .i64 ((wordsK s k).length : Nat), .int .i64 k, .list 9 0 (textsD (wordsK s k))] ∧ k ≤ s.size, fun h ys => s.size - (selI ys 3).toNat, ?_, ?_⟩
  · rw [t_swords]
    simp only [Tree.holds, ltI_t, ltI_f, leI_t, leI_f, all_cons, all_nil, and_true, true_and, forall_eq, decide_eq_true_eq, decide_eq_false_iff_not, beq_iff_eq, beq_eq_false_iff_ne, bne_iff_ne, bne_eq_false_iff_eq, ne_eq, Decidable.not_not, selI_z, selB_z, selS_z, selN_z, selL_z, selI_s, selB_s, selS_s, selN_s, selL_s, Int.toNat_natCast, Nat.mul_one, Nat.zero_add, Nat.div_one, List.drop_zero, Nat.zero_mul, Nat.le_refl, Bool.not_eq_true', Bool.not_eq_false', Bool.false_eq_true, Bool.true_eq_false, not_true_eq_false, not_false_eq_true, false_imp_iff, true_imp_iff, if_true, if_false, sig, sigF, sigW, sigR, sigO, sigD, sigWD, List.map_cons, List.map_nil]
    exact ⟨0, rfl, by omega⟩
  · rintro h ys ⟨rfl, k, rfl, hk⟩
    rw [t_swords0]
    simp only [Tree.holds, ltI_t, ltI_f, leI_t, leI_f, all_cons, all_nil, and_true, true_and, forall_eq, decide_eq_true_eq, decide_eq_false_iff_not, beq_iff_eq, beq_eq_false_iff_ne, bne_iff_ne, bne_eq_false_iff_eq, ne_eq, Decidable.not_not, selI_z, selB_z, selS_z, selN_z, selL_z, selI_s, selB_s, selS_s, selN_s, selL_s, Int.toNat_natCast, Nat.mul_one, Nat.zero_add, Nat.div_one, List.drop_zero, Nat.zero_mul, Nat.le_refl, Bool.not_eq_true', Bool.not_eq_false', Bool.false_eq_true, Bool.true_eq_false, not_true_eq_false, not_false_eq_true, false_imp_iff, true_imp_iff, if_true, if_false, sig, sigF, sigW, sigR, sigO, sigD, sigWD, List.map_cons, List.map_nil, sel_kstr]
    obtain ⟨hn, hw⟩ := wordsK_size s k hk
    refine ⟨fun hj => ⟨⟨by omega, by omega⟩, ?_⟩, fun hj => ?_⟩
    · have hk2 : k < s.size := by omega
      obtain ⟨i, a, e1, e2⟩ := wordsK_step s k hk2
      have hb : byteI s k = (s[k].toNat : Int) := by
        unfold byteI
        rw [List.getD_eq_getElem?_getD, List.getElem?_eq_getElem (by simp; omega)]
        rfl
      have hl : (wordsK s k).length = i.length + 1 := by rw [e1]; simp
      have hx : (textsD (wordsK s k))[i.length]? = some (.str a) := textsD_at (by rw [e1]; simp)
      have h32 : ((s[k].toNat : Int) = 32) ↔ s[k] = 32 := by
        constructor
        · intro h; exact UInt8.toNat_inj.mp (show s[k].toNat = 32 by omega)
        · intro h; rw [h]; rfl
      have e5 : (textsD (wordsK s k)).length = i.length + 1 := by rw [textsD_len, hl]
      rw [hb, hl]
      refine ⟨fun he => ?_, fun he => ?_⟩
      · have e3 : wordsK s (k + 1) = wordsK s k ++ [⟨#[]⟩] := by rw [e2, if_pos (h32.mp he), e1]
        refine ⟨⟨by omega, by omega⟩, by unfold inK; omega, ⟨k + 1, ?_, by omega⟩, by omega⟩
        rw [e3, textsD_push, List.length_append, hl, ← hl, textsD_take]
        simp
      · have e3 : wordsK s (k + 1) = i ++ [a ++ s.extract k (k + 1)] := by rw [e2, if_neg (fun h => he (h32.mpr h))]
        have hz : (((i.length + 1 : Nat) : Int) - 1).toNat = i.length := by omega
        have hax : a.size ≤ k := hw a (by rw [e1]; simp)
        have hex : (s.extract k (k + 1)).size = 1 := by rw [ByteArray.size_extract]; omega
        have hk1 : ((k : Int) + 1).toNat = k + 1 := by omega
        simp only [Option.getD_some, Int.toNat_natCast, hz, hk1]
        rw [selS_of hx]
        refine ⟨by unfold inK; omega, by unfold inK; omega, ⟨by omega, by omega⟩, hx, by unfold inK; omega, ⟨by omega, by omega, by omega⟩, by omega, ⟨by omega, by omega⟩, by omega, by unfold inK; omega, ⟨k + 1, ?_, by omega⟩, by omega⟩
        rw [e3]
        have e6 : setL (textsD (wordsK s k)) i.length [D.str (a ++ s.extract k (k + 1))] = textsD (i ++ [a ++ s.extract k (k + 1)]) := by
          rw [e1]
          unfold setL textsD
          simp
        rw [e6]
        simp
    · obtain rfl : k = s.size := by omega
      have e6 := wordsK_all s
      rw [textsD_take, e6]
      exact ⟨⟨by rw [textsD_len]; omega, textsD_scal _⟩, rfl⟩
/-- The cells of a media of an offer. -/
theorem off_at {l : List Med} {i : Nat} {m : Med} (h : l[i]? = some m) : (offD l)[i * 5]? = some (.str m.k) ∧ (offD l)[i * 5 + 1]? = some (.int .i64 m.p) ∧ (offD l)[i * 5 + 1 + 1]? = some (.bool m.s) ∧ (offD l)[i * 5 + 1 + 1 + 1]? = some (.bool m.h) ∧ (offD l)[i * 5 + 1 + 1 + 1 + 1]? = some (.list 9 m.c.length (textsD m.c)) :=
  ⟨flatD_at medD_len h (j := 0) (by omega), flatD_at medD_len h (j := 1) (by omega), flatD_at medD_len h (j := 2) (by omega), flatD_at medD_len h (j := 3) (by omega), flatD_at medD_len h (j := 4) (by omega)⟩
theorem off_get {l : List Med} {i : Nat} (h : i < l.length) : ∃ m, l[i]? = some m ∧ m ∈ l := ⟨l[i], List.getElem?_eq_getElem h, List.getElem_mem h⟩
theorem med_no {l : List Med} {m : Med} (hm : m ∈ l) (h : medB m = false) : offB l = false := by
  unfold offB
  rw [show l.all medB = false by rw [List.all_eq_false]; exact ⟨m, hm, by rw [h]; simp⟩]
  rfl
theorem ok_soff : FnOk Try.prog 20 s_soff := by
  refine fnOk (fn := Try.f20) (F := F_soff) (hs := hs_soff) (tab_cons ok_smed tab_nil) mixed rfl rfl rfl [.list 25] (by kernel_rfl) (by simp) ?_
  rintro n cs ⟨l, e, hl, hm⟩
  simp only [List.cons.injEq, D.list.injEq, true_and, and_true] at e
  obtain ⟨rfl, rfl⟩ := e
  refine ⟨fun h ys => h = 0 ∧ ∃ i : Nat, ys = [.list 25 l.length (offD l), .int .i64 i] ∧ i ≤ l.length ∧ (∀ (a : Nat) (m : Med), a < i → l[a]? = some m → medB m = true), fun h ys => l.length - (selI ys 1).toNat, ?_, ?_⟩
  · rw [t_soff]
    simp only [F_soff_smed, s_smed, Tree.holds, ltI_t, ltI_f, leI_t, leI_f, all_cons, all_nil, and_true, true_and, forall_eq, decide_eq_true_eq, decide_eq_false_iff_not, beq_iff_eq, beq_eq_false_iff_ne, bne_iff_ne, bne_eq_false_iff_eq, ne_eq, Decidable.not_not, selI_z, selB_z, selS_z, selN_z, selL_z, selI_s, selB_s, selS_s, selN_s, selL_s, Int.toNat_natCast, Nat.mul_one, Nat.zero_add, Nat.div_one, List.drop_zero, Nat.zero_mul, Nat.le_refl, Bool.not_eq_true', Bool.not_eq_false', Bool.false_eq_true, Bool.true_eq_false, not_true_eq_false, not_false_eq_true, false_imp_iff, true_imp_iff, if_true, if_false, sig, sigF, sigW, sigR, sigO, sigD, sigWD, List.map_cons, List.map_nil]
    exact ⟨0, rfl, by omega, fun a m h => by omega⟩
  · rintro h ys ⟨rfl, i, rfl, hi, hv⟩
    rw [t_soff0]
    simp only [F_soff_smed, s_smed, Tree.holds, ltI_t, ltI_f, leI_t, leI_f, all_cons, all_nil, and_true, true_and, forall_eq, decide_eq_true_eq, decide_eq_false_iff_not, beq_iff_eq, beq_eq_false_iff_ne, bne_iff_ne, bne_eq_false_iff_eq, ne_eq, Decidable.not_not, selI_z, selB_z, selS_z, selN_z, selL_z, selI_s, selB_s, selS_s, selN_s, selL_s, Int.toNat_natCast, Nat.mul_one, Nat.zero_add, Nat.div_one, List.drop_zero, Nat.zero_mul, Nat.le_refl, Bool.not_eq_true', Bool.not_eq_false', Bool.false_eq_true, Bool.true_eq_false, not_true_eq_false, not_false_eq_true, false_imp_iff, true_imp_iff, if_true, if_false, sig, sigF, sigW, sigR, sigO, sigD, sigWD, List.map_cons, List.map_nil, sel_kstr, sel_kint, sel_kbool, unO_off]
    refine ⟨fun hj => ?_, fun hj => ret_bool' ?_⟩
    · obtain ⟨m, m1, m2⟩ := off_get (l := l) (i := i) (by omega)
      obtain ⟨c0, c1, c2, c3, c4⟩ := off_at m1
      rw [selS_of c0, selI_of c1, selB_of c2, selB_of c3, selN_of c4, selL_of c4]
      have e := unM_med m
      unfold medD at e
      rw [e]
      refine ⟨⟨by omega, by omega⟩, ⟨c0, c1, c2, c3, .inl c4⟩, ⟨m, rfl, hm m m2⟩, fun e0 => ret_bool' ?_, fun e0 => ⟨by unfold inK; omega, ⟨i + 1, rfl, by omega, fun a m' ha hm' => ?_⟩, by omega⟩⟩
      · rw [med_no m2 e0]
      · by_cases hai : a = i
        · rw [hai, m1] at hm'; injection hm' with hm'; rw [← hm']; exact e0
        · exact hv a m' (by omega) hm'
    · have ha : l.all medB = true := List.all_eq_true.mpr (fun x hx => by
        obtain ⟨a, ha, rfl⟩ := List.getElem_of_mem hx
        exact hv a _ (by omega) (List.getElem?_eq_getElem ha))
      unfold offB
      rw [ha]
      by_cases h4 : l.length ≤ 4
      · rw [show leI (l.length : Int) 4 = true from leI_t.mpr (by omega)]; simp [h4]
      · rw [show leI (l.length : Int) 4 = false from leI_f.mpr (by omega)]; simp [h4]
/-- A line under way: its first words, so many codes. -/
def lineK (m : Med) (j : Nat) : ByteArray := joinS (m.c.take j) (m.k ++ " ".toUTF8 ++ textS m.p ++ " ".toUTF8 ++ wayS m.s m.h)
theorem joinS_snoc : ∀ (l : List ByteArray) (c a : ByteArray), joinS (l ++ [c]) a = joinS l a ++ " ".toUTF8 ++ c
  | [], c, a => rfl
  | d :: l, c, a => by show joinS (l ++ [c]) _ = _; rw [joinS_snoc l]; rfl
theorem lineK_all (m : Med) : lineK m m.c.length = lineM m := by unfold lineK lineM; rw [List.take_of_length_le (Nat.le_refl _)]
theorem lineK_step {m : Med} {j : Nat} {c : ByteArray} (h : m.c[j]? = some c) : lineK m (j + 1) = lineK m j ++ " ".toUTF8 ++ c := by
  unfold lineK
  rw [List.take_add_one, h]
  exact joinS_snoc _ _ _
theorem sp_is : (⟨#[32]⟩ : ByteArray) = " ".toUTF8 := rfl
theorem way_size (s h : Bool) : (wayS s h).size = 4 := by cases s <;> cases h <;> rfl
theorem textS_size (n : Int) : (textS n).size ≤ 7 := by
  unfold textS textN
  split
  · rename_i h
    have := numT_len7 n.toNat (by omega)
    show ((numT n.toNat).toArray).size ≤ 7
    simpa using this
  · exact Nat.zero_le _
theorem word_size {s : ByteArray} (h : wordS s = true) : s.size ≤ 10 := by
  have := word_len h
  have e : s.data.toList.length = s.size := by simp
  omega
theorem lineK_size {m : Med} (h : medB m = true) : ∀ j, j ≤ m.c.length → (lineK m j).size ≤ 24 + 11 * j
  | 0, _ => by
    unfold medB at h
    simp only [Bool.and_eq_true] at h
    have h1 := word_size h.2.1
    have h2 := textS_size m.p
    have h3 := way_size m.s m.h
    show (m.k ++ " ".toUTF8 ++ textS m.p ++ " ".toUTF8 ++ wayS m.s m.h).size ≤ 24
    simp only [size_cat, h3]
    have : (" ".toUTF8).size = 1 := rfl
    omega
  | j + 1, hj => by
    have ih := lineK_size h j (by omega)
    have hc := List.getElem?_eq_getElem (l := m.c) (i := j) (by omega)
    rw [lineK_step hc]
    unfold medB at h
    simp only [Bool.and_eq_true, List.all_eq_true] at h
    have h1 := word_size (h.1.1 m.c[j] (List.getElem_mem _))
    simp only [size_cat]
    have : (" ".toUTF8).size = 1 := rfl
    omega
theorem ok_soli : FnOk Try.prog 27 s_soli := by
  refine fnOk (fn := Try.f27) (F := F_soli) (hs := hs_soli) (tab_cons ok_soff (tab_cons ok_snum (tab_cons ok_sway tab_nil))) mixed rfl rfl rfl [.list 25] (by kernel_rfl) (by simp) ?_
  rintro n cs ⟨l, e, hl, hm⟩
  simp only [List.cons.injEq, D.list.injEq, true_and, and_true] at e
  obtain ⟨rfl, rfl⟩ := e
  have hpre : ∃ l' : List Med, [D.list 25 l.length (offD l)] = [.list 25 l'.length (offD l')] ∧ l'.length ≤ 1048576 ∧ ∀ m ∈ l', smM m := ⟨l, rfl, hl, hm⟩
  refine ⟨fun h ys => (h = 0 ∧ ∃ i : Nat, ys = [.list 25 l.length (offD l), .int .i64 (0 : Nat), .int .i64 i, .int .i64 i, .list 9 0 (textsD ((l.take i).map lineM))] ∧ i ≤ l.length ∧ (offB l = false → i = 0)) ∨
    (h = 1 ∧ ∃ (i j : Nat) (m : Med), ys = [.list 25 l.length (offD l), .int .i64 (0 : Nat), .int .i64 i, .int .i64 i, .str (lineK m j), .int .i64 j, .list 25 l.length (offD l), .bool (offB l), .list 9 0 (textsD ((l.take i).map lineM))] ∧ l[i]? = some m ∧ j ≤ m.c.length ∧ offB l = true),
    fun h ys => mu2 l.length h (selI ys 3).toNat (selI ys 5).toNat, ?_, ?_⟩
  · rw [t_soli]
    simp only [F_soli_soff, F_soli_snum, F_soli_sway, s_soff, s_snum, s_sway, Tree.holds, ltI_t, ltI_f, leI_t, leI_f, all_cons, all_nil, and_true, true_and, forall_eq, decide_eq_true_eq, decide_eq_false_iff_not, beq_iff_eq, beq_eq_false_iff_ne, bne_iff_ne, bne_eq_false_iff_eq, ne_eq, Decidable.not_not, selI_z, selB_z, selS_z, selN_z, selL_z, selI_s, selB_s, selS_s, selN_s, selL_s, Int.toNat_natCast, Nat.mul_one, Nat.zero_add, Nat.div_one, List.drop_zero, Nat.zero_mul, Nat.le_refl, Bool.not_eq_true', Bool.not_eq_false', Bool.false_eq_true, Bool.true_eq_false, not_true_eq_false, not_false_eq_true, false_imp_iff, true_imp_iff, if_true, if_false, sig, sigF, sigW, sigR, sigO, sigD, sigWD, List.map_cons, List.map_nil]
    exact .inl ⟨0, rfl, by omega, fun _ => rfl⟩
  · have tk : ∀ i, i ≤ l.length → (textsD ((l.take i).map lineM)).length = i := fun i hi => by rw [textsD_len, List.length_map, List.length_take]; omega
    rintro h ys (⟨rfl, i, rfl, hi, h0⟩ | ⟨rfl, i, j, m, rfl, m1, hj, hv⟩)
    · rw [t_soli0]
      simp only [F_soli_soff, F_soli_snum, F_soli_sway, s_soff, s_snum, s_sway, Tree.holds, ltI_t, ltI_f, leI_t, leI_f, all_cons, all_nil, and_true, true_and, forall_eq, decide_eq_true_eq, decide_eq_false_iff_not, beq_iff_eq, beq_eq_false_iff_ne, bne_iff_ne, bne_eq_false_iff_eq, ne_eq, Decidable.not_not, selI_z, selB_z, selS_z, selN_z, selL_z, selI_s, selB_s, selS_s, selN_s, selL_s, Int.toNat_natCast, Nat.mul_one, Nat.zero_add, Nat.div_one, List.drop_zero, Nat.zero_mul, Nat.le_refl, Bool.not_eq_true', Bool.not_eq_false', Bool.false_eq_true, Bool.true_eq_false, not_true_eq_false, not_false_eq_true, false_imp_iff, true_imp_iff, if_true, if_false, sig, sigF, sigW, sigR, sigO, sigD, sigWD, List.map_cons, List.map_nil, sel_kstr, sel_kint, sel_kbool, unO_off]
      have hret : ∀ (hx : linesO l = (l.take i).map lineM), (i ≤ (textsD ((l.take i).map lineM)).length ∧ scal (List.take i (textsD ((l.take i).map lineM)))) ∧ [D.list 9 i (List.take i (textsD ((l.take i).map lineM)))] = [.list 9 (linesO l).length (textsD (linesO l))] := fun hx => by
        have e1 : List.take i (textsD ((l.take i).map lineM)) = textsD ((l.take i).map lineM) := List.take_of_length_le (by rw [tk i hi]; omega)
        rw [e1, hx]
        refine ⟨⟨by rw [tk i hi]; omega, textsD_scal _⟩, ?_⟩
        rw [List.length_map, List.length_take, Nat.min_eq_left hi]
      refine ⟨fun hlt => ⟨hpre, fun e0 => ?_, fun e0 => ?_⟩, fun hlt => ?_⟩
      · obtain ⟨m, m1, m2⟩ := off_get (l := l) (i := i) (by omega)
        obtain ⟨c0, c1, c2, c3, c4⟩ := off_at m1
        have hb : medB m = true := by
          unfold offB at e0
          rw [Bool.and_eq_true, List.all_eq_true] at e0
          exact e0.1 m m2
        have hb' := hb
        unfold medB at hb'
        simp only [Bool.and_eq_true] at hb'
        have z1 := word_size hb'.2.1
        have z2 := textS_size m.p
        have z3 := way_size m.s m.h
        have z4 : (" ".toUTF8).size = 1 := rfl
        rw [selS_of c0, selI_of c1, selB_of c2, selB_of c3, selN_of c4, selL_of c4]
        simp only [sp_is, size_cat, z3, z4]
        refine ⟨⟨by omega, by omega⟩, c0, by omega, ⟨by omega, by omega⟩, c1, ⟨by omega, by omega⟩, ⟨c0, c1, c2, c3, .inl c4⟩, by omega, by omega, by omega, .inr ⟨i, 0, m, rfl, m1, by omega, e0⟩, ?_⟩
        unfold mu2; simp; omega
      · refine hret ?_
        have := h0 e0
        subst this
        unfold linesO; rw [e0]; rfl
      · refine hret ?_
        obtain rfl : i = l.length := by omega
        rw [List.take_of_length_le (Nat.le_refl _)]
        unfold linesO
        cases ho : offB l with
        | true => rfl
        | false =>
          have := h0 ho
          rw [List.eq_nil_of_length_eq_zero this]; rfl
    · rw [t_soli1]
      simp only [F_soli_soff, F_soli_snum, F_soli_sway, s_soff, s_snum, s_sway, Tree.holds, ltI_t, ltI_f, leI_t, leI_f, all_cons, all_nil, and_true, true_and, forall_eq, decide_eq_true_eq, decide_eq_false_iff_not, beq_iff_eq, beq_eq_false_iff_ne, bne_iff_ne, bne_eq_false_iff_eq, ne_eq, Decidable.not_not, selI_z, selB_z, selS_z, selN_z, selL_z, selI_s, selB_s, selS_s, selN_s, selL_s, Int.toNat_natCast, Nat.mul_one, Nat.zero_add, Nat.div_one, List.drop_zero, Nat.zero_mul, Nat.le_refl, Bool.not_eq_true', Bool.not_eq_false', Bool.false_eq_true, Bool.true_eq_false, not_true_eq_false, not_false_eq_true, false_imp_iff, true_imp_iff, if_true, if_false, sig, sigF, sigW, sigR, sigO, sigD, sigWD, List.map_cons, List.map_nil, sel_kstr, sel_kint, sel_kbool]
      have hi : i < l.length := (List.getElem?_eq_some_iff.mp m1).1
      have m2 : m ∈ l := List.mem_of_getElem? m1
      have hb : medB m = true := by
        unfold offB at hv
        rw [Bool.and_eq_true, List.all_eq_true] at hv
        exact hv.1 m m2
      have c4 : (offD l)[i * 5 + 4]? = some (.list 9 m.c.length (textsD m.c)) := flatD_at medD_len m1 (j := 4) (by omega)
      have z4 : (" ".toUTF8).size = 1 := rfl
      have z5 := lineK_size hb j hj
      have hc4 : m.c.length ≤ 4 := by
        unfold medB at hb
        simp only [Bool.and_eq_true, inB_iff] at hb
        omega
      rw [selN_of c4, selL_of c4]
      refine ⟨⟨by omega, by omega⟩, .inl c4, fun hlt => ?_, fun hlt => ?_⟩
      · obtain ⟨x, x1, x2, x3⟩ := textsD_get (ls := m.c) (i := j) (by omega)
        have hx : x.size ≤ 10 := by
          unfold medB at hb
          simp only [Bool.and_eq_true, List.all_eq_true] at hb
          exact word_size (hb.1.1 x x3)
        rw [selS_of x2]
        simp only [sp_is, size_cat, z4]
        refine ⟨by omega, ⟨by omega, by omega⟩, .inl c4, ⟨by omega, by omega⟩, x2, by omega, by unfold inK; omega, .inr ⟨i, j + 1, m, ?_, m1, by omega, hv⟩, ?_⟩
        · rw [lineK_step x1]; rfl
        · unfold mu2; simp; omega
      · obtain rfl : j = m.c.length := by omega
        refine ⟨⟨by rw [tk i (by omega)]; omega, by omega⟩, by unfold inK; omega, .inl ⟨i + 1, ?_, by omega, fun h => by rw [hv] at h; cases h⟩, ?_⟩
        · rw [List.take_of_length_le (by rw [tk i (by omega)]; omega), lineK_all, List.take_add_one, m1]
          simp only [Option.toList_some, List.map_append, List.map_cons, List.map_nil, textsD_push]
          rfl
        · unfold mu2; simp; omega
end Go.Proofs.Ytjleempapphlhaa.Mini
end
