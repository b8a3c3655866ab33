/- Parts of the proof: SRead. -/
import Derived.Test.YtjleempapphlhaaGeSOffer
section
namespace Go.Proofs.Ytjleempapphlhaa.Mini
open Go Go.RowKit
set_option linter.unusedVariables false
set_option linter.unusedSimpArgs false
set_option maxRecDepth 20000
theorem rdLs_snoc : ∀ (a : List ByteArray) (s : ByteArray), rdLs (a ++ [s]) = match rdLs a, rdW (wordsS s) with | some l, some m => some (l ++ [m]) | _, _ => none
  | [], s => by
    show (match rdW (wordsS s), rdLs [] with | some m, some l => some (m :: l) | _, _ => none) = _
    cases rdW (wordsS s) <;> rfl
  | b :: a, s => by
    show (match rdW (wordsS b), rdLs (a ++ [s]) with | some m, some l => some (m :: l) | _, _ => none) = match (match rdW (wordsS b), rdLs a with | some m, some l => some (m :: l) | _, _ => none), rdW (wordsS s) with | some l, some m => some (l ++ [m]) | _, _ => none
    rw [rdLs_snoc a s]
    cases rdW (wordsS b) <;> cases rdLs a <;> cases rdW (wordsS s) <;> rfl
theorem rdLs_len : ∀ {ls : List ByteArray} {l : List Med}, rdLs ls = some l → l.length = ls.length
  | [], l, h => by injection h with h; subst h; rfl
  | s :: r, l, h => by
    unfold rdLs at h
    split at h <;> try (cases h; done)
    rename_i m l' _ h2
    injection h with h; subst h
    simp [rdLs_len h2]
theorem rdLs_none : ∀ {ls : List ByteArray} {s : ByteArray}, s ∈ ls → rdW (wordsS s) = none → rdLs ls = none
  | b :: r, s, hs, h => by
    unfold rdLs
    rcases List.mem_cons.mp hs with rfl | hs
    · rw [h]
    · rw [rdLs_none hs h]
      cases rdW (wordsS b) <;> rfl
theorem rdOf_no {ls : List ByteArray} {s : ByteArray} (hs : s ∈ ls) (h : rdW (wordsS s) = none) : rdOf ls = none := by
  unfold rdOf
  rw [rdLs_none hs h]
  split <;> rfl
theorem words_len (s : ByteArray) : (wordsS s).length ≤ s.size + 1 ∧ ∀ w ∈ wordsS s, w.size ≤ s.size := by
  have := wordsK_size s s.size (Nat.le_refl _)
  rw [wordsK_all] at this
  exact this
theorem ok_srof : FnOk Try.prog 35 s_srof := by
  refine fnOk (fn := Try.f35) (F := F_srof) (hs := hs_srof) (tab_cons ok_swords (tab_cons ok_sread (tab_cons ok_sway (tab_cons ok_smed tab_nil)))) mixed rfl rfl rfl [.list 9] (by kernel_rfl) (by simp) ?_
  rintro n cs ⟨ls, e, hl, hs⟩
  simp only [List.cons.injEq, D.list.injEq, true_and, and_true] at e
  obtain ⟨rfl, rfl⟩ := e
  refine ⟨fun h ys => h = 0 ∧ ∃ (i : Nat) (out : List Med), ys = [.list 9 ls.length (textsD ls), .int .i64 (0 : Nat), .int .i64 (out.length : Nat), .int .i64 i, .list 25 0 (offD out)] ∧ i ≤ ls.length ∧ rdLs (ls.take i) = some out ∧ i ≤ 4, fun h ys => ls.length - (selI ys 3).toNat, ?_, ?_⟩
  · rw [t_srof]
    simp only [F_srof_swords, F_srof_sread, F_srof_sway, F_srof_smed, s_swords, s_sread, s_sway, s_smed, Tree.holds, ltI_t, ltI_f, leI_t, leI_f, all_cons, all_nil, and_true, true_and, forall_eq, decide_eq_true_eq, decide_eq_false_iff_not, beq_iff_eq, beq_eq_false_iff_ne, bne_iff_ne, bne_eq_false_iff_eq, ne_eq, Decidable.not_not, selI_z, selB_z, selS_z, selN_z, selL_z, selI_s, selB_s, selS_s, selN_s, selL_s, Int.toNat_natCast, Nat.mul_one, Nat.zero_add, Nat.div_one, List.drop_zero, Nat.zero_mul, Nat.le_refl, Bool.not_eq_true', Bool.not_eq_false', Bool.false_eq_true, Bool.true_eq_false, not_true_eq_false, not_false_eq_true, false_imp_iff, true_imp_iff, if_true, if_false, sig, sigF, sigW, sigR, sigO, sigD, sigWD, List.map_cons, List.map_nil]
    exact ⟨0, [], rfl, by omega, rfl, by omega⟩
  · rintro h ys ⟨rfl, i, out, rfl, hi, hr, h4⟩
    have hol : out.length = i := by rw [rdLs_len hr, List.length_take]; omega
    have oz : (offD out).length = i * 5 := by rw [offD_len, hol]
    have otk : List.take (out.length * 5) (offD out) = offD out := List.take_of_length_le (by rw [oz, hol]; omega)
    rw [t_srof0]
    simp only [F_srof_swords, F_srof_sread, F_srof_sway, F_srof_smed, s_swords, s_sread, s_sway, s_smed, Tree.holds, ltI_t, ltI_f, leI_t, leI_f, all_cons, all_nil, and_true, true_and, forall_eq, decide_eq_true_eq, decide_eq_false_iff_not, beq_iff_eq, beq_eq_false_iff_ne, bne_iff_ne, bne_eq_false_iff_eq, ne_eq, Decidable.not_not, selI_z, selB_z, selS_z, selN_z, selL_z, selI_s, selB_s, selS_s, selN_s, selL_s, Int.toNat_natCast, Nat.mul_one, Nat.zero_add, Nat.div_one, List.drop_zero, Nat.zero_mul, Nat.le_refl, Bool.not_eq_true', Bool.not_eq_false', Bool.false_eq_true, Bool.true_eq_false, not_true_eq_false, not_false_eq_true, false_imp_iff, true_imp_iff, if_true, if_false, sig, sigF, sigW, sigR, sigO, sigD, sigWD, List.map_cons, List.map_nil, sel_kstr, sel_kint, unS_texts, ByteArray.toList_eq, otk]
    refine ⟨fun hj => ?_, fun hj => ?_⟩
    · obtain ⟨s, x1, x2, x3⟩ := textsD_get (ls := ls) (i := i) (by omega)
      rw [selS_of x2]
      have hsz := hs s x3
      obtain ⟨wl, wsz⟩ := words_len s
      refine ⟨⟨by omega, by omega⟩, x2, hsz, fun hlt => ?_, fun hge => ⟨fun h4' => ?_, fun h4' => ?_⟩⟩
      · rw [rdOf_no x3 ?_]
        · rfl
        · match hw : wordsS s with
          | [] => rfl
          | [_] => rfl
          | [_, _] => rfl
          | [_, _, _] => rfl
          | _ :: _ :: _ :: _ :: _ => rw [hw] at hlt; simp at hlt; omega
      · unfold rdOf
        rw [if_neg (by omega)]
        rfl
      · obtain ⟨k, p, w, c, cs, hw⟩ : ∃ k p w c cs, wordsS s = k :: p :: w :: c :: cs := by
          match hw : wordsS s with
          | [] => rw [hw] at hge; simp at hge
          | [_] => rw [hw] at hge; simp at hge
          | [_, _] => rw [hw] at hge; simp at hge
          | [_, _, _] => rw [hw] at hge; simp at hge
          | k :: p :: w :: c :: cs => exact ⟨k, p, w, c, cs, rfl⟩
        rw [hw] at wl wsz ⊢
        have y0 : (textsD (k :: p :: w :: c :: cs))[0]? = some (.str k) := rfl
        have y1 : (textsD (k :: p :: w :: c :: cs))[1]? = some (.str p) := rfl
        have y2 : (textsD (k :: p :: w :: c :: cs))[2]? = some (.str w) := rfl
        rw [selS_of y0, selS_of y1, selS_of y2]
        have hn : (((k :: p :: w :: c :: cs).length : Nat) : Int) = cs.length + 4 := by simp only [List.length_cons]; omega
        have hn2 : ((cs.length : Int) + 4 - 3).toNat = cs.length + 1 := by omega
        have hd : List.take (cs.length + 1) (List.drop 3 (textsD (k :: p :: w :: c :: cs))) = textsD (c :: cs) := by
          show List.take (cs.length + 1) (textsD (c :: cs)) = _
          exact List.take_of_length_le (by rw [textsD_len]; simp)
        have hd2 : List.take (cs.length + 1) (textsD (c :: cs)) = textsD (c :: cs) := List.take_of_length_le (by rw [textsD_len]; simp)
        have hu : ∀ S H : Bool, unM [.str k, .int .i64 (readN p.data.toList), .bool S, .bool H, .list 9 (cs.length + 1) (textsD (c :: cs))] = ⟨k, readN p.data.toList, S, H, c :: cs⟩ := fun S H => unM_med ⟨k, readN p.data.toList, S, H, c :: cs⟩
        have z0 := wsz k (by simp)
        have z1 := wsz p (by simp)
        have zl : (textsD (k :: p :: w :: c :: cs)).length = cs.length + 4 := by rw [textsD_len]; simp
        have zl2 : (textsD (c :: cs)).length = cs.length + 1 := by rw [textsD_len]; simp
        simp only [List.length_cons] at wl
        have tail : ∀ S H : Bool, rdW (wordsS s) = (if (wayS S H).data.toList = w.data.toList ∧ medB ⟨k, readN p.data.toList, S, H, c :: cs⟩ = true then some ⟨k, readN p.data.toList, S, H, c :: cs⟩ else none) →
            (¬(wayS S H).data.toList = w.data.toList → [D.list 25 0 [], .bool false] = rdRes (rdOf ls)) ∧
            ((wayS S H).data.toList = w.data.toList → cs.length + 1 ≤ (textsD (c :: cs)).length ∧
              (∃ m, [D.str k, .int .i64 (readN p.data.toList), .bool S, .bool H, .list 9 (cs.length + 1) (textsD (c :: cs))] = medD m ∧ smM m) ∧
              (medB ⟨k, readN p.data.toList, S, H, c :: cs⟩ = false → [D.list 25 0 [], .bool false] = rdRes (rdOf ls)) ∧
              (medB ⟨k, readN p.data.toList, S, H, c :: cs⟩ = true → (cs.length + 1 ≤ (textsD (c :: cs)).length ∧ out.length * 5 ≤ (offD out).length ∧ out.length + 1 ≤ 1048576) ∧ inK .i64 ((i : Int) + 1) ∧
                (∃ (i_1 : Nat) (out_1 : List Med), [D.list 9 ls.length (textsD ls), .int .i64 (0 : Nat), .int .i64 ((out.length + 1 : Nat) : Int), .int .i64 ((i : Int) + 1), .list 25 0 (offD out ++ [.str k, .int .i64 (readN p.data.toList), .bool S, .bool H, .list 9 (cs.length + 1) (textsD (c :: cs))])] = [.list 9 ls.length (textsD ls), .int .i64 (0 : Nat), .int .i64 (out_1.length : Nat), .int .i64 i_1, .list 25 0 (offD out_1)] ∧ i_1 ≤ ls.length ∧ rdLs (ls.take i_1) = some out_1 ∧ i_1 ≤ 4) ∧ ls.length - ((i : Int) + 1).toNat < ls.length - i)) := by
          intro S H hW
          refine ⟨fun hne => ?_, fun he => ⟨by omega, ⟨⟨k, readN p.data.toList, S, H, c :: cs⟩, rfl, (by show k.size ≤ _; omega), (by show (c :: cs).length ≤ _; simp only [List.length_cons]; omega), fun x hx => ?_⟩, fun hb => ?_, fun hb => ⟨⟨by omega, by omega, by omega⟩, by unfold inK; omega, ⟨i + 1, out ++ [⟨k, readN p.data.toList, S, H, c :: cs⟩], ?_, by omega, ?_, by omega⟩, by omega⟩⟩⟩
          · rw [rdOf_no x3 (by rw [hW, if_neg (fun h => hne h.1)])]; rfl
          · have hx' : x ∈ c :: cs := hx
            have := wsz x (List.mem_cons_of_mem _ (List.mem_cons_of_mem _ (List.mem_cons_of_mem _ hx')))
            omega
          · rw [rdOf_no x3 (by rw [hW, if_neg (fun h => by rw [hb] at h; cases h.2)])]; rfl
          · have e1 : offD (out ++ [⟨k, readN p.data.toList, S, H, c :: cs⟩]) = offD out ++ [.str k, .int .i64 (readN p.data.toList), .bool S, .bool H, .list 9 (cs.length + 1) (textsD (c :: cs))] := by
              unfold offD; rw [flatD_append, flatD_one]; rfl
            rw [e1, List.length_append]
            rfl
          · rw [List.take_add_one, x1]
            show rdLs (ls.take i ++ [s]) = _
            rw [rdLs_snoc, hr, hW, if_pos ⟨he, hb⟩]
        simp only [hn, Option.getD_some, Option.getD_none, show ((3 : Int)).toNat = 3 from rfl, hn2, List.take_nil, List.drop_nil, List.nil_append, List.take_zero, hd, Nat.zero_add, hd2, hu]
        have hW0 : rdW (wordsS s) = rdW (k :: p :: w :: c :: cs) := by rw [hw]
        unfold rdW at hW0
        refine ⟨⟨by omega, by omega⟩, y0, ⟨by omega, by omega⟩, y1, ⟨by omega, by omega⟩, y2, ⟨by omega, by omega⟩, y2, ⟨by omega, by omega, by omega⟩, by unfold maxLen; omega, fun b1 => ⟨fun b2 => ?_, fun b2 => absurd b1 b2⟩, fun b1 => ?_⟩
        · simp only [b1, beq_self_eq_true, Bool.true_or] at hW0
          refine ⟨⟨by omega, by omega⟩, ⟨by omega, by omega⟩, y2, by omega, ?_⟩
          exact tail true true (by rw [b1]; exact hW0)
        · have hf : (w.data.toList == [98, 111, 116, 104]) = false := by simpa using b1
          simp only [hf, Bool.false_or] at hW0
          refine ⟨⟨by omega, by omega⟩, y2, fun b2 => absurd b2 b1, fun b2 => ⟨⟨by omega, by omega⟩, y2, ⟨by omega, by omega⟩, ⟨by omega, by omega⟩, y2, by omega, ?_⟩⟩
          exact tail _ _ hW0
    · obtain rfl : i = ls.length := by omega
      rw [List.take_of_length_le (Nat.le_refl _)] at hr
      refine ⟨by omega, ?_⟩
      unfold rdOf
      rw [if_pos h4, hr]
      rfl
end Go.Proofs.Ytjleempapphlhaa.Mini
end
