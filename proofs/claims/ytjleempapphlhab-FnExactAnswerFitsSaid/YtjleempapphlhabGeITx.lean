/- Parts of the proof: ITx. -/
import Derived.Test.YtjleempapphlhabGeTx
section
namespace Go.Proofs.Ytjleempapphlhab.Mini
open Go Go.RowKit
set_option linter.unusedVariables false
set_option linter.unusedSimpArgs false
set_option maxRecDepth 20000
def difB (l : List ByteArray) (m : Int) : Bool := decide ((l.length : Int) ≤ m) && (l.all wordS && distB l)
noncomputable def s_thas : Sig := sig Try.f55 (fun xs => ∃ (ls : List ByteArray) (s : ByteArray), xs = [.list 9 ls.length (textsD ls), .str s] ∧ ls.length ≤ 1048576) (fun xs ys => ys = [.bool (hasT (unS (selL xs 0)) (selS xs 1))])
noncomputable def s_tdif : Sig := sig Try.f60 (fun xs => ∃ (ls : List ByteArray) (m : Int), xs = [.list 9 ls.length (textsD ls), .int .i64 m] ∧ ls.length ≤ 1048576 ∧ ∀ x ∈ ls, x.size ≤ 1048576) (fun xs ys => ys = [.bool (difB (unS (selL xs 0)) (selI xs 1))])
noncomputable def F_thas : Tb := tab []
noncomputable def hs_thas : Hds := [([false, true, false, true], shapeW Try.f55 0 [(0, .one (.kd (.list 9))), (1, .one (.kd .str)), (5, .one (.kd (.int .i64)))] [])]
set_option maxHeartbeats 4000000 in
theorem t_thas (a0n : Nat) (a0 : List D) (a1 : ByteArray) : fnT' Try.prog F_thas hs_thas .own Try.f55 [.list 9 a0n a0, .str a1] = (Tree.goto 0 [(D.list 9 a0n a0), (D.str a1), (D.int .i64 (0 : Int))]) := by kernel_rfl
set_option maxHeartbeats 4000000 in
theorem t_thas0 (x0n : Nat) (x0 : List D) (x1 : ByteArray) (x5 : Int) : plT' Try.prog F_thas hs_thas .own Try.f55 0 [.list 9 x0n x0, .str x1, .int .i64 x5] = (Tree.ite (ltI x5 (Nat.cast x0n : Int)) (Tree.need (all_ [(((0 : Int) ≤ x5) ∧ (x5 < (Nat.cast x0n : Int)))]) (Tree.need (all_ [((GetElem?.getElem? x0 ((Int.toNat x5) * (1 : Nat))) = (Option.some (sel x0 ((Int.toNat x5) * (1 : Nat)) Kd.str)))]) (Tree.ite ((ByteArray.toList (selS x0 ((Int.toNat x5) * (1 : Nat)))) == (ByteArray.toList x1)) (Tree.ret [(D.bool true)]) (Tree.need (all_ [(inK .i64 (x5 + (1 : Int)))]) (Tree.goto 0 [(D.list 9 x0n x0), (D.str x1), (D.int .i64 (x5 + (1 : Int)))]))))) (Tree.ret [(D.bool false)])) := by kernel_rfl
noncomputable def F_tdif : Tb := tab [(41, s_iword), (55, s_thas)]
theorem F_tdif_iword : F_tdif 41 = some s_iword := rfl
theorem F_tdif_thas : F_tdif 55 = some s_thas := rfl
noncomputable def hs_tdif : Hds := [([false, true, false, true, true], shapeW Try.f60 0 [(0, .one (.kd (.list 9))), (5, .one (.kd (.int .i64)))] [])]
set_option maxHeartbeats 4000000 in
theorem t_tdif (a0n : Nat) (a0 : List D) (a1 : Int) : fnT' Try.prog F_tdif hs_tdif .own Try.f60 [.list 9 a0n a0, .int IntKind.i64 a1] = (Tree.ite (ltI a1 (Nat.cast a0n : Int)) (Tree.ret [(D.bool false)]) (Tree.goto 0 [(D.list 9 a0n a0), (D.int .i64 (0 : Int))])) := by kernel_rfl
set_option maxHeartbeats 4000000 in
theorem t_tdif0 (x0n : Nat) (x0 : List D) (x5 : Int) : plT' Try.prog F_tdif hs_tdif .own Try.f60 0 [.list 9 x0n x0, .int .i64 x5] = (Tree.ite (ltI x5 (Nat.cast x0n : Int)) (Tree.need (all_ [(((0 : Int) ≤ x5) ∧ (x5 < (Nat.cast x0n : Int)))]) (Tree.need (all_ [((GetElem?.getElem? x0 ((Int.toNat x5) * (1 : Nat))) = (Option.some (sel x0 ((Int.toNat x5) * (1 : Nat)) Kd.str)))]) (Tree.call 41 [(D.str (selS x0 ((Int.toNat x5) * (1 : Nat))))] (fun y196 => (Tree.ite (Bool.not (selB y196 0)) (Tree.ret [(D.bool false)]) (Tree.need (all_ [(((0 : Int) ≤ (Option.getD (Option.none) (0 : Int))) ∧ (((Option.getD (Option.none) (0 : Int)) ≤ (Option.getD (Option.some x5) (Nat.cast x0n : Int))) ∧ ((Option.getD (Option.some x5) (Nat.cast x0n : Int)) ≤ (Nat.cast x0n : Int))))]) (Tree.need (all_ [(((0 : Int) ≤ x5) ∧ (x5 < (Nat.cast x0n : Int)))]) (Tree.need (all_ [((GetElem?.getElem? x0 ((Int.toNat x5) * (1 : Nat))) = (Option.some (sel x0 ((Int.toNat x5) * (1 : Nat)) Kd.str)))]) (Tree.call 55 [(D.list 9 (Int.toNat ((Option.getD (Option.some x5) (Nat.cast x0n : Int)) - (Option.getD (Option.none) (0 : Int)))) (List.take ((Int.toNat ((Option.getD (Option.some x5) (Nat.cast x0n : Int)) - (Option.getD (Option.none) (0 : Int)))) * (1 : Nat)) (List.drop ((Int.toNat (Option.getD (Option.none) (0 : Int))) * (1 : Nat)) x0))), (D.str (selS x0 ((Int.toNat x5) * (1 : Nat))))] (fun y191 => (Tree.ite (selB y191 0) (Tree.ret [(D.bool false)]) (Tree.need (all_ [(inK .i64 (x5 + (1 : Int)))]) (Tree.goto 0 [(D.list 9 x0n x0), (D.int .i64 (x5 + (1 : Int)))]))))))))))))) (Tree.ret [(D.bool true)])) := by kernel_rfl
theorem hasT_iff {ls : List ByteArray} {s : ByteArray} : hasT ls s = true ↔ ∃ (a : Nat) (x : ByteArray), ls[a]? = some x ∧ x.data.toList = s.data.toList := by
  unfold hasT
  rw [List.any_eq_true]
  constructor
  · rintro ⟨x, hx, e⟩
    obtain ⟨a, ha, rfl⟩ := List.getElem_of_mem hx
    exact ⟨a, _, List.getElem?_eq_getElem ha, eq_of_beq e⟩
  · rintro ⟨a, x, h1, h2⟩
    exact ⟨x, List.mem_of_getElem? h1, by rw [h2]; exact beq_self_eq_true _⟩
theorem taken_texts (ls : List ByteArray) (i : Nat) : List.take i (textsD ls) = textsD (ls.take i) := by unfold textsD; rw [List.map_take]
theorem ok_thas : FnOk Try.prog 55 s_thas := by
  refine fnOk (fn := Try.f55) (F := F_thas) (hs := hs_thas) tab_nil mixed rfl rfl rfl [.list 9, .str] (by kernel_rfl) (by simp) ?_
  rintro n cs s ⟨ls, s', e, hl⟩
  simp only [List.cons.injEq, D.list.injEq, D.str.injEq, true_and, and_true] at e
  obtain ⟨⟨rfl, rfl⟩, rfl⟩ := e
  refine ⟨fun h ys => h = 0 ∧ ∃ i : Nat, ys = [.list 9 ls.length (textsD ls), .str s, .int .i64 i] ∧ i ≤ ls.length ∧ ∀ (a : Nat) (x : ByteArray), a < i → ls[a]? = some x → x.data.toList ≠ s.data.toList, fun h ys => ls.length - (selI ys 2).toNat, ?_, ?_⟩
  · rw [t_thas]
    simp only [Tree.holds, ltI_t, ltI_f, leI_t, leI_f, all_cons, all_nil, and_true, true_and, forall_eq, decide_eq_true_eq, decide_eq_false_iff_not, beq_iff_eq, beq_eq_false_iff_ne, bne_iff_ne, bne_eq_false_iff_eq, ne_eq, Decidable.not_not, selI_z, selB_z, selS_z, selN_z, selL_z, selI_s, selB_s, selS_s, selN_s, selL_s, Int.toNat_natCast, Nat.mul_one, Nat.zero_add, Nat.div_one, List.drop_zero, Nat.zero_mul, Nat.le_refl, Bool.not_eq_true', Bool.not_eq_false', Bool.false_eq_true, Bool.true_eq_false, not_true_eq_false, not_false_eq_true, false_imp_iff, true_imp_iff, if_true, if_false, sig, sigF, sigW, sigR, sigO, sigD, sigWD, List.map_cons, List.map_nil]
    exact ⟨0, rfl, by omega, fun a x h => by omega⟩
  · rintro h ys ⟨rfl, i, rfl, hi, hv⟩
    rw [t_thas0]
    simp only [Tree.holds, ltI_t, ltI_f, leI_t, leI_f, all_cons, all_nil, and_true, true_and, forall_eq, decide_eq_true_eq, decide_eq_false_iff_not, beq_iff_eq, beq_eq_false_iff_ne, bne_iff_ne, bne_eq_false_iff_eq, ne_eq, Decidable.not_not, selI_z, selB_z, selS_z, selN_z, selL_z, selI_s, selB_s, selS_s, selN_s, selL_s, Int.toNat_natCast, Nat.mul_one, Nat.zero_add, Nat.div_one, List.drop_zero, Nat.zero_mul, Nat.le_refl, Bool.not_eq_true', Bool.not_eq_false', Bool.false_eq_true, Bool.true_eq_false, not_true_eq_false, not_false_eq_true, false_imp_iff, true_imp_iff, if_true, if_false, sig, sigF, sigW, sigR, sigO, sigD, sigWD, List.map_cons, List.map_nil, sel_kstr, unS_texts, ByteArray.toList_eq]
    refine ⟨fun hj => ?_, fun hj => ret_bool' ?_⟩
    · obtain ⟨x, x1, x2, x3⟩ := textsD_get (ls := ls) (i := i) (by omega)
      rw [selS_of x2]
      refine ⟨⟨by omega, by omega⟩, x2, fun e => ret_bool' ?_, fun e => ⟨by unfold inK; omega, ⟨i + 1, rfl, by omega, fun a y ha hy => ?_⟩, by omega⟩⟩
      · unfold hasT
        rw [eq_comm, List.any_eq_true]
        exact ⟨x, x3, by rw [e]; exact beq_self_eq_true _⟩
      · by_cases hai : a = i
        · rw [hai, x1] at hy; injection hy with hy; rw [← hy]; exact e
        · exact hv a y (by omega) hy
    · unfold hasT
      rw [eq_comm, List.any_eq_false]
      intro x hx
      obtain ⟨a, ha, rfl⟩ := List.getElem_of_mem hx
      simpa using hv a _ (by omega) (List.getElem?_eq_getElem ha)
theorem ok_tdif : FnOk Try.prog 60 s_tdif := by
  refine fnOk (fn := Try.f60) (F := F_tdif) (hs := hs_tdif) (tab_cons ok_iword (tab_cons ok_thas tab_nil)) mixed rfl rfl rfl [.list 9, .int .i64] (by kernel_rfl) (by simp) ?_
  rintro n cs m ⟨ls, m', e, hl, hs⟩
  simp only [List.cons.injEq, D.list.injEq, D.int.injEq, true_and, and_true] at e
  obtain ⟨⟨rfl, rfl⟩, rfl⟩ := e
  refine ⟨fun h ys => h = 0 ∧ ∃ i : Nat, ys = [.list 9 ls.length (textsD ls), .int .i64 i] ∧ i ≤ ls.length ∧ (ls.length : Int) ≤ m ∧ (∀ (a : Nat) (x : ByteArray), a < i → ls[a]? = some x → wordS x = true) ∧ (∀ (a b : Nat) (x y : ByteArray), ls[a]? = some x → ls[b]? = some y → a < b → b < i → x.data.toList ≠ y.data.toList), fun h ys => ls.length - (selI ys 1).toNat, ?_, ?_⟩
  · rw [t_tdif]
    simp only [F_tdif_iword, F_tdif_thas, s_iword, s_thas, Tree.holds, ltI_t, ltI_f, leI_t, leI_f, all_cons, all_nil, and_true, true_and, forall_eq, decide_eq_true_eq, decide_eq_false_iff_not, beq_iff_eq, beq_eq_false_iff_ne, bne_iff_ne, bne_eq_false_iff_eq, ne_eq, Decidable.not_not, selI_z, selB_z, selS_z, selN_z, selL_z, selI_s, selB_s, selS_s, selN_s, selL_s, Int.toNat_natCast, Nat.mul_one, Nat.zero_add, Nat.div_one, List.drop_zero, Nat.zero_mul, Nat.le_refl, Bool.not_eq_true', Bool.not_eq_false', Bool.false_eq_true, Bool.true_eq_false, not_true_eq_false, not_false_eq_true, false_imp_iff, true_imp_iff, if_true, if_false, sig, sigF, sigW, sigR, sigO, sigD, sigWD, List.map_cons, List.map_nil, unS_texts]
    refine ⟨fun h => ret_bool' ?_, fun h1 => ⟨0, rfl, by omega, by omega, fun a x h => by omega, fun a b x y _ _ _ h => by omega⟩⟩
    unfold difB
    rw [decide_eq_false (by omega)]; rfl
  · rintro h ys ⟨rfl, i, rfl, hi, l1, hv, hd⟩
    rw [t_tdif0]
    simp only [F_tdif_iword, F_tdif_thas, s_iword, s_thas, Tree.holds, ltI_t, ltI_f, leI_t, leI_f, all_cons, all_nil, and_true, true_and, forall_eq, decide_eq_true_eq, decide_eq_false_iff_not, beq_iff_eq, beq_eq_false_iff_ne, bne_iff_ne, bne_eq_false_iff_eq, ne_eq, Decidable.not_not, selI_z, selB_z, selS_z, selN_z, selL_z, selI_s, selB_s, selS_s, selN_s, selL_s, Int.toNat_natCast, Nat.mul_one, Nat.zero_add, Nat.div_one, List.drop_zero, Nat.zero_mul, Nat.le_refl, Bool.not_eq_true', Bool.not_eq_false', Bool.false_eq_true, Bool.true_eq_false, not_true_eq_false, not_false_eq_true, false_imp_iff, true_imp_iff, if_true, if_false, sig, sigF, sigW, sigR, sigO, sigD, sigWD, List.map_cons, List.map_nil, sel_kstr, unS_texts]
    refine ⟨fun hj => ?_, fun hj => ret_bool' ?_⟩
    · obtain ⟨x, x1, x2, x3⟩ := textsD_get (ls := ls) (i := i) (by omega)
      rw [selS_of x2]
      simp only [Option.getD_some, Option.getD_none, Int.sub_zero, Int.toNat_natCast, show (0 : Int).toNat = 0 from rfl, List.drop_zero, taken_texts, unS_texts]
      refine ⟨⟨by omega, by omega⟩, x2, m20 (hs x x3), fun e => ret_bool' ?_, fun e => ⟨⟨by omega, by omega, by omega⟩, ⟨by omega, by omega⟩, x2, ⟨ls.take i, x, by rw [List.length_take, Nat.min_eq_left hi], by rw [List.length_take]; omega⟩, fun e2 => ret_bool' ?_, fun e2 => ⟨by unfold inK; omega, ⟨i + 1, rfl, by omega, l1, fun a y ha hy => ?_, fun a b y z hy hz hab hb => ?_⟩, by omega⟩⟩⟩
      · unfold difB; rw [word_no x3 e]; simp
      · obtain ⟨a, y, hy, he⟩ := hasT_iff.mp e2
        rw [List.getElem?_take] at hy
        split at hy <;> try (cases hy; done)
        rename_i hai
        unfold difB
        rw [dist_no hy x1 hai he]; simp
      · by_cases hai : a = i
        · rw [hai, x1] at hy; injection hy with hy; rw [← hy]; exact e
        · exact hv a y (by omega) hy
      · by_cases hbi : b = i
        · rw [hbi, x1] at hz
          injection hz with hz
          intro he
          have : hasT (ls.take i) x = true := hasT_iff.mpr ⟨a, y, by rw [List.getElem?_take, if_pos (by omega)]; exact hy, by rw [hz]; exact he⟩
          rw [this] at e2; cases e2
        · exact hd a b y z hy hz hab (by omega)
    · have ha : ls.all wordS = true := List.all_eq_true.mpr (fun x hx => by
        obtain ⟨a, ha, rfl⟩ := List.getElem_of_mem hx
        exact hv a _ (by omega) (List.getElem?_eq_getElem ha))
      have hd2 : distB ls = true := dist_yes (fun a b x y hx hy hab => hd a b x y hx hy hab (by have := (List.getElem?_eq_some_iff.mp hy).1; omega))
      unfold difB
      rw [ha, hd2, decide_eq_true l1]; rfl
end Go.Proofs.Ytjleempapphlhab.Mini
end
