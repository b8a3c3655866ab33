/- Parts of the proof: RosS. -/
import Derived.Test.YtdhjfbnlkecggaaGdRosP
import Derived.Test.YtdhjfbnlkecggaaGdMini19
section
namespace Go.Proofs.Ytdhjfbnlkecggaa.Mini
open Go Go.RowKit
set_option linter.unusedVariables false
set_option linter.unusedSimpArgs false
set_option maxRecDepth 20000
noncomputable def sameR (a b : List Per) : Bool := @decide (a = b) (Classical.propDecidable _)
noncomputable def s_samer : Sig := sig Try.f20 (fun xs => ∃ l m : List Per, xs = [.list 30 l.length (rosD l), .list 30 m.length (rosD m)] ∧ l.length ≤ 1048576) (fun xs ys => ys = [.bool (sameR (unR (selL xs 0)) (unR (selL xs 1)))])
noncomputable def F_samer : Tb := tab []
noncomputable def hs_samer : Hds := [([false, true, false, true, true], shapeW Try.f20 0 [(0, .one (.kd (.list 30))), (1, .one (.kd (.list 30))), (5, .one (.kd (.int .i64)))] [])]
set_option maxHeartbeats 4000000 in
theorem t_samer (a0n : Nat) (a0 : List D) (a1n : Nat) (a1 : List D) : fnT' Try.prog F_samer hs_samer .own Try.f20 [.list 30 a0n a0, .list 30 a1n a1] = (Tree.ite ((Nat.cast a0n : Int) != (Nat.cast a1n : Int)) (Tree.ret [(D.bool false)]) (Tree.goto 0 [(D.list 30 a0n a0), (D.list 30 a1n a1), (D.int .i64 (0 : Int))])) := by kernel_rfl
set_option maxHeartbeats 4000000 in
theorem t_samer0 (x0n : Nat) (x0 : List D) (x1n : Nat) (x1 : List D) (x5 : Int) : plT' Try.prog F_samer hs_samer .own Try.f20 0 [.list 30 x0n x0, .list 30 x1n x1, .int .i64 x5] = (Tree.ite (ltI x5 (Nat.cast x0n : Int)) (Tree.need (all_ [(((0 : Int) ≤ x5) ∧ (x5 < (Nat.cast x0n : Int)))]) (Tree.need (all_ [((GetElem?.getElem? x0 ((Int.toNat x5) * (3 : Nat))) = (Option.some (sel x0 ((Int.toNat x5) * (3 : Nat)) Kd.str))), ((GetElem?.getElem? x0 (((Int.toNat x5) * (3 : Nat)) + (1 : Nat))) = (Option.some (sel x0 (((Int.toNat x5) * (3 : Nat)) + (1 : Nat)) (Kd.int .i64)))), ((GetElem?.getElem? x0 ((((Int.toNat x5) * (3 : Nat)) + (1 : Nat)) + (1 : Nat))) = (Option.some (sel x0 ((((Int.toNat x5) * (3 : Nat)) + (1 : Nat)) + (1 : Nat)) Kd.bool)))]) (Tree.need (all_ [(((0 : Int) ≤ x5) ∧ (x5 < (Nat.cast x1n : Int)))]) (Tree.need (all_ [((GetElem?.getElem? x1 ((Int.toNat x5) * (3 : Nat))) = (Option.some (sel x1 ((Int.toNat x5) * (3 : Nat)) Kd.str))), ((GetElem?.getElem? x1 (((Int.toNat x5) * (3 : Nat)) + (1 : Nat))) = (Option.some (sel x1 (((Int.toNat x5) * (3 : Nat)) + (1 : Nat)) (Kd.int .i64)))), ((GetElem?.getElem? x1 ((((Int.toNat x5) * (3 : Nat)) + (1 : Nat)) + (1 : Nat))) = (Option.some (sel x1 ((((Int.toNat x5) * (3 : Nat)) + (1 : Nat)) + (1 : Nat)) Kd.bool)))]) (Tree.ite (Bool.not (((ByteArray.toList (selS x0 ((Int.toNat x5) * (3 : Nat)))) == (ByteArray.toList (selS x1 ((Int.toNat x5) * (3 : Nat))))) && (((selI x0 (((Int.toNat x5) * (3 : Nat)) + (1 : Nat))) == (selI x1 (((Int.toNat x5) * (3 : Nat)) + (1 : Nat)))) && (((selB x0 ((((Int.toNat x5) * (3 : Nat)) + (1 : Nat)) + (1 : Nat))) == (selB x1 ((((Int.toNat x5) * (3 : Nat)) + (1 : Nat)) + (1 : Nat)))) && true)))) (Tree.ret [(D.bool false)]) (Tree.need (all_ [(inK .i64 (x5 + (1 : Int)))]) (Tree.goto 0 [(D.list 30 x0n x0), (D.list 30 x1n x1), (D.int .i64 (x5 + (1 : Int)))]))))))) (Tree.ret [(D.bool true)])) := by kernel_rfl
theorem per_eq {p q : Per} : (p.w.data.toList == q.w.data.toList && (p.r == q.r && (p.m == q.m && true))) = true ↔ p = q := by
  simp only [Bool.and_eq_true, beq_iff_eq, and_true]
  constructor
  · rintro ⟨h1, h2, h3⟩
    cases p; cases q
    simp only at h1 h2 h3
    rw [text_eqR h1, h2, h3]
  · rintro rfl
    exact ⟨rfl, rfl, rfl⟩
theorem per_ne {p q : Per} (h : (p.w.data.toList == q.w.data.toList && (p.r == q.r && (p.m == q.m && true))) = false) : p ≠ q := fun e => by
  rw [per_eq.mpr e] at h; cases h
theorem sameR_iff {a b : List Per} : sameR a b = true ↔ a = b := @decide_eq_true_iff _ (Classical.propDecidable _)
theorem sameR_self (a : List Per) : sameR a a = true := sameR_iff.mpr rfl
theorem sameR_no {a b : List Per} (h : a ≠ b) : sameR a b = false := by
  cases e : sameR a b with
  | false => rfl
  | true => exact absurd (sameR_iff.mp e) h
theorem ok_samer : FnOk Try.prog 20 s_samer := by
  refine fnOk (fn := Try.f20) (F := F_samer) (hs := hs_samer) tab_nil mixed rfl rfl rfl [.list 30, .list 30] (by kernel_rfl) (by simp) ?_
  rintro n cs n' cs' ⟨l, m, e, hl⟩
  simp only [List.cons.injEq, D.list.injEq, true_and, and_true] at e
  obtain ⟨⟨rfl, rfl⟩, rfl, rfl⟩ := e
  refine ⟨fun h ys => h = 0 ∧ ∃ i : Nat, ys = [.list 30 l.length (rosD l), .list 30 m.length (rosD m), .int .i64 i] ∧ l.length = m.length ∧ i ≤ l.length ∧ ∀ (j : Nat) (p q : Per), j < i → l[j]? = some p → m[j]? = some q → p = q, fun h ys => l.length - (selI ys 2).toNat, ?_, ?_⟩
  · rw [t_samer]
    simp only [Tree.holds, ltI_t, ltI_f, leI_t, leI_f, all_cons, all_nil, and_true, true_and, forall_eq, decide_eq_true_eq, decide_eq_false_iff_not, beq_iff_eq, beq_eq_false_iff_ne, bne_iff_ne, bne_eq_false_iff_eq, ne_eq, Decidable.not_not, selI_z, selB_z, selS_z, selN_z, selL_z, selI_s, selB_s, selS_s, selN_s, selL_s, Int.toNat_natCast, Nat.mul_one, Nat.zero_add, Nat.div_one, List.drop_zero, Nat.zero_mul, Nat.le_refl, Bool.not_eq_true', Bool.not_eq_false', Bool.false_eq_true, Bool.true_eq_false, not_true_eq_false, not_false_eq_true, false_imp_iff, true_imp_iff, if_true, if_false, sig, sigF, sigW, sigR, sigO, sigD, sigWD, List.map_cons, List.map_nil, unR_ros]
    refine ⟨fun h => ret_bool' ?_, fun h => ⟨0, rfl, by omega, by omega, fun j p q h => by omega⟩⟩
    exact (sameR_no fun e => h (by rw [e])).symm
  · rintro h ys ⟨rfl, i, rfl, hlm, hi, hv⟩
    rw [t_samer0]
    simp only [Tree.holds, ltI_t, ltI_f, leI_t, leI_f, all_cons, all_nil, and_true, true_and, forall_eq, decide_eq_true_eq, decide_eq_false_iff_not, beq_iff_eq, beq_eq_false_iff_ne, bne_iff_ne, bne_eq_false_iff_eq, ne_eq, Decidable.not_not, selI_z, selB_z, selS_z, selN_z, selL_z, selI_s, selB_s, selS_s, selN_s, selL_s, Int.toNat_natCast, Nat.mul_one, Nat.zero_add, Nat.div_one, List.drop_zero, Nat.zero_mul, Nat.le_refl, Bool.not_eq_true', Bool.not_eq_false', Bool.false_eq_true, Bool.true_eq_false, not_true_eq_false, not_false_eq_true, false_imp_iff, true_imp_iff, if_true, if_false, sig, sigF, sigW, sigR, sigO, sigD, sigWD, List.map_cons, List.map_nil, sel_kstr, sel_kint, sel_kbool, unR_ros, ByteArray.toList_eq]
    refine ⟨fun hj => ?_, fun hj => ret_bool' ?_⟩
    · obtain ⟨p, p1, p2⟩ := ros_get (l := l) (i := i) (by omega)
      obtain ⟨c0, c1, c2⟩ := ros_cell p1
      obtain ⟨q, q1, q2⟩ := ros_get (l := m) (i := i) (by omega)
      obtain ⟨d0, d1, d2⟩ := ros_cell q1
      rw [selS_of c0, selI_of c1, selB_of c2, selS_of d0, selI_of d1, selB_of d2]
      refine ⟨⟨by omega, by omega⟩, ⟨c0, c1, c2⟩, ⟨by omega, by omega⟩, ⟨d0, d1, d2⟩, fun h => ret_bool' (sameR_no fun e => ?_).symm, fun h => ⟨by unfold inK; omega, ⟨i + 1, rfl, hlm, by omega, fun j p' q' hj' hp' hq' => ?_⟩, by omega⟩⟩
      · subst e
        rw [p1] at q1; injection q1 with q1
        exact per_ne h q1
      · by_cases e : j = i
        · rw [e, p1] at hp'; rw [e, q1] at hq'
          injection hp' with hp'; injection hq' with hq'
          rw [← hp', ← hq']; exact per_eq.mp h
        · exact hv j p' q' (by omega) hp' hq'
    · refine (sameR_iff.mpr (List.ext_getElem hlm fun j h1 h2 => ?_)).symm
      exact hv j _ _ (by omega) (List.getElem?_eq_getElem h1) (List.getElem?_eq_getElem h2)
end Go.Proofs.Ytdhjfbnlkecggaa.Mini
end
