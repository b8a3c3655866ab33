/- Parts of the proof: Wd. -/
import Derived.Test.YtcnmpghenfbflaaGdRdP
import Derived.Test.YtcnmpghenfbflaaGdRwP
section
namespace Go.Proofs.Ytcnmpghenfbflaa.Mini
open Go Go.RowKit
set_option linter.unusedVariables false
set_option linter.unusedSimpArgs false
set_option maxRecDepth 20000
noncomputable def s_dwordn : Sig := sigR Try.f42 false (fun xs => rdIn xs 2 ∧ 0 ≤ selI xs 1 ∧ selI xs 1 ≤ 1000) (fun xs ys => rdOut xs ys 2 (fun rs => ∃ s : ByteArray, rs = [.str s] ∧ s.size ≤ 20))
noncomputable def F_dwordn : Tb := tab [(50, s_dodd), (43, s_dpick)]
theorem F_dwordn_dodd : F_dwordn 50 = some s_dodd := rfl
theorem F_dwordn_dpick : F_dwordn 43 = some s_dpick := rfl
noncomputable def hs_dwordn : Hds := []
set_option maxHeartbeats 4000000 in
theorem t_dwordn (r : List D) (a0 : Int) : fnTR' Try.prog F_dwordn hs_dwordn false Try.f42 [.list 0 0 r, .int IntKind.i64 a0] = (Tree.call 50 [(D.list 0 (0 : Nat) r), (D.int .i64 a0)] (fun y199 => (Tree.ite (selB y199 1) (Tree.call 43 [(D.list 0 (0 : Nat) (selL y199 0)), (D.int .i64 (5 : Int))] (fun y197 => (Tree.need (all_ [(((0 : Int) ≤ (selI y197 1)) ∧ ((selI y197 1) < (Nat.cast (5 : Nat) : Int)))]) (Tree.need (all_ [((GetElem?.getElem? [(D.str (ByteArray.mk (List.toArray []))), (D.str (ByteArray.mk (List.toArray [(49 : UInt8), (97 : UInt8)]))), (D.str (ByteArray.mk (List.toArray [(65 : UInt8)]))), (D.str (ByteArray.mk (List.toArray [(97 : UInt8), (32 : UInt8), (98 : UInt8)]))), (D.str (ByteArray.mk (List.toArray [(97 : UInt8), (98 : UInt8), (99 : UInt8), (100 : UInt8), (101 : UInt8), (102 : UInt8), (103 : UInt8), (104 : UInt8), (105 : UInt8), (106 : UInt8), (107 : UInt8)])))] (((0 : Nat) + (Int.toNat (selI y197 1))) * (1 : Nat))) = (Option.some (sel [(D.str (ByteArray.mk (List.toArray []))), (D.str (ByteArray.mk (List.toArray [(49 : UInt8), (97 : UInt8)]))), (D.str (ByteArray.mk (List.toArray [(65 : UInt8)]))), (D.str (ByteArray.mk (List.toArray [(97 : UInt8), (32 : UInt8), (98 : UInt8)]))), (D.str (ByteArray.mk (List.toArray [(97 : UInt8), (98 : UInt8), (99 : UInt8), (100 : UInt8), (101 : UInt8), (102 : UInt8), (103 : UInt8), (104 : UInt8), (105 : UInt8), (106 : UInt8), (107 : UInt8)])))] (((0 : Nat) + (Int.toNat (selI y197 1))) * (1 : Nat)) Kd.str)))]) (Tree.ret [(D.list 0 (0 : Nat) (selL y197 0)), (D.str (selS [(D.str (ByteArray.mk (List.toArray []))), (D.str (ByteArray.mk (List.toArray [(49 : UInt8), (97 : UInt8)]))), (D.str (ByteArray.mk (List.toArray [(65 : UInt8)]))), (D.str (ByteArray.mk (List.toArray [(97 : UInt8), (32 : UInt8), (98 : UInt8)]))), (D.str (ByteArray.mk (List.toArray [(97 : UInt8), (98 : UInt8), (99 : UInt8), (100 : UInt8), (101 : UInt8), (102 : UInt8), (103 : UInt8), (104 : UInt8), (105 : UInt8), (106 : UInt8), (107 : UInt8)])))] (((0 : Nat) + (Int.toNat (selI y197 1))) * (1 : Nat))))]))))) (Tree.call 43 [(D.list 0 (0 : Nat) (selL y199 0)), (D.int .i64 (6 : Int))] (fun y197 => (Tree.need (all_ [(((0 : Int) ≤ (selI y197 1)) ∧ ((selI y197 1) < (Nat.cast (6 : Nat) : Int)))]) (Tree.need (all_ [((GetElem?.getElem? [(D.str (ByteArray.mk (List.toArray [(97 : UInt8), (110 : UInt8), (110 : UInt8)]))), (D.str (ByteArray.mk (List.toArray [(98 : UInt8), (111 : UInt8), (98 : UInt8)]))), (D.str (ByteArray.mk (List.toArray [(99 : UInt8), (97 : UInt8), (116 : UInt8)]))), (D.str (ByteArray.mk (List.toArray [(101 : UInt8), (118 : UInt8), (101 : UInt8)]))), (D.str (ByteArray.mk (List.toArray [(116 : UInt8), (111 : UInt8), (109 : UInt8)]))), (D.str (ByteArray.mk (List.toArray [(120 : UInt8), (49 : UInt8)])))] (((0 : Nat) + (Int.toNat (selI y197 1))) * (1 : Nat))) = (Option.some (sel [(D.str (ByteArray.mk (List.toArray [(97 : UInt8), (110 : UInt8), (110 : UInt8)]))), (D.str (ByteArray.mk (List.toArray [(98 : UInt8), (111 : UInt8), (98 : UInt8)]))), (D.str (ByteArray.mk (List.toArray [(99 : UInt8), (97 : UInt8), (116 : UInt8)]))), (D.str (ByteArray.mk (List.toArray [(101 : UInt8), (118 : UInt8), (101 : UInt8)]))), (D.str (ByteArray.mk (List.toArray [(116 : UInt8), (111 : UInt8), (109 : UInt8)]))), (D.str (ByteArray.mk (List.toArray [(120 : UInt8), (49 : UInt8)])))] (((0 : Nat) + (Int.toNat (selI y197 1))) * (1 : Nat)) Kd.str)))]) (Tree.ret [(D.list 0 (0 : Nat) (selL y197 0)), (D.str (selS [(D.str (ByteArray.mk (List.toArray [(97 : UInt8), (110 : UInt8), (110 : UInt8)]))), (D.str (ByteArray.mk (List.toArray [(98 : UInt8), (111 : UInt8), (98 : UInt8)]))), (D.str (ByteArray.mk (List.toArray [(99 : UInt8), (97 : UInt8), (116 : UInt8)]))), (D.str (ByteArray.mk (List.toArray [(101 : UInt8), (118 : UInt8), (101 : UInt8)]))), (D.str (ByteArray.mk (List.toArray [(116 : UInt8), (111 : UInt8), (109 : UInt8)]))), (D.str (ByteArray.mk (List.toArray [(120 : UInt8), (49 : UInt8)])))] (((0 : Nat) + (Int.toNat (selI y197 1))) * (1 : Nat))))])))))))) := by kernel_rfl
theorem ok_dwordn : FnOk Try.prog 42 s_dwordn := by
  refine fnOkR (fn := Try.f42) (F := F_dwordn) (hs := hs_dwordn) (tab_cons ok_dodd (tab_cons ok_dpick tab_nil)) mixed rfl rfl rfl (by kernel_rfl) [.int .i64] (by kernel_rfl) (by simp [hs_dwordn, shapeW]) ?_
  rintro r n ⟨hr, hn0, hn1⟩
  obtain ⟨L, p, rfl, hL, hp0, hp1⟩ := rd_split hr
  have hn0 : 0 ≤ n := hn0
  have hn1 : n ≤ 1000 := hn1
  refine ⟨fun _ _ => False, fun _ _ => 0, ?_, fun _ _ h => h.elim⟩
  rw [t_dwordn]
  simp only [F_dwordn_dodd, F_dwordn_dpick, s_dodd, s_dpick, Tree.holds, ltI_t, ltI_f, leI_t, leI_f, all_cons, all_nil, and_true, true_and, forall_eq, decide_eq_true_eq, decide_eq_false_iff_not, beq_iff_eq, beq_eq_false_iff_ne, bne_iff_ne, bne_eq_false_iff_eq, ne_eq, Decidable.not_not, selI_z, selB_z, selS_z, selN_z, selL_z, selI_s, selB_s, selS_s, selN_s, selL_s, Int.toNat_natCast, Nat.mul_one, Nat.zero_add, Nat.div_one, List.drop_zero, Nat.zero_mul, Nat.le_refl, Bool.not_eq_true', Bool.not_eq_false', Bool.false_eq_true, Bool.true_eq_false, not_true_eq_false, not_false_eq_true, false_imp_iff, true_imp_iff, if_true, if_false, sig, sigF, sigW, sigR, sigO, sigD, sigWD, List.map_cons, List.map_nil]
  refine ⟨⟨rd_in hL (by omega) (by omega), by omega, by omega⟩, ?_⟩
  rintro ys ⟨p1, rs, rfl, p1a, p1b, p1o, rfl, p1z⟩
  rw [rdN_z] at p1a p1b
  try simp only [F_dwordn_dodd, F_dwordn_dpick, s_dodd, s_dpick, Tree.holds, ltI_t, ltI_f, leI_t, leI_f, all_cons, all_nil, and_true, true_and, forall_eq, decide_eq_true_eq, decide_eq_false_iff_not, beq_iff_eq, beq_eq_false_iff_ne, bne_iff_ne, bne_eq_false_iff_eq, ne_eq, Decidable.not_not, selI_z, selB_z, selS_z, selN_z, selL_z, selI_s, selB_s, selS_s, selN_s, selL_s, Int.toNat_natCast, Nat.mul_one, Nat.zero_add, Nat.div_one, List.drop_zero, Nat.zero_mul, Nat.le_refl, Bool.not_eq_true', Bool.not_eq_false', Bool.false_eq_true, Bool.true_eq_false, not_true_eq_false, not_false_eq_true, false_imp_iff, true_imp_iff, if_true, if_false, sig, sigF, sigW, sigR, sigO, sigD, sigWD, List.map_cons, List.map_nil, rdB_z]
  refine ⟨fun _ => ?_, fun _ => ?_⟩
  · refine ⟨⟨rd_in hL (by omega) (by omega), by omega, by omega⟩, ?_⟩
    rintro ys ⟨p2, rs, rfl, p2a, p2b, x, rfl, x0, x1⟩
    rw [rdN_z] at p2a p2b
    have x1 : x < 5 := x1
    try simp only [F_dwordn_dodd, F_dwordn_dpick, s_dodd, s_dpick, Tree.holds, ltI_t, ltI_f, leI_t, leI_f, all_cons, all_nil, and_true, true_and, forall_eq, decide_eq_true_eq, decide_eq_false_iff_not, beq_iff_eq, beq_eq_false_iff_ne, bne_iff_ne, bne_eq_false_iff_eq, ne_eq, Decidable.not_not, selI_z, selB_z, selS_z, selN_z, selL_z, selI_s, selB_s, selS_s, selN_s, selL_s, Int.toNat_natCast, Nat.mul_one, Nat.zero_add, Nat.div_one, List.drop_zero, Nat.zero_mul, Nat.le_refl, Bool.not_eq_true', Bool.not_eq_false', Bool.false_eq_true, Bool.true_eq_false, not_true_eq_false, not_false_eq_true, false_imp_iff, true_imp_iff, if_true, if_false, sig, sigF, sigW, sigR, sigO, sigD, sigWD, List.map_cons, List.map_nil, rdB_z]
    generalize hls : (D.str ⟨#[]⟩ :: _ : List D) = ls
    obtain ⟨s, g1, g2⟩ := pick_str (ls := ls) (n := 5) (fun s => decide (s.size ≤ 20)) x0 x1 (by rw [← hls]; rfl) (by rw [← hls]; rfl)
    rw [g1, sel_str g1, selS_of g1]
    exact ⟨⟨x0, x1⟩, rfl, p2, _, rfl, by rw [rdN_z]; omega, by rw [rdN_z]; omega, s, rfl, by simpa using g2⟩
  · refine ⟨⟨rd_in hL (by omega) (by omega), by omega, by omega⟩, ?_⟩
    rintro ys ⟨p2, rs, rfl, p2a, p2b, x, rfl, x0, x1⟩
    rw [rdN_z] at p2a p2b
    have x1 : x < 6 := x1
    try simp only [F_dwordn_dodd, F_dwordn_dpick, s_dodd, s_dpick, Tree.holds, ltI_t, ltI_f, leI_t, leI_f, all_cons, all_nil, and_true, true_and, forall_eq, decide_eq_true_eq, decide_eq_false_iff_not, beq_iff_eq, beq_eq_false_iff_ne, bne_iff_ne, bne_eq_false_iff_eq, ne_eq, Decidable.not_not, selI_z, selB_z, selS_z, selN_z, selL_z, selI_s, selB_s, selS_s, selN_s, selL_s, Int.toNat_natCast, Nat.mul_one, Nat.zero_add, Nat.div_one, List.drop_zero, Nat.zero_mul, Nat.le_refl, Bool.not_eq_true', Bool.not_eq_false', Bool.false_eq_true, Bool.true_eq_false, not_true_eq_false, not_false_eq_true, false_imp_iff, true_imp_iff, if_true, if_false, sig, sigF, sigW, sigR, sigO, sigD, sigWD, List.map_cons, List.map_nil, rdB_z]
    generalize hls : (D.str ⟨#[97, 110, 110]⟩ :: _ : List D) = ls
    obtain ⟨s, g1, g2⟩ := pick_str (ls := ls) (n := 6) (fun s => decide (s.size ≤ 20)) x0 x1 (by rw [← hls]; rfl) (by rw [← hls]; rfl)
    rw [g1, sel_str g1, selS_of g1]
    exact ⟨⟨x0, x1⟩, rfl, p2, _, rfl, by rw [rdN_z]; omega, by rw [rdN_z]; omega, s, rfl, by simpa using g2⟩
end Go.Proofs.Ytcnmpghenfbflaa.Mini
end
