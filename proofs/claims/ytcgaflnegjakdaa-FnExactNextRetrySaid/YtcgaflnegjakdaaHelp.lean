/- Exact values: the laws' helpers for lists of numbers; words alive. -/
import Derived.Test.YtcgaflnegjakdaaMini17
import Derived.Test.YtcgaflnegjakdaaMini18
namespace Go.Proofs.Ytcgaflnegjakdaa.Mini
open Go Go.RowKit
set_option linter.unusedVariables false
set_option linter.unusedSimpArgs false
set_option maxRecDepth 20000
theorem mixed : Try.prog.follows .mixedOrders = true := by kernel_rfl
theorem fitsL_nil {T : Typ.Tab} {f : Nat} {ys : List D} (h : fitsL T f [] ys) : ys = [] := by
  cases ys with
  | nil => rfl
  | cons d ds => exact h.elim
theorem fitsL_cons {T : Typ.Tab} {f : Nat} {a : Typ.At} {aa : List Typ.At} {ys : List D} (h : fitsL T f (a :: aa) ys) : ∃ d ds, ys = d :: ds ∧ fitsAt T f a d ∧ fitsL T f aa ds := by
  cases ys with
  | nil => exact h.elim
  | cons d ds => exact ⟨d, ds, rfl, h.1, h.2⟩
theorem fitsAt_int {T : Typ.Tab} {f : Nat} {k : IntKind} {lo hi : Int} {d : D} (h : fitsAt T f (.int k lo hi) d) : ∃ n : Int, d = .int k n ∧ lo ≤ n ∧ n ≤ hi := by cases f <;> exact h
theorem fitsAt_bool {T : Typ.Tab} {f : Nat} {o : Option Bool} {d : D} (h : fitsAt T f (.bool o) d) : ∃ b, d = .bool b := by cases f <;> exact h
theorem fitsAt_str {T : Typ.Tab} {f : Nat} {m : Nat} {d : D} (h : fitsAt T f (.str m) d) : ∃ s : ByteArray, d = .str s ∧ s.size ≤ m := by cases f <;> exact h
/-- A number that was drawn. -/
theorem fits_int1 {T : Typ.Tab} {f : Nat} {k : IntKind} {lo hi : Int} {ys : List D} (h : fitsL T f [.int k lo hi] ys) : ∃ n : Int, ys = [.int k n] ∧ lo ≤ n ∧ n ≤ hi := by
  obtain ⟨d, ds, rfl, h1, h2⟩ := fitsL_cons h
  obtain ⟨n, rfl, h3⟩ := fitsAt_int h1
  rw [fitsL_nil h2]
  exact ⟨n, rfl, h3⟩
theorem bytes_wf {xs : List D} (h : wfXs Try.prog 4 [.list 5] xs) : bytesD 5 xs := by
  match xs, h with
  | [d], ⟨⟨n, cs, ks, e, h1, h2, h3, h4⟩, _⟩ =>
    subst e
    refine ⟨n, cs, rfl, fun x hx => ?_⟩
    have hk : ks = [.int .u8] := by
      have : ksOf Try.prog 5 = some [.int .u8] := by kernel_rfl
      rw [this] at h2; injection h2 with h2; exact h2.symm
    subst hk
    obtain ⟨j, hj, rfl⟩ := List.getElem_of_mem hx
    obtain ⟨k, hk1, hk2⟩ := h4 j cs[j] (List.getElem?_eq_getElem hj)
    have : k = .int .u8 := by
      have e : j % 1 = 0 := Nat.mod_one j
      simp [e] at hk1; exact hk1.symm
    subst this
    obtain ⟨z, hz, hw⟩ := hk2
    exact ⟨z, hz, wf_u8 hw⟩
def ints (a : List Int) : List D := a.map (.int .i64)
theorem ints_len (a : List Int) : (ints a).length = a.length := by simp [ints]
theorem ints_at {a : List Int} {i : Nat} {x : Int} (h : a[i]? = some x) : (ints a)[i]? = some (.int .i64 x) := by simp [ints, h]
theorem ints_sel {a : List Int} {i : Nat} {x : Int} (h : a[i]? = some x) : selI (ints a) i = x := selI_of (ints_at h)
theorem ints_get {a : List Int} {i : Nat} (h : i < a.length) : ∃ x, a[i]? = some x ∧ (ints a)[i]? = some (.int .i64 x) ∧ selI (ints a) i = x := ⟨a[i], List.getElem?_eq_getElem h, ints_at (List.getElem?_eq_getElem h), ints_sel (List.getElem?_eq_getElem h)⟩
/-- Marks. -/
def marks (k : Int) (n : Nat) : List Int := (List.range n).map fun (i : Nat) => k + (i : Int)
theorem marks_len (k : Int) (n : Nat) : (marks k n).length = n := by simp [marks]
theorem marks_at {k : Int} {n i : Nat} (h : i < n) : (marks k n)[i]? = some (k + i) := by simp [marks, h]
/-- The numbers of a list. -/
def unI (l : List D) : List Int := l.map fun d => match d with | .int _ n => n | _ => 0
theorem unI_ints (a : List Int) : unI (ints a) = a := by
  unfold unI ints
  rw [List.map_map]
  conv => rhs; rw [← List.map_id a]
  rfl
def eqI (a b : List Int) : Bool := decide (a = b)
theorem eqI_self (a : List Int) : eqI a a = true := by simp [eqI]
theorem eqI_iff {a b : List Int} : eqI a b = true ↔ a = b := by simp [eqI]
noncomputable def s_eqints : Sig := sig Try.f20 (fun xs => ∃ a b : List Int, xs = [.list 3 a.length (ints a), .list 3 b.length (ints b)] ∧ a.length ≤ 4611686018427387904) (fun xs ys => ys = [.bool (eqI (unI (selL xs 0)) (unI (selL xs 1)))])
noncomputable def s_sameints : Sig := sig Try.f15 (fun xs => ∃ a b : List Int, xs = [.list 3 a.length (ints a), .list 3 b.length (ints b)] ∧ a.length ≤ 4611686018427387904) (fun xs ys => ys = [.bool (eqI (unI (selL xs 0)) (unI (selL xs 1)))])
noncomputable def s_markints : Sig := sigW Try.f21 (fun xs => ∃ (a : List Int) (k : Int), xs = [.list 3 a.length (ints a), .int .i64 k] ∧ 0 ≤ k ∧ k + a.length ≤ 4611686018427387904) (fun xs yz => yz = [.int .i64 (selI xs 1 + selN xs 0), .list 3 (selN xs 0) (ints (marks (selI xs 1) (selN xs 0)))])
noncomputable def s_heldints : Sig := sig Try.f22 (fun xs => ∃ (n : Nat) (k : Int), xs = [.list 3 n (ints (marks k n)), .int .i64 k] ∧ 0 ≤ k ∧ k + n ≤ 4611686018427387904) (fun xs ys => ys = [.int .i64 (selI xs 1 + selN xs 0)])
noncomputable def F_eqints : Tb := tab []
noncomputable def hs_eqints : Hds := [([false, true, false, true, true], shapeW Try.f20 0 [(0, .one (.kd (.list 3))), (1, .one (.kd (.list 3))), (5, .one (.kd (.int .i64)))] [])]
theorem t_eqints (a0n : Nat) (a0 : List D) (a1n : Nat) (a1 : List D) : fnT' Try.prog F_eqints hs_eqints .own Try.f20 [.list 3 a0n a0, .list 3 a1n a1] = (Tree.ite ((Nat.cast a0n : Int) != (Nat.cast a1n : Int)) (Tree.ret [(D.bool false)]) (Tree.goto 0 [(D.list 3 a0n a0), (D.list 3 a1n a1), (D.int .i64 (0 : Int))])) := by kernel_rfl
theorem t_eqints0 (x0n : Nat) (x0 : List D) (x1n : Nat) (x1 : List D) (x5 : Int) : plT' Try.prog F_eqints hs_eqints .own Try.f20 0 [.list 3 x0n x0, .list 3 x1n x1, .int .i64 x5] = (Tree.ite (ltI x5 (Nat.cast x0n : Int)) (Tree.need (all_ [(((0 : Int) ≤ x5) ∧ (x5 < (Nat.cast x0n : Int)))]) (Tree.need (all_ [((GetElem?.getElem? x0 ((Int.toNat x5) * (1 : Nat))) = (Option.some (sel x0 ((Int.toNat x5) * (1 : Nat)) (Kd.int .i64))))]) (Tree.need (all_ [(((0 : Int) ≤ x5) ∧ (x5 < (Nat.cast x1n : Int)))]) (Tree.need (all_ [((GetElem?.getElem? x1 ((Int.toNat x5) * (1 : Nat))) = (Option.some (sel x1 ((Int.toNat x5) * (1 : Nat)) (Kd.int .i64))))]) (Tree.ite ((selI x0 ((Int.toNat x5) * (1 : Nat))) != (selI x1 ((Int.toNat x5) * (1 : Nat)))) (Tree.ret [(D.bool false)]) (Tree.need (all_ [(inK .i64 (x5 + (1 : Int)))]) (Tree.goto 0 [(D.list 3 x0n x0), (D.list 3 x1n x1), (D.int .i64 (x5 + (1 : Int)))]))))))) (Tree.ret [(D.bool true)])) := by kernel_rfl
noncomputable def F_sameints : Tb := tab []
noncomputable def hs_sameints : Hds := [([false, true, false, true, true], shapeW Try.f15 0 [(0, .one (.kd (.list 3))), (1, .one (.kd (.list 3))), (5, .one (.kd (.int .i64)))] [])]
theorem t_sameints (a0n : Nat) (a0 : List D) (a1n : Nat) (a1 : List D) : fnT' Try.prog F_sameints hs_sameints .own Try.f15 [.list 3 a0n a0, .list 3 a1n a1] = (Tree.ite ((Nat.cast a0n : Int) != (Nat.cast a1n : Int)) (Tree.ret [(D.bool false)]) (Tree.goto 0 [(D.list 3 a0n a0), (D.list 3 a1n a1), (D.int .i64 (0 : Int))])) := by kernel_rfl
theorem t_sameints0 (x0n : Nat) (x0 : List D) (x1n : Nat) (x1 : List D) (x5 : Int) : plT' Try.prog F_sameints hs_sameints .own Try.f15 0 [.list 3 x0n x0, .list 3 x1n x1, .int .i64 x5] = (Tree.ite (ltI x5 (Nat.cast x0n : Int)) (Tree.need (all_ [(((0 : Int) ≤ x5) ∧ (x5 < (Nat.cast x0n : Int)))]) (Tree.need (all_ [((GetElem?.getElem? x0 ((Int.toNat x5) * (1 : Nat))) = (Option.some (sel x0 ((Int.toNat x5) * (1 : Nat)) (Kd.int .i64))))]) (Tree.need (all_ [(((0 : Int) ≤ x5) ∧ (x5 < (Nat.cast x1n : Int)))]) (Tree.need (all_ [((GetElem?.getElem? x1 ((Int.toNat x5) * (1 : Nat))) = (Option.some (sel x1 ((Int.toNat x5) * (1 : Nat)) (Kd.int .i64))))]) (Tree.ite ((selI x0 ((Int.toNat x5) * (1 : Nat))) != (selI x1 ((Int.toNat x5) * (1 : Nat)))) (Tree.ret [(D.bool false)]) (Tree.need (all_ [(inK .i64 (x5 + (1 : Int)))]) (Tree.goto 0 [(D.list 3 x0n x0), (D.list 3 x1n x1), (D.int .i64 (x5 + (1 : Int)))]))))))) (Tree.ret [(D.bool true)])) := by kernel_rfl
noncomputable def F_markints : Tb := tab []
noncomputable def hs_markints : Hds := [([false, true, false, true], shapeW Try.f21 1 [(0, .one (.sl 3 0)), (1, .one (.kd (.int .i64))), (5, .one (.kd (.int .i64)))] [.sym 3])]
theorem t_markints (a0n : Nat) (a0 : List D) (a1 : Int) : fnT' Try.prog F_markints hs_markints .wr Try.f21 [.list 3 a0n a0, .int IntKind.i64 a1] = (Tree.goto 0 [(D.int .i64 (Nat.cast (0 : Nat) : Int)), (D.int .i64 (Nat.cast a0n : Int)), (D.int .i64 a1), (D.int .i64 (0 : Int)), (D.list 3 (0 : Nat) a0)]) := by kernel_rfl
theorem t_markints0 (x0o x0n : Nat) (x1 : Int) (x5 : Int) (r0 : List D) : plT' Try.prog F_markints hs_markints .wr Try.f21 0 [.int .i64 (x0o : Nat), .int .i64 (x0n : Nat), .int .i64 x1, .int .i64 x5, .list 3 0 r0] = (Tree.ite (ltI x5 (Nat.cast x0n : Int)) (Tree.need (all_ [(((0 : Int) ≤ x5) ∧ (x5 < (Nat.cast x0n : Int)))]) (Tree.need (all_ [((((x0o + (Int.toNat x5)) * (1 : Nat)) + (1 : Nat)) ≤ (List.length r0))]) (Tree.need (all_ [(inK .i64 (x1 + (1 : Int)))]) (Tree.need (all_ [(inK .i64 (x5 + (1 : Int)))]) (Tree.goto 0 [(D.int .i64 (Nat.cast x0o : Int)), (D.int .i64 (Nat.cast x0n : Int)), (D.int .i64 (x1 + (1 : Int))), (D.int .i64 (x5 + (1 : Int))), (D.list 3 (0 : Nat) (setL r0 ((x0o + (Int.toNat x5)) * (1 : Nat)) [(D.int .i64 x1)]))]))))) (Tree.need (all_ [(((List.length r0) = (((List.length r0) / (1 : Nat)) * (1 : Nat))) ∧ (scal r0))]) (Tree.ret [(D.int .i64 x1), (D.list 3 ((List.length r0) / (1 : Nat)) r0)]))) := by kernel_rfl
noncomputable def F_heldints : Tb := tab []
noncomputable def hs_heldints : Hds := [([false, true, false, true], shapeW Try.f22 0 [(0, .one (.kd (.list 3))), (1, .one (.kd (.int .i64))), (5, .one (.kd (.int .i64)))] [])]
theorem t_heldints (a0n : Nat) (a0 : List D) (a1 : Int) : fnT' Try.prog F_heldints hs_heldints .own Try.f22 [.list 3 a0n a0, .int IntKind.i64 a1] = (Tree.goto 0 [(D.list 3 a0n a0), (D.int .i64 a1), (D.int .i64 (0 : Int))]) := by kernel_rfl
theorem t_heldints0 (x0n : Nat) (x0 : List D) (x1 : Int) (x5 : Int) : plT' Try.prog F_heldints hs_heldints .own Try.f22 0 [.list 3 x0n x0, .int .i64 x1, .int .i64 x5] = (Tree.ite (ltI x5 (Nat.cast x0n : Int)) (Tree.need (all_ [(((0 : Int) ≤ x5) ∧ (x5 < (Nat.cast x0n : Int)))]) (Tree.need (all_ [((GetElem?.getElem? x0 ((Int.toNat x5) * (1 : Nat))) = (Option.some (sel x0 ((Int.toNat x5) * (1 : Nat)) (Kd.int .i64))))]) (Tree.ite ((selI x0 ((Int.toNat x5) * (1 : Nat))) != x1) (Tree.ret [(D.int .i64 (-(1 : Int)))]) (Tree.need (all_ [(inK .i64 (x1 + (1 : Int)))]) (Tree.need (all_ [(inK .i64 (x5 + (1 : Int)))]) (Tree.goto 0 [(D.list 3 x0n x0), (D.int .i64 (x1 + (1 : Int))), (D.int .i64 (x5 + (1 : Int)))])))))) (Tree.ret [(D.int .i64 x1)])) := by kernel_rfl
theorem eq_of_get {a b : List Int} (hl : a.length = b.length) (h : ∀ j, j < a.length → a[j]? = b[j]?) : a = b := by
  apply List.ext_getElem? 
  intro i
  by_cases hi : i < a.length
  · exact h i hi
  · rw [List.getElem?_eq_none (by omega), List.getElem?_eq_none (by omega)]
theorem ok_eqints : FnOk Try.prog 20 s_eqints := by
  refine fnOk (fn := Try.f20) (F := F_eqints) (hs := hs_eqints) tab_nil mixed rfl rfl rfl [.list 3, .list 3] (by kernel_rfl) nofun ?_
  rintro n l m r ⟨a, b, e, hb⟩
  simp only [List.cons.injEq, D.list.injEq, true_and, and_true] at e
  obtain ⟨⟨rfl, rfl⟩, rfl, rfl⟩ := e
  refine ⟨fun h ys => h = 0 ∧ ∃ k : Nat, ys = [.list 3 a.length (ints a), .list 3 b.length (ints b), .int .i64 k] ∧ a.length = b.length ∧ k ≤ a.length ∧ (∀ j, j < k → a[j]? = b[j]?), fun h ys => a.length - (selI ys 2).toNat, ?_, ?_⟩
  · rw [t_eqints]
    simp only [Tree.holds, ltI_t, ltI_f, leI_t, leI_f, all_cons, all_nil, and_true, true_and, forall_eq, decide_eq_true_eq, decide_eq_false_iff_not, beq_iff_eq, beq_eq_false_iff_ne, bne_iff_ne, bne_eq_false_iff_eq, ne_eq, Decidable.not_not, selI_z, selB_z, selS_z, selN_z, selL_z, selI_s, selB_s, selS_s, selN_s, selL_s, Int.toNat_natCast, Nat.mul_one, Nat.zero_add, Nat.div_one, List.drop_zero, Nat.le_refl, Bool.not_eq_true', Bool.not_eq_false', Bool.false_eq_true, Bool.true_eq_false, not_true_eq_false, not_false_eq_true, false_imp_iff, true_imp_iff, if_true, if_false, sig, sigF, sigW, unI_ints]
    refine ⟨fun h => ret_bool' (decide_eq_false (fun e => h (by rw [e]))).symm, fun h => ⟨0, rfl, by omega, by omega, fun j hj => by omega⟩⟩
  · rintro h ys ⟨rfl, k, rfl, h1, h2, h3⟩
    rw [t_eqints0]
    simp only [Tree.holds, ltI_t, ltI_f, leI_t, leI_f, all_cons, all_nil, and_true, true_and, forall_eq, decide_eq_true_eq, decide_eq_false_iff_not, beq_iff_eq, beq_eq_false_iff_ne, bne_iff_ne, bne_eq_false_iff_eq, ne_eq, Decidable.not_not, selI_z, selB_z, selS_z, selN_z, selL_z, selI_s, selB_s, selS_s, selN_s, selL_s, Int.toNat_natCast, Nat.mul_one, Nat.zero_add, Nat.div_one, List.drop_zero, Nat.le_refl, Bool.not_eq_true', Bool.not_eq_false', Bool.false_eq_true, Bool.true_eq_false, not_true_eq_false, not_false_eq_true, false_imp_iff, true_imp_iff, if_true, if_false, sig, sigF, sigW, unI_ints]
    refine ⟨fun hk => ?_, fun hk => ret_bool' (decide_eq_true (eq_of_get h1 (fun j hj => h3 j (by omega)))).symm⟩
    obtain ⟨x, x1, x2, x3⟩ := ints_get (a := a) (i := k) (by omega)
    obtain ⟨y, y1, y2, y3⟩ := ints_get (a := b) (i := k) (by omega)
    rw [x2, y2, x3, y3, sel_int x2, sel_int y2]
    refine ⟨⟨by omega, by omega⟩, rfl, ⟨by omega, by omega⟩, rfl, fun hne => ret_bool' (decide_eq_false (fun e => hne ?_)).symm, fun he => ⟨⟨by omega, by omega⟩, ⟨k + 1, rfl, h1, by omega, fun j hj => ?_⟩, by omega⟩⟩
    · rw [e, y1] at x1; injection x1 with x1; exact x1.symm
    · by_cases hjk : j = k
      · rw [hjk, x1, y1, he]
      · exact h3 j (by omega)
theorem ok_sameints : FnOk Try.prog 15 s_sameints := by
  refine fnOk (fn := Try.f15) (F := F_sameints) (hs := hs_sameints) tab_nil mixed rfl rfl rfl [.list 3, .list 3] (by kernel_rfl) nofun ?_
  rintro n l m r ⟨a, b, e, hb⟩
  simp only [List.cons.injEq, D.list.injEq, true_and, and_true] at e
  obtain ⟨⟨rfl, rfl⟩, rfl, rfl⟩ := e
  refine ⟨fun h ys => h = 0 ∧ ∃ k : Nat, ys = [.list 3 a.length (ints a), .list 3 b.length (ints b), .int .i64 k] ∧ a.length = b.length ∧ k ≤ a.length ∧ (∀ j, j < k → a[j]? = b[j]?), fun h ys => a.length - (selI ys 2).toNat, ?_, ?_⟩
  · rw [t_sameints]
    simp only [Tree.holds, ltI_t, ltI_f, leI_t, leI_f, all_cons, all_nil, and_true, true_and, forall_eq, decide_eq_true_eq, decide_eq_false_iff_not, beq_iff_eq, beq_eq_false_iff_ne, bne_iff_ne, bne_eq_false_iff_eq, ne_eq, Decidable.not_not, selI_z, selB_z, selS_z, selN_z, selL_z, selI_s, selB_s, selS_s, selN_s, selL_s, Int.toNat_natCast, Nat.mul_one, Nat.zero_add, Nat.div_one, List.drop_zero, Nat.le_refl, Bool.not_eq_true', Bool.not_eq_false', Bool.false_eq_true, Bool.true_eq_false, not_true_eq_false, not_false_eq_true, false_imp_iff, true_imp_iff, if_true, if_false, sig, sigF, sigW, unI_ints]
    refine ⟨fun h => ret_bool' (decide_eq_false (fun e => h (by rw [e]))).symm, fun h => ⟨0, rfl, by omega, by omega, fun j hj => by omega⟩⟩
  · rintro h ys ⟨rfl, k, rfl, h1, h2, h3⟩
    rw [t_sameints0]
    simp only [Tree.holds, ltI_t, ltI_f, leI_t, leI_f, all_cons, all_nil, and_true, true_and, forall_eq, decide_eq_true_eq, decide_eq_false_iff_not, beq_iff_eq, beq_eq_false_iff_ne, bne_iff_ne, bne_eq_false_iff_eq, ne_eq, Decidable.not_not, selI_z, selB_z, selS_z, selN_z, selL_z, selI_s, selB_s, selS_s, selN_s, selL_s, Int.toNat_natCast, Nat.mul_one, Nat.zero_add, Nat.div_one, List.drop_zero, Nat.le_refl, Bool.not_eq_true', Bool.not_eq_false', Bool.false_eq_true, Bool.true_eq_false, not_true_eq_false, not_false_eq_true, false_imp_iff, true_imp_iff, if_true, if_false, sig, sigF, sigW, unI_ints]
    refine ⟨fun hk => ?_, fun hk => ret_bool' (decide_eq_true (eq_of_get h1 (fun j hj => h3 j (by omega)))).symm⟩
    obtain ⟨x, x1, x2, x3⟩ := ints_get (a := a) (i := k) (by omega)
    obtain ⟨y, y1, y2, y3⟩ := ints_get (a := b) (i := k) (by omega)
    rw [x2, y2, x3, y3, sel_int x2, sel_int y2]
    refine ⟨⟨by omega, by omega⟩, rfl, ⟨by omega, by omega⟩, rfl, fun hne => ret_bool' (decide_eq_false (fun e => hne ?_)).symm, fun he => ⟨⟨by omega, by omega⟩, ⟨k + 1, rfl, h1, by omega, fun j hj => ?_⟩, by omega⟩⟩
    · rw [e, y1] at x1; injection x1 with x1; exact x1.symm
    · by_cases hjk : j = k
      · rw [hjk, x1, y1, he]
      · exact h3 j (by omega)
theorem marks_succ (k : Int) (n : Nat) : marks k (n + 1) = marks k n ++ [k + n] := by simp [marks, List.range_succ]
theorem ints_append (a b : List Int) : ints (a ++ b) = ints a ++ ints b := by simp [ints]
theorem ints_scal (a : List Int) : scal (ints a) := by
  intro d hd
  obtain ⟨x, _, rfl⟩ := List.mem_map.mp hd
  rfl
theorem marks_set (k : Int) (j : Nat) (a : List Int) (h : j < a.length) : setL (ints (marks k j ++ a.drop j)) j [.int .i64 (k + j)] = ints (marks k (j + 1) ++ a.drop (j + 1)) := by
  unfold setL
  rw [marks_succ, ints_append, ints_append, ints_append]
  have h1 : (ints (marks k j)).length = j := by rw [ints_len, marks_len]
  rw [List.take_append_of_le_length (by omega), List.take_of_length_le (by omega)]
  rw [List.drop_append, List.drop_of_length_le (by simp; omega), h1]
  simp [ints, List.drop_drop]
theorem ok_markints : FnOk Try.prog 21 s_markints := by
  refine fnOkW (fn := Try.f21) (F := F_markints) (hs := hs_markints) tab_nil mixed rfl rfl rfl [.list 3, .int .i64] [.int .i64] (by kernel_rfl) (by kernel_rfl) (by simp [hs_markints, shapeW, lists]) ?_
  rintro n l k0 ⟨a, k, e, hk, hk2⟩
  simp only [List.cons.injEq, D.list.injEq, D.int.injEq, true_and, and_true] at e
  obtain ⟨⟨rfl, rfl⟩, rfl⟩ := e
  refine ⟨?_, fun h ys => h = 0 ∧ ∃ j : Nat, ys = [.int .i64 (0 : Nat), .int .i64 (a.length : Nat), .int .i64 (k0 + j), .int .i64 j, .list 3 0 (ints (marks k0 j ++ a.drop j))] ∧ j ≤ a.length, fun h ys => a.length - (selI ys 3).toNat, ?_, ?_⟩
  · intro yz h
    rw [h]
    exact ⟨rfl, trivial⟩
  · rw [t_markints]
    simp only [Tree.holds, ltI_t, ltI_f, leI_t, leI_f, all_cons, all_nil, and_true, true_and, forall_eq, decide_eq_true_eq, decide_eq_false_iff_not, beq_iff_eq, beq_eq_false_iff_ne, bne_iff_ne, bne_eq_false_iff_eq, ne_eq, Decidable.not_not, selI_z, selB_z, selS_z, selN_z, selL_z, selI_s, selB_s, selS_s, selN_s, selL_s, Int.toNat_natCast, Nat.mul_one, Nat.zero_add, Nat.div_one, List.drop_zero, Nat.le_refl, Bool.not_eq_true', Bool.not_eq_false', Bool.false_eq_true, Bool.true_eq_false, not_true_eq_false, not_false_eq_true, false_imp_iff, true_imp_iff, if_true, if_false, sig, sigF, sigW, unI_ints]
    exact ⟨0, by simp [marks], by omega⟩
  · rintro h ys ⟨rfl, j, rfl, h1⟩
    rw [t_markints0]
    simp only [Tree.holds, ltI_t, ltI_f, leI_t, leI_f, all_cons, all_nil, and_true, true_and, forall_eq, decide_eq_true_eq, decide_eq_false_iff_not, beq_iff_eq, beq_eq_false_iff_ne, bne_iff_ne, bne_eq_false_iff_eq, ne_eq, Decidable.not_not, selI_z, selB_z, selS_z, selN_z, selL_z, selI_s, selB_s, selS_s, selN_s, selL_s, Int.toNat_natCast, Nat.mul_one, Nat.zero_add, Nat.div_one, List.drop_zero, Nat.le_refl, Bool.not_eq_true', Bool.not_eq_false', Bool.false_eq_true, Bool.true_eq_false, not_true_eq_false, not_false_eq_true, false_imp_iff, true_imp_iff, if_true, if_false, sig, sigF, sigW]
    have hlen : (ints (marks k0 j ++ a.drop j)).length = a.length := by rw [ints_len, List.length_append, marks_len, List.length_drop]; omega
    refine ⟨fun hj => ⟨⟨by omega, by omega⟩, by omega, ⟨by omega, by omega⟩, ⟨by omega, by omega⟩, ⟨j + 1, ?_, by omega⟩, by omega⟩, fun hj => ⟨ints_scal _, ?_⟩⟩
    · rw [marks_set k0 j a (by omega)]
      simp; omega
    · obtain rfl : j = a.length := by omega
      rw [hlen]
      simp
theorem ok_heldints : FnOk Try.prog 22 s_heldints := by
  refine fnOk (fn := Try.f22) (F := F_heldints) (hs := hs_heldints) tab_nil mixed rfl rfl rfl [.list 3, .int .i64] (by kernel_rfl) nofun ?_
  rintro n l k0 ⟨n', k, e, hk, hk2⟩
  simp only [List.cons.injEq, D.list.injEq, D.int.injEq, true_and, and_true] at e
  obtain ⟨⟨rfl, rfl⟩, rfl⟩ := e
  refine ⟨fun h ys => h = 0 ∧ ∃ j : Nat, ys = [.list 3 n (ints (marks k0 n)), .int .i64 (k0 + j), .int .i64 j] ∧ j ≤ n, fun h ys => n - (selI ys 2).toNat, ?_, ?_⟩
  · rw [t_heldints]
    simp only [Tree.holds, ltI_t, ltI_f, leI_t, leI_f, all_cons, all_nil, and_true, true_and, forall_eq, decide_eq_true_eq, decide_eq_false_iff_not, beq_iff_eq, beq_eq_false_iff_ne, bne_iff_ne, bne_eq_false_iff_eq, ne_eq, Decidable.not_not, selI_z, selB_z, selS_z, selN_z, selL_z, selI_s, selB_s, selS_s, selN_s, selL_s, Int.toNat_natCast, Nat.mul_one, Nat.zero_add, Nat.div_one, List.drop_zero, Nat.le_refl, Bool.not_eq_true', Bool.not_eq_false', Bool.false_eq_true, Bool.true_eq_false, not_true_eq_false, not_false_eq_true, false_imp_iff, true_imp_iff, if_true, if_false, sig, sigF, sigW, unI_ints]
    exact ⟨0, by simp, by omega⟩
  · rintro h ys ⟨rfl, j, rfl, h1⟩
    rw [t_heldints0]
    simp only [Tree.holds, ltI_t, ltI_f, leI_t, leI_f, all_cons, all_nil, and_true, true_and, forall_eq, decide_eq_true_eq, decide_eq_false_iff_not, beq_iff_eq, beq_eq_false_iff_ne, bne_iff_ne, bne_eq_false_iff_eq, ne_eq, Decidable.not_not, selI_z, selB_z, selS_z, selN_z, selL_z, selI_s, selB_s, selS_s, selN_s, selL_s, Int.toNat_natCast, Nat.mul_one, Nat.zero_add, Nat.div_one, List.drop_zero, Nat.le_refl, Bool.not_eq_true', Bool.not_eq_false', Bool.false_eq_true, Bool.true_eq_false, not_true_eq_false, not_false_eq_true, false_imp_iff, true_imp_iff, if_true, if_false, sig, sigF, sigW]
    refine ⟨fun hj => ?_, fun hj => by rw [show j = n by omega]⟩
    have x2 := ints_at (marks_at (k := k0) (n := n) (i := j) (by omega))
    rw [x2, sel_int x2, selI_of x2]
    refine ⟨⟨by omega, by omega⟩, rfl, fun h => absurd rfl h, fun _ => ⟨⟨by omega, by omega⟩, ⟨by omega, by omega⟩, ⟨j + 1, ?_, by omega⟩, by omega⟩⟩
    simp; omega
end Go.Proofs.Ytcgaflnegjakdaa.Mini
