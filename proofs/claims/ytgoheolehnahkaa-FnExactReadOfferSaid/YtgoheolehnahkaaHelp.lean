/- Exact values: the laws' helpers for lists of numbers; words alive. -/
import Derived.Test.YtgoheolehnahkaaMini17
import Derived.Test.YtgoheolehnahkaaMini18
namespace Go.Proofs.Ytgoheolehnahkaa.Mini
open Go Go.RowKit
set_option linter.unusedVariables false
set_option linter.unusedSimpArgs false
set_option maxRecDepth 20000
theorem mixed : Try.prog.follows .mixedOrders = true := by kernel_rfl
theorem fitsL_nil {T : Typ.Tab} {f : Nat} {ys : List D} (h : fitsL T f [] ys) : ys = [] := by
  cases ys with
  | nil => rfl
  | cons d ds => exact h.elim
theorem fitsL_cons {T : Typ.Tab} {f : Nat} {a : Typ.At} {aa : List Typ.At} {ys : List D} (h : fitsL T f (a :: aa) ys) : ∃ d ds, ys = d :: ds ∧ fitsAt T f a d ∧ fitsL T f aa ds := by
  cases ys with
  | nil => exact h.elim
  | cons d ds => exact ⟨d, ds, rfl, h.1, h.2⟩
theorem fitsAt_int {T : Typ.Tab} {f : Nat} {k : IntKind} {lo hi : Int} {d : D} (h : fitsAt T f (.int k lo hi) d) : ∃ n : Int, d = .int k n ∧ lo ≤ n ∧ n ≤ hi := by cases f <;> exact h
theorem fitsAt_bool {T : Typ.Tab} {f : Nat} {o : Option Bool} {d : D} (h : fitsAt T f (.bool o) d) : ∃ b, d = .bool b := by cases f <;> exact h
theorem fitsAt_str {T : Typ.Tab} {f : Nat} {m : Nat} {d : D} (h : fitsAt T f (.str m) d) : ∃ s : ByteArray, d = .str s ∧ s.size ≤ m := by cases f <;> exact h
/-- A number that was drawn. -/
theorem fits_int1 {T : Typ.Tab} {f : Nat} {k : IntKind} {lo hi : Int} {ys : List D} (h : fitsL T f [.int k lo hi] ys) : ∃ n : Int, ys = [.int k n] ∧ lo ≤ n ∧ n ≤ hi := by
  obtain ⟨d, ds, rfl, h1, h2⟩ := fitsL_cons h
  obtain ⟨n, rfl, h3⟩ := fitsAt_int h1
  rw [fitsL_nil h2]
  exact ⟨n, rfl, h3⟩
theorem bytes_wf {xs : List D} (h : wfXs Try.prog 4 [.list 5] xs) : bytesD 5 xs := by
  match xs, h with
  | [d], ⟨⟨n, cs, ks, e, h1, h2, h3, h4⟩, _⟩ =>
    subst e
    refine ⟨n, cs, rfl, fun x hx => ?_⟩
    have hk : ks = [.int .u8] := by
      have : ksOf Try.prog 5 = some [.int .u8] := by kernel_rfl
      rw [this] at h2; injection h2 with h2; exact h2.symm
    subst hk
    obtain ⟨j, hj, rfl⟩ := List.getElem_of_mem hx
    obtain ⟨k, hk1, hk2⟩ := h4 j cs[j] (List.getElem?_eq_getElem hj)
    have : k = .int .u8 := by
      have e : j % 1 = 0 := Nat.mod_one j
      simp [e] at hk1; exact hk1.symm
    subst this
    obtain ⟨z, hz, hw⟩ := hk2
    exact ⟨z, hz, wf_u8 hw⟩
def ints (a : List Int) : List D := a.map (.int .i64)
theorem ints_len (a : List Int) : (ints a).length = a.length := by simp [ints]
theorem ints_at {a : List Int} {i : Nat} {x : Int} (h : a[i]? = some x) : (ints a)[i]? = some (.int .i64 x) := by simp [ints, h]
theorem ints_sel {a : List Int} {i : Nat} {x : Int} (h : a[i]? = some x) : selI (ints a) i = x := selI_of (ints_at h)
theorem ints_get {a : List Int} {i : Nat} (h : i < a.length) : ∃ x, a[i]? = some x ∧ (ints a)[i]? = some (.int .i64 x) ∧ selI (ints a) i = x := ⟨a[i], List.getElem?_eq_getElem h, ints_at (List.getElem?_eq_getElem h), ints_sel (List.getElem?_eq_getElem h)⟩
/-- Marks. -/
def marks (k : Int) (n : Nat) : List Int := (List.range n).map fun (i : Nat) => k + (i : Int)
theorem marks_len (k : Int) (n : Nat) : (marks k n).length = n := by simp [marks]
theorem marks_at {k : Int} {n i : Nat} (h : i < n) : (marks k n)[i]? = some (k + i) := by simp [marks, h]
def inB (a b c : Int) : Bool := decide (b ≤ a) && decide (a ≤ c)
theorem inB_iff {a b c : Int} : inB a b c = true ↔ b ≤ a ∧ a ≤ c := by simp [inB]
theorem inB_no {a b c : Int} : inB a b c = false ↔ ¬ (b ≤ a ∧ a ≤ c) := by rw [← inB_iff]; simp
noncomputable def s_sin : Sig := sig Try.f44 (fun _ => True) (fun xs ys => ys = [.bool (inB (selI xs 0) (selI xs 1) (selI xs 2))])
/-- The numbers of a list. -/
def unI (l : List D) : List Int := l.map fun d => match d with | .int _ n => n | _ => 0
theorem unI_ints (a : List Int) : unI (ints a) = a := by
  unfold unI ints
  rw [List.map_map]
  conv => rhs; rw [← List.map_id a]
  rfl
def eqI (a b : List Int) : Bool := decide (a = b)
theorem eqI_self (a : List Int) : eqI a a = true := by simp [eqI]
theorem eqI_iff {a b : List Int} : eqI a b = true ↔ a = b := by simp [eqI]
noncomputable def F_sin : Tb := tab []
noncomputable def hs_sin : Hds := []
set_option maxHeartbeats 4000000 in
theorem t_sin (a0 : Int) (a1 : Int) (a2 : Int) : fnT' Try.prog F_sin hs_sin .own Try.f44 [.int IntKind.i64 a0, .int IntKind.i64 a1, .int IntKind.i64 a2] = (Tree.ite (leI a1 a0) (Tree.ret [(D.bool (leI a0 a2))]) (Tree.ret [(D.bool false)])) := by kernel_rfl
theorem eq_of_get {a b : List Int} (hl : a.length = b.length) (h : ∀ j, j < a.length → a[j]? = b[j]?) : a = b := by
  apply List.ext_getElem? 
  intro i
  by_cases hi : i < a.length
  · exact h i hi
  · rw [List.getElem?_eq_none (by omega), List.getElem?_eq_none (by omega)]
theorem ok_sin : FnOk Try.prog 44 s_sin := by
  refine fnOk (fn := Try.f44) (F := F_sin) (hs := hs_sin) tab_nil mixed rfl rfl rfl [.int .i64, .int .i64, .int .i64] (by kernel_rfl) (by simp) ?_
  intro a0 a1 a2 _
  refine ⟨fun _ _ => False, fun _ _ => 0, ?_, fun _ _ h => h.elim⟩
  rw [t_sin]
  simp only [Tree.holds, ltI_t, ltI_f, leI_t, leI_f, all_cons, all_nil, and_true, true_and, forall_eq, decide_eq_true_eq, decide_eq_false_iff_not, beq_iff_eq, beq_eq_false_iff_ne, bne_iff_ne, bne_eq_false_iff_eq, ne_eq, Decidable.not_not, selI_z, selB_z, selS_z, selN_z, selL_z, selI_s, selB_s, selS_s, selN_s, selL_s, Int.toNat_natCast, Nat.mul_one, Nat.zero_add, Nat.div_one, List.drop_zero, Nat.zero_mul, Nat.le_refl, Bool.not_eq_true', Bool.not_eq_false', Bool.false_eq_true, Bool.true_eq_false, not_true_eq_false, not_false_eq_true, false_imp_iff, true_imp_iff, if_true, if_false, sig, sigF, sigW, sigR, sigO]
  exact ⟨fun h => ret_bool' (by unfold inB leI; rw [decide_eq_true h]; rfl), fun h => ret_bool' (by unfold inB; rw [decide_eq_false h]; rfl)⟩
theorem marks_succ (k : Int) (n : Nat) : marks k (n + 1) = marks k n ++ [k + n] := by simp [marks, List.range_succ]
theorem ints_append (a b : List Int) : ints (a ++ b) = ints a ++ ints b := by simp [ints]
theorem ints_scal (a : List Int) : scal (ints a) := by
  intro d hd
  obtain ⟨x, _, rfl⟩ := List.mem_map.mp hd
  rfl
theorem marks_set (k : Int) (j : Nat) (a : List Int) (h : j < a.length) : setL (ints (marks k j ++ a.drop j)) j [.int .i64 (k + j)] = ints (marks k (j + 1) ++ a.drop (j + 1)) := by
  unfold setL
  rw [marks_succ, ints_append, ints_append, ints_append]
  have h1 : (ints (marks k j)).length = j := by rw [ints_len, marks_len]
  rw [List.take_append_of_le_length (by omega), List.take_of_length_le (by omega)]
  rw [List.drop_append, List.drop_of_length_le (by simp; omega), h1]
  simp [ints, List.drop_drop]
end Go.Proofs.Ytgoheolehnahkaa.Mini
