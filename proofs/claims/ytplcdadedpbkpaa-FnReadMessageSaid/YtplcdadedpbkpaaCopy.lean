/- copy of a whole list onto a row of the call's own, elements of any number of cells. -/
import Derived.Test.YtplcdadedpbkpaaGa
import Derived.Laws.CopyRow
namespace Go.Proofs.Ytplcdadedpbkpaa
open Go.RowKit
set_option linter.unusedVariables false

theorem flat_take {α : Type} {C : α → List Value} {m : Nat} (hm : ∀ a, (C a).length = m) (hs : List α) (k : Nat) : flat C (hs.take k) = (flat C hs).take (k * m) := by
  induction hs generalizing k with
  | nil => simp [flat]
  | cons b t ih =>
    cases k with
    | zero => simp [flat]
    | succ k =>
      rw [List.take_succ_cons, show flat C (b :: t.take k) = C b ++ flat C (t.take k) from rfl, ih k, show flat C (b :: t) = C b ++ flat C t from rfl, List.take_append, hm, show (k + 1) * m - m = k * m by rw [Nat.succ_mul]; omega]
      rw [List.take_of_length_le (l := C b) (by rw [hm, Nat.succ_mul]; omega)]
/-- The head of a slice. -/
theorem Sees.upto {w : World} {B m n : Nat} {A : Option Addr} {xs : List Value} (h : Sees w B m A n xs) {k : Nat} (hk : k ≤ n) : Sees w B m A k (xs.take (k * m)) := by
  refine ⟨by rw [List.length_take, h.1]; exact Nat.min_eq_left (Nat.mul_le_mul_right m hk), fun hn => ?_⟩
  obtain ⟨b, off, e, hb, hc⟩ := h.2 (by omega)
  refine ⟨b, off, e, hb, fun j u hu => hc j u ?_⟩
  rw [List.getElem?_take] at hu
  split at hu
  · exact hu
  · cases hu
theorem copy_list {P : Program} {w : World} {base e size n c B g : Nat} {dT sT ty : TypeId} {A : Option Addr} {xs ys : List Value} (hu : P.underlying dT = some (.slice e)) (hs : (P.info? e).map (·.size) = some size)
    (ho : w.ownsRow base e size (.slice (some ⟨g, 0, none⟩) n n) n ys) (hr : Sees w B size A n xs) (h1 : ∀ u ∈ xs, u.oneCell' = true) :
    ∃ w', (Builtin.copy_ #[dT, sT] ty #[.slice (some ⟨g, 0, none⟩) n n, .slice A n c]).run P w = .ok (goInt n) w' ∧ w'.ownsRow base e size (.slice (some ⟨g, 0, none⟩) n n) n xs ∧ w.grownBy w' (some g) := by
  cases hq : P.info? e with
  | none => simp [hq] at hs
  | some i =>
    have hi : i.size = size := by simpa [hq] using hs
    cases A with
    | none =>
      have hn : n = 0 := by
        rcases Nat.eq_zero_or_pos n with h | h
        · exact h
        · obtain ⟨b, off, e, _⟩ := hr.2 h; cases e
      subst hn
      have hx : xs = [] := List.eq_nil_of_length_eq_zero (by rw [hr.1]; omega)
      have hy : ys = [] := List.eq_nil_of_length_eq_zero (by rw [ho.1]; omega)
      subst hx; subst hy
      refine ⟨w, ?_, ho, grefl w _⟩
      simp [Builtin.copy_, run_underlying hu, Builtin.lenOf, Builtin.firstCells, sizeOf, typeInfo, hq, storeCells]
    | some ad =>
      rcases ho.2 with ⟨hv, _⟩ | ⟨g', cap, cur, hv, hbg, hg, hnc, hcm, hcs, htake⟩
      · simp at hv
      · simp only [Value.slice.injEq, Option.some.injEq, Addr.mk.injEq, and_true, true_and] at hv
        obtain ⟨rfl, rfl⟩ := hv
        have hcell : ∀ j u, xs[j]? = some u → w.cell? (ad.add j) = some u := by
          intro j u hj
          rcases Nat.eq_zero_or_pos n with h | h
          · subst h
            have hx : xs = [] := List.eq_nil_of_length_eq_zero (by rw [hr.1]; omega)
            rw [hx] at hj; simp at hj
          · obtain ⟨b, off, e, _, hc⟩ := hr.2 h
            injection e with e
            subst e
            have e2 : (⟨b, off, none⟩ : Addr).add j = ⟨b, off + j, none⟩ := by cases j <;> simp [Addr.add]
            rw [e2]; exact hc j u hj
        have hl := run_loadCells_list (P := P) w ad xs hcell
        have hst := run_storeCells_at P g 0 e xs 0 cur w hg (by rw [hr.1, hcs]; omega) h1
        have hlen : xs.length = n * i.size := by rw [hr.1, hi]
        rw [hlen] at hl
        refine ⟨_, ?_, ⟨hr.1, .inr ⟨g, n, (cur.toList.take (0 + 0) ++ xs ++ cur.toList.drop (0 + 0 + xs.length)).toArray, rfl, hbg, setRow_heap w g cur _ e _ hg, Nat.le_refl _, hcm, ?_, ?_⟩⟩, ⟨rfl, rfl, rfl, by simp, fun k _ hk => setRow_other w g k _ (fun e => hk (by simp [e]))⟩⟩
        · have hst2 := hst
          simp at hst2
          simp [Builtin.copy_, run_underlying hu, Builtin.lenOf, Builtin.firstCells, sizeOf, typeInfo, hq, hl, hst2]
        · simp only [List.size_toArray, List.length_append, List.length_take, List.length_drop, Array.length_toList]
          rw [hr.1, hcs]; omega
        · simp [← hr.1]

theorem wpList_copy_list {P : Program} {w : World} {ops : Array Oper} {rest : List Oper} {o : Oper} {a : Act} {Q : Exit → Act → World → Prop} (hgd : o.guard = none) (d s : Operand) (dT sT : TypeId)
    (hop : o.op = .call { callee := .builtin .copy, args := #[d, s], argTypes := #[dT, sT] })
    (base e size n c B g : Nat) (A : Option Addr) (xs ys : List Value) (hu : P.underlying dT = some (.slice e)) (hs : (P.info? e).map (·.size) = some size)
    (hd : a.eval d = .slice (some ⟨g, 0, none⟩) n n) (hx : a.eval s = .slice A n c)
    (ho : w.ownsRow base e size (.slice (some ⟨g, 0, none⟩) n n) n ys) (hr : Sees w B size A n xs) (h1 : ∀ u ∈ xs, u.oneCell' = true)
    (h : ∀ w', w'.ownsRow base e size (.slice (some ⟨g, 0, none⟩) n n) n xs → w.grownBy w' (some g) → wpList P ops Q rest (a.put o.dst (goInt n)) w') :
    wpList P ops Q (o :: rest) a w := by
  refine wpList_plain hgd fun K hK => ?_
  obtain ⟨w', hrun, h2, h3⟩ := copy_list (P := P) (ty := o.type) (sT := sT) (c := c) hu hs ho hr h1
  unfold Oper.wp
  simp [execOp, hop, resolve, invoke, builtin, hd, hx, hrun, Result.andThen]
  exact hK _ _ (h w' h2 h3)

/-- append of a whole list as one step of a region that draws its order. -/
theorem step_append_list {P : Program} {w : World} {ops : Array Oper} {o : Oper} {a : Act} {K : Act → World → Prop} {Q : Exit → Act → World → Prop} {E : Prop} (hgd : o.guard = none) (s x : Operand) (t : TypeId)
    (ho : o.op = .call { callee := .builtin .append, args := #[s, x], argTypes := #[t, t] })
    (base e size bytes n m c B : Nat) (i : TypeInfo) (z v : Value) (xs news : List Value) (A : Option Addr) (ht : P.underlying t = some (.slice e)) (hi : P.info? e = some i) (hz : i.zero = some z)
    (hsize : i.size = size) (hby : i.bytes = bytes) (hzs : z.cells.size = size) (hsz : 0 < size) (hs : a.eval s = v) (hx : a.eval x = .slice A m c) (hown : w.ownsRow base e size v n xs) (hr : Sees w B size A m news) (h1 : ∀ u ∈ news, u.oneCell' = true)
    (h63 : n + m ≤ maxLen) (hbytes : (n + m) * bytes ≤ 140737488355328) (hbase : base ≤ w.heap.size)
    (h : ∀ A' c' w', w'.ownsRow base e size (.slice A' (n + m) c') (n + m) (xs ++ news) → w.grownBy w' v.ownBlock → K (a.put o.dst (.slice A' (n + m) c')) w') :
    if Region.wanted o (yielded ops a.tmps) = true then Oper.wp P o a w K Q else E := by
  have hw : Region.wanted o (yielded ops a.tmps) = true := by simp [Region.wanted, hgd]
  rw [if_pos hw]
  refine wp_append_list s x t ho base e size bytes n m c B i z v xs news A ht hi hz hsize hby hzs hsz hs hx hown hr h1 h63 hbytes hbase ?_
  intro v' w' h2 h3 h4
  obtain ⟨A', c', hv⟩ := own_slice h2
  subst hv
  exact h A' c' w' h2 h3
end Go.Proofs.Ytplcdadedpbkpaa
