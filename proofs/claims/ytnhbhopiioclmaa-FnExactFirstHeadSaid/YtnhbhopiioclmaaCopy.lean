/- copy of a whole list onto a row of the call's own, elements of any number of cells. -/
import Derived.Test.YtnhbhopiioclmaaLists
import Derived.Laws.CopyRow
namespace Go.Proofs.Ytnhbhopiioclmaa
open Go.RowKit
set_option linter.unusedVariables false

theorem copy_list {P : Program} {w : World} {base e size n c B g : Nat} {dT sT ty : TypeId} {A : Option Addr} {xs ys : List Value} (hu : P.underlying dT = some (.slice e)) (hs : (P.info? e).map (·.size) = some size)
    (ho : w.ownsRow base e size (.slice (some ⟨g, 0, none⟩) n n) n ys) (hr : Sees w B size A n xs) (h1 : ∀ u ∈ xs, u.oneCell' = true) :
    ∃ w', (Builtin.copy_ #[dT, sT] ty #[.slice (some ⟨g, 0, none⟩) n n, .slice A n c]).run P w = .ok (goInt n) w' ∧ w'.ownsRow base e size (.slice (some ⟨g, 0, none⟩) n n) n xs ∧ w.grownBy w' (some g) := by
  cases hq : P.info? e with
  | none => simp [hq] at hs
  | some i =>
    have hi : i.size = size := by simpa [hq] using hs
    cases A with
    | none =>
      have hn : n = 0 := by
        rcases Nat.eq_zero_or_pos n with h | h
        · exact h
        · obtain ⟨b, off, e, _⟩ := hr.2 h; cases e
      subst hn
      have hx : xs = [] := List.eq_nil_of_length_eq_zero (by rw [hr.1]; omega)
      have hy : ys = [] := List.eq_nil_of_length_eq_zero (by rw [ho.1]; omega)
      subst hx; subst hy
      refine ⟨w, ?_, ho, grefl w _⟩
      simp [Builtin.copy_, run_underlying hu, Builtin.lenOf, Builtin.firstCells, sizeOf, typeInfo, hq, storeCells]
    | some ad =>
      rcases ho.2 with ⟨hv, _⟩ | ⟨g', cap, cur, hv, hbg, hg, hnc, hcm, hcs, htake⟩
      · simp at hv
      · simp only [Value.slice.injEq, Option.some.injEq, Addr.mk.injEq, and_true, true_and] at hv
        obtain ⟨rfl, rfl⟩ := hv
        have hcell : ∀ j u, xs[j]? = some u → w.cell? (ad.add j) = some u := by
          intro j u hj
          rcases Nat.eq_zero_or_pos n with h | h
          · subst h
            have hx : xs = [] := List.eq_nil_of_length_eq_zero (by rw [hr.1]; omega)
            rw [hx] at hj; simp at hj
          · obtain ⟨b, off, e, _, hc⟩ := hr.2 h
            injection e with e
            subst e
            have e2 : (⟨b, off, none⟩ : Addr).add j = ⟨b, off + j, none⟩ := by cases j <;> simp [Addr.add]
            rw [e2]; exact hc j u hj
        have hl := run_loadCells_list (P := P) w ad xs hcell
        have hst := run_storeCells_at P g 0 e xs 0 cur w hg (by rw [hr.1, hcs]; omega) h1
        have hlen : xs.length = n * i.size := by rw [hr.1, hi]
        rw [hlen] at hl
        refine ⟨_, ?_, ⟨hr.1, .inr ⟨g, n, (cur.toList.take (0 + 0) ++ xs ++ cur.toList.drop (0 + 0 + xs.length)).toArray, rfl, hbg, setRow_heap w g cur _ e _ hg, Nat.le_refl _, hcm, ?_, ?_⟩⟩, ⟨rfl, rfl, rfl, by simp, fun k _ hk => setRow_other w g k _ (fun e => hk (by simp [e]))⟩⟩
        · have hst2 := hst
          simp at hst2
          simp [Builtin.copy_, run_underlying hu, Builtin.lenOf, Builtin.firstCells, sizeOf, typeInfo, hq, hl, hst2]
        · simp only [List.size_toArray, List.length_append, List.length_take, List.length_drop, Array.length_toList]
          rw [hr.1, hcs]; omega
        · simp [← hr.1]

theorem wpList_copy_list {P : Program} {w : World} {ops : Array Oper} {rest : List Oper} {o : Oper} {a : Act} {Q : Exit → Act → World → Prop} (hgd : o.guard = none) (d s : Operand) (dT sT : TypeId)
    (hop : o.op = .call { callee := .builtin .copy, args := #[d, s], argTypes := #[dT, sT] })
    (base e size n c B g : Nat) (A : Option Addr) (xs ys : List Value) (hu : P.underlying dT = some (.slice e)) (hs : (P.info? e).map (·.size) = some size)
    (hd : a.eval d = .slice (some ⟨g, 0, none⟩) n n) (hx : a.eval s = .slice A n c)
    (ho : w.ownsRow base e size (.slice (some ⟨g, 0, none⟩) n n) n ys) (hr : Sees w B size A n xs) (h1 : ∀ u ∈ xs, u.oneCell' = true)
    (h : ∀ w', w'.ownsRow base e size (.slice (some ⟨g, 0, none⟩) n n) n xs → w.grownBy w' (some g) → wpList P ops Q rest (a.put o.dst (goInt n)) w') :
    wpList P ops Q (o :: rest) a w := by
  refine wpList_plain hgd fun K hK => ?_
  obtain ⟨w', hrun, h2, h3⟩ := copy_list (P := P) (ty := o.type) (sT := sT) (c := c) hu hs ho hr h1
  unfold Oper.wp
  simp [execOp, hop, resolve, invoke, builtin, hd, hx, hrun, Result.andThen]
  exact hK _ _ (h w' h2 h3)
end Go.Proofs.Ytnhbhopiioclmaa
