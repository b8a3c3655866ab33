/- Parts of the proof: Mini20. -/
import Derived.Test.YtjleempapphlhabGdMini19
section
namespace Go.Proofs.Ytjleempapphlhab.Mini
open Go Go.RowKit
set_option linter.unusedVariables false
section
variable {P : Program} {w w' : World} {zz : Nat → Option Obj}
theorem zNew_new {b : Nat} (h : w.heap.size ≤ b) : zNew zz w w' b = w'.heap[b]? := by unfold zNew; rw [if_neg (by omega)]
theorem own_view {t n : Nat} {ds : List D} {v : Value} : ∀ {ob : Option (Nat × Nat × Nat)}, ownOk P w.heap.size w' t n ds v ob → gD P (zNew zz w w') (.list t n ds) v
  | none, ⟨h1, h2, Ad, h3⟩ => by
    subst h1; subst h2
    unfold gD
    exact ⟨Ad, 0, h3, Nat.le_refl _, by simp, .inl rfl⟩
  | some (b, o, N), ⟨c, arr, h1, h2, h3, h4, h5, h6, h7, h8⟩ => by
    unfold gD
    refine ⟨_, c, h1, h2, h3, .inr ⟨b, o, arr, t, (0, 0), rfl, by rw [zNew_new h4]; exact h6, gDs.of fun j d hj => ?_⟩⟩
    obtain ⟨x, k1, k2⟩ := h8 j d hj
    refine ⟨x, ?_, gD.mono (fun b x hx => by cases hx) k2⟩
    rw [List.getElem?_drop]
    simpa using k1
theorem gD_none {d : D} {v : Value} {z : Nat → Option Obj} (h : gD P (fun _ => none) d v) : gD P z d v := gD.mono (fun b x hx => by cases hx) h
theorem resL_view (ys : List D) : ∀ (j : Nat) (ks : List Kd) (vs : List Value) (bs : List (Option (Nat × Nat × Nat))), resL P w.heap.size w' ys j ks vs bs → gL P ⟨fun _ => none, zNew zz w w'⟩ (sels ys j ks) vs
  | j, [], vs, bs, h => by
    unfold resL at h
    obtain ⟨rfl, _⟩ := h
    trivial
  | j, .list t :: ks, v :: vs, ob :: bs, h => by
    unfold resL at h
    exact ⟨own_view h.1, resL_view ys (j + 1) ks vs bs h.2⟩
  | j, .int k :: ks, v :: vs, bs, h => by
    unfold resL at h
    exact ⟨gD_none h.1, resL_view ys (j + 1) ks vs bs h.2⟩
  | j, .bool :: ks, v :: vs, bs, h => by
    unfold resL at h
    exact ⟨gD_none h.1, resL_view ys (j + 1) ks vs bs h.2⟩
  | j, .str :: ks, v :: vs, bs, h => by
    unfold resL at h
    exact ⟨gD_none h.1, resL_view ys (j + 1) ks vs bs h.2⟩
  | j, .list _ :: _, [], _, h => by unfold resL at h; exact h.elim
  | j, .list _ :: _, _ :: _, [], h => by unfold resL at h; exact h.elim
  | j, .int _ :: _, [], _, h => by unfold resL at h; exact h.elim
  | j, .bool :: _, [], _, h => by unfold resL at h; exact h.elim
  | j, .str :: _, [], _, h => by unfold resL at h; exact h.elim
/-- What a function hands back as its own may be taken as what is not to be written any more. -/
theorem FnOk.fz_own {f : Nat} {params results : List Nat} {pre : List D → Prop} {post : List D → List D → Prop} (h : FnOk P f ⟨params, results, pre, post, .own⟩) : FnOk P f ⟨params, results, pre, post, .fz⟩ := by
  refine ⟨h.1, ?_⟩
  intro w zz vs xs ks cells hz hks hsp hfit hg hpre
  refine (h.2 w zz vs xs ks cells hz hks hsp hfit hg hpre).mono ?_
  rintro e w' ⟨v, ys, rfl, hp, hb, ks', cells', vs', bs, r1, r2, r3, r4, r5, r6⟩
  exact ⟨v, ys, rfl, hp, hb, ks', cells', vs', r1, r2, r3, resL_view ys 0 ks' cells' bs r5, r6⟩
theorem deep_view {t n : Nat} {ds : List D} {v : Value} {inner : Nat → Option (Nat × Nat × Nat)} : ∀ {ob : Option (Nat × Nat × Nat)}, deepOk P w.heap.size w' t n ds v ob inner → gD P (zNew zz w w') (.list t n ds) v
  | none, ⟨h1, h2, ⟨Ad, h3⟩, _⟩ => by
    subst h1; subst h2
    unfold gD
    exact ⟨Ad, 0, h3, Nat.le_refl _, by simp, .inl rfl⟩
  | some (b, o, N), ⟨⟨c, arr, h1, h2, h3, h4, h5, h6, h7, h8⟩, _⟩ => by
    unfold gD
    refine ⟨_, c, h1, h2, h3, .inr ⟨b, o, arr, t, (0, 0), rfl, by rw [zNew_new h4]; exact h6, gDs.of fun j d hj => ?_⟩⟩
    obtain ⟨x, k1, k2, k3⟩ := h8 j d hj
    refine ⟨x, ?_, ?_⟩
    · rw [List.getElem?_drop]
      simpa using k1
    · cases ho : ownL d with
      | true =>
        obtain ⟨u, n', l, rfl, q1, q2⟩ := k2 ho
        exact own_view q1
      | false => exact gD_none (k3 ho).1
/-- The same of a list whose lists are the call's own. -/
theorem FnOk.fz_ownD {f : Nat} {params results : List Nat} {pre : List D → Prop} {post : List D → List D → Prop} (h : FnOk P f ⟨params, results, pre, post, .ownD⟩) : FnOk P f ⟨params, results, pre, post, .fz⟩ := by
  refine ⟨h.1, ?_⟩
  intro w zz vs xs ks cells hz hks hsp hfit hg hpre
  refine (h.2 w zz vs xs ks cells hz hks hsp hfit hg hpre).mono ?_
  rintro e w' ⟨v, ys, rfl, hp, hb, t, ks', u, us, vs', ob, inner, r1, r2, r3, r4, r5, r6, r7⟩
  exact ⟨v, ys, rfl, hp, hb, _, u :: us, vs', r1, r3, r4, ⟨deep_view r5, gL.mono (κ := ⟨fun _ => none, fun _ => none⟩) (κ' := ⟨fun _ => none, zNew zz w w'⟩) ⟨fun _ _ h => h, fun b x hx => by cases hx⟩ r6⟩, r7⟩
end
end Go.Proofs.Ytjleempapphlhab.Mini
end
