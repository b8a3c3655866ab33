/- Parts of the proof in one text: Mini9, Mini10, Mini11, Mini12, Mini13, Mini14, Mini14r, Mini15. -/
import Derived.Test.YtplcdadedpbkpaaGb
import Derived.Test.YtplcdadedpbkpaaTyp2
section
namespace Go.Proofs.Ytplcdadedpbkpaa.Mini
open Go Go.RowKit
set_option linter.unusedVariables false

/-! ### Rows, changed -/
theorem setH_len : ∀ (us : Us) (H : List (Option Row)), (setH H us).length = H.length
  | [], H => rfl
  | p :: us, H => by
    show (setH (H.set p.1 p.2) us).length = _
    rw [setH_len us]; simp
theorem cs_set {H : List (Option Row)} {id : Nat} {r : Option Row} (h : id < H.length) (k : Nat) : cs (H.set id r) k = if k = id then r else cs H k := by
  unfold cs
  rw [List.getElem?_set]
  by_cases e : id = k
  · subst e; rw [if_pos rfl, if_pos h, if_pos rfl]; rfl
  · rw [if_neg e, if_neg (fun e' => e e'.symm)]
theorem cs_setH : ∀ (us : Us) (H : List (Option Row)), okU H.length us = true → cs (setH H us) = upd (cs H) us
  | [], H, _ => rfl
  | p :: us, H, h => by
    simp only [okU, List.all_cons, Bool.and_eq_true, decide_eq_true_eq] at h
    show cs (setH (H.set p.1 p.2) us) = _
    rw [cs_setH us (H.set p.1 p.2) (by simpa [okU] using h.2)]
    have : cs (H.set p.1 p.2) = fun id => if id = p.1 then p.2 else cs H id := funext fun k => cs_set h.1 k
    rw [this]
    rfl
def padS (σ : St) (n : Nat) : St := ⟨σ.tmps, σ.H ++ List.replicate n none⟩
theorem cs_pad (H : List (Option Row)) (n : Nat) : cs (H ++ List.replicate n none) = cs H := by
  funext k
  unfold cs
  by_cases h : k < H.length
  · rw [List.getElem?_append_left h]
  · rw [List.getElem?_append_right (by omega), List.getElem?_eq_none (l := H) (by omega), List.getElem?_replicate]
    split <;> rfl
theorem cs_none {H : List (Option Row)} {k : Nat} (h : H.length ≤ k) : cs H k = none := by unfold cs; rw [List.getElem?_eq_none h]; rfl

/-- The temporaries are as said. -/
structure TRel (P : Program) (κ : Kr) (l : List AV) (a : Act) : Prop where
  defers : a.defers = []
  size : a.tmps.size = l.length
  vals : ∀ (i : Nat) (av : AV), l[i]? = some av → ∃ v, a.tmps[i]? = some v ∧ gAV P κ av v
structure Rel (P : Program) (w0 : Bs) (κ : Kr) (σ : St) (a : Act) (w : World) : Prop where
  t : TRel P κ σ.tmps a
  inv : Inv P w0 κ (cs σ.H) w
  fresh : ∀ id, σ.H.length ≤ id → κ.at_ id = none
  pin : ∀ (i b o N : Nat), w0.bs[i]? = some (some (b, o, N)) → κ.at_ i = some (b, o, N)
section
variable {P : Program} {w0 : Bs} {κ : Kr} {C : Cs} {w : World} {F : Tb} {a : Act} {J : Nat → List D → Prop} {Q : List D → Prop}
theorem TRel.mono {κ' : Kr} {l : List AV} (hle : κ.le κ') (h : TRel P κ l a) : TRel P κ' l a :=
  ⟨h.defers, h.size, fun i av hi => by obtain ⟨v, h1, h2⟩ := h.vals i av hi; exact ⟨v, h1, h2.mono hle⟩⟩
theorem TRel.put {l : List AV} (h : TRel P κ l a) {dst : Option Nat} {av : AV} {v : Value} (hv : gAV P κ av v) : TRel P κ (putL l dst av) (a.put dst v) := by
  cases dst with
  | none => exact h
  | some d =>
    refine ⟨h.defers, by simp [Act.put, putL, h.size], fun i x hx => ?_⟩
    simp only [putL, List.getElem?_set] at hx
    simp only [Act.put, Array.getElem?_setIfInBounds]
    split at hx
    · rename_i hd
      subst hd
      split at hx <;> try (cases hx; done)
      rename_i hlt
      injection hx with hx; subst hx
      rw [if_pos rfl, if_pos (by rw [h.size]; exact hlt)]
      exact ⟨v, rfl, hv⟩
    · rename_i hd
      rw [if_neg hd]
      exact h.vals i x hx
theorem TRel.evalR {l : List AV} (h : TRel P κ l a) (ts : List Nat) : ∀ x, gAV P κ (evalR ts l x) (a.eval x) := by
  intro x
  cases x with
  | tmp t =>
    unfold Mini.evalR
    simp only
    split
    · rw [List.getD_eq_getElem?_getD]
      cases hl : l[t]? with
      | none => trivial
      | some av =>
        obtain ⟨v, h1, h2⟩ := h.vals t av hl
        show gAV P κ av (a.tmps.getD t undef)
        rw [Array.getD_eq_getD_getElem?, h1]
        exact h2
    · trivial
  | const v => exact absC_sound v
  | global g => trivial
  | func f => trivial
/-- A sequential step. -/
theorem stepS_sound (hF : FnsOk P F) {o : Oper} {σ : St} {K : St → Tree} (h : (exec P F σ.H.length o (padS σ (nNew P F o)) K).holds F J Q) (hr : Rel P w0 κ σ a w) {G : Act → World → Prop} {Qe : Exit → Act → World → Prop}
    (hG : ∀ κ' σ' a' w', κ.le κ' → Rel P w0 κ' σ' a' w' → (K σ').holds F J Q → G a' w') : o.wp P a w G Qe := by
  have hcs : cs (padS σ (nNew P F o)).H = cs σ.H := cs_pad _ _
  refine exec_sound hF h (C := cs σ.H) hr.inv (hr.t.evalR _) (fun id row hrow => ?_) (fun id h1 h2 => ⟨cs_none h1, hr.fresh id h1⟩) (fun κ' v w' hA => ?_)
  · unfold restr at hrow
    split at hrow
    · rw [hcs] at hrow; exact hrow
    · cases hrow
  · obtain ⟨us, av, h1, h2, h3, h4, h5, h6, h7⟩ := hA
    refine hG κ' _ _ w' h1 ⟨(hr.t.mono h1).put h4, ?_, fun id hid => ?_, fun i b o N h => h1.at_ _ _ (hr.pin i b o N h)⟩ h7
    · show Inv P w0 κ' (cs (setH (padS σ (nNew P F o)).H us)) w'
      rw [cs_setH us _ h5, hcs]; exact h2
    · have hlen : (setH (padS σ (nNew P F o)).H us).length = (padS σ (nNew P F o)).H.length := setH_len _ _
      have hid' : (padS σ (nNew P F o)).H.length ≤ id := by rw [← hlen]; exact hid
      rw [h3 id (fun p hp e => ?_)]
      · exact hr.fresh id (by simp [padS] at hid'; omega)
      · have := List.all_eq_true.mp h5 p hp
        simp at this
        omega
end

/-! ### In the order of the text -/
def anyB : AV → Option Bool
  | .v (.one (.d (.bool b))) => some b
  | _ => none
def guardAt (ops : List Oper) (tmps : List AV) (j : Nat) : Option Bool :=
  match ops[j]? with
  | some o => match o.dst with
    | some d => litB (tmps.getD d anyV)
    | none => none
  | none => none
/-- What guards was itself left out. -/
def guardNo (ops : List Oper) (tmps : List AV) (j : Nat) : Bool :=
  match ops[j]? with
  | some o => match o.dst with
    | some d => (match tmps[d]? with | some (.tup []) => true | _ => false)
    | none => false
  | none => false
def stepT (P : Program) (F : Tb) (ops : List Oper) (o : Oper) (σ : St) (K : St → Tree) : Tree :=
  match o.guard with
  | none => exec P F σ.H.length o (padS σ (nNew P F o)) K
  | some (j, b) => match guardAt ops σ.tmps j with
    | some v => if v = b then exec P F σ.H.length o (padS σ (nNew P F o)) K else K ⟨putL σ.tmps o.dst (.tup []), σ.H⟩
    | none => if guardNo ops σ.tmps j = true then K ⟨putL σ.tmps o.dst (.tup []), σ.H⟩ else .fail
def sxOps (P : Program) (F : Tb) (ops : List Oper) : Nat → List Oper → St → (St → Tree) → Tree
  | _, [], σ, K => K σ
  | k, o :: l, σ, K => stepT P F ops o σ fun σ1 =>
    match (if Typ.isSource ops k = true then o.dst else none) with
    | none => sxOps P F ops (k + 1) l σ1 K
    | some d => match anyB (σ1.tmps.getD d anyV) with
      | some b => .ite b (sxOps P F ops (k + 1) l ⟨σ1.tmps.set d (lit true), σ1.H⟩ K) (sxOps P F ops (k + 1) l ⟨σ1.tmps.set d (lit false), σ1.H⟩ K)
      | none => sxOps P F ops (k + 1) l σ1 K
section
variable {P : Program} {w0 : Bs} {κ : Kr} {C : Cs} {w : World} {F : Tb} {a : Act} {J : Nat → List D → Prop} {Q : List D → Prop}
theorem anyB_spec {av : AV} {v : Bool} (h : anyB av = some v) : av = bool v := by
  unfold anyB at h
  split at h <;> try (cases h; done)
  injection h with h; subst h; rfl
theorem guardAt_sound {ops : Array Oper} {l : List AV} {j : Nat} {v : Bool} (ht : TRel P κ l a) (h : guardAt ops.toList l j = some v) : yielded ops a.tmps j = some v := by
  unfold guardAt at h
  split at h <;> try (cases h; done)
  rename_i o ho
  split at h <;> try (cases h; done)
  rename_i d hd
  have h1 := litB_spec h
  rw [Array.getElem?_toList] at ho
  rw [List.getD_eq_getElem?_getD] at h1
  cases hl : l[d]? with
  | none => rw [hl] at h1; cases h1
  | some x =>
    rw [hl] at h1
    simp at h1
    subst h1
    obtain ⟨u, h2, h3⟩ := ht.vals d _ hl
    rw [glit h3] at h2
    simp [yielded, ho, hd, h2]
theorem gundef {v : Value} (h : gAV P κ (.tup []) v) : v = undef := by
  obtain ⟨⟨vs⟩, rfl, h2⟩ := h
  cases vs with
  | nil => rfl
  | cons v vs => exact h2.elim
theorem gundef' : gAV P κ (.tup []) undef := ⟨#[], rfl, trivial⟩
theorem guardNo_sound {ops : Array Oper} {l : List AV} {j : Nat} (ht : TRel P κ l a) (h : guardNo ops.toList l j = true) : yielded ops a.tmps j = none := by
  unfold guardNo at h
  split at h <;> try (cases h; done)
  rename_i o ho
  split at h <;> try (cases h; done)
  rename_i d hd
  split at h <;> try (cases h; done)
  rename_i hl
  rw [Array.getElem?_toList] at ho
  obtain ⟨u, h2, h3⟩ := ht.vals d _ hl
  rw [gundef h3] at h2
  simp [yielded, ho, hd, h2, undef]
theorem stepT_sound (hF : FnsOk P F) {ops : Array Oper} {k : Nat} {o : Oper} (ho : ops[k]? = some o) {σ : St} {K : St → Tree} (h : (stepT P F ops.toList o σ K).holds F J Q) (hr : Rel P w0 κ σ a w) {G : Act → World → Prop} {Qe : Exit → Act → World → Prop}
    (hG : ∀ κ' σ' a' w', κ.le κ' → Rel P w0 κ' σ' a' w' → (K σ').holds F J Q → G a' w') : wpOp P ops Qe k G a w := by
  unfold stepT at h
  unfold wpOp
  rw [ho]
  simp only
  split at h
  · rename_i hgd
    rw [if_pos (by unfold Region.wanted; rw [hgd])]
    exact .inl (stepS_sound hF h hr hG)
  · rename_i j bb hgd
    split at h
    rotate_left
    · split at h <;> try (exact h.elim)
      rename_i hno
      have hy := guardNo_sound hr.t hno
      rw [if_neg (by unfold Region.wanted; rw [hgd]; simp [hy])]
      exact hG κ ⟨putL σ.tmps o.dst (.tup []), σ.H⟩ _ w (Kr.le.refl κ) ⟨hr.t.put gundef', hr.inv, hr.fresh, hr.pin⟩ h
    rename_i v hv
    have hy := guardAt_sound hr.t hv
    split at h
    · rename_i e
      subst e
      rw [if_pos (by unfold Region.wanted; rw [hgd]; simp [hy])]
      exact .inl (stepS_sound hF h hr hG)
    · rename_i e
      rw [if_neg (by unfold Region.wanted; rw [hgd]; simp [hy, e])]
      exact hG κ ⟨putL σ.tmps o.dst (.tup []), σ.H⟩ _ w (Kr.le.refl κ) ⟨hr.t.put gundef', hr.inv, hr.fresh, hr.pin⟩ h
theorem Rel.known {σ : St} (h : Rel P w0 κ σ a w) {d : Nat} {b : Bool} (hd : anyB (σ.tmps.getD d anyV) = some b) : Rel P w0 κ ⟨σ.tmps.set d (lit b), σ.H⟩ a w := by
  have h1 := anyB_spec hd
  rw [List.getD_eq_getElem?_getD] at h1
  cases hl : σ.tmps[d]? with
  | none => rw [hl] at h1; cases h1
  | some x =>
    rw [hl] at h1
    simp at h1
    subst h1
    refine ⟨⟨h.t.defers, by simp [h.t.size], fun i y hy => ?_⟩, h.inv, h.fresh, h.pin⟩
    rw [List.getElem?_set] at hy
    split at hy
    · rename_i e
      subst e
      split at hy <;> try (cases hy; done)
      injection hy with hy; subst hy
      obtain ⟨v, k1, k2⟩ := h.t.vals _ _ hl
      exact ⟨v, k1, gbool k2⟩
    · exact h.t.vals i y hy
theorem sxOps_sound (hF : FnsOk P F) {ops : Array Oper} {K : St → Tree} {Qe : Exit → Act → World → Prop} : ∀ (n k : Nat) (σ : St) (κ : Kr) (a : Act) (w : World), n + k = ops.size →
    (sxOps P F ops.toList k (ops.toList.drop k) σ K).holds F J Q → Rel P w0 κ σ a w → (∀ κ' σ' a' w', κ.le κ' → Rel P w0 κ' σ' a' w' → (K σ').holds F J Q → Qe .normal a' w') →
    wpOps P ops Qe (List.range' k n) a w
  | 0, k, σ, κ, a, w, hn, hs, hr, hQ => by
    rw [List.drop_eq_nil_of_le (by simp; omega)] at hs
    exact hQ κ σ a w (Kr.le.refl κ) hr hs
  | n + 1, k, σ, κ, a, w, hn, hs, hr, hQ => by
    have hk : k < ops.toList.length := by simp; omega
    rw [List.drop_eq_getElem_cons hk] at hs
    have ho : ops[k]? = some ops.toList[k] := by rw [← Array.getElem?_toList]; exact List.getElem?_eq_getElem hk
    unfold sxOps at hs
    rw [List.range'_succ, wpOps_cons]
    refine stepT_sound hF ho hs hr (fun κ' σ' a' w' g1 g2 g3 => ?_)
    have go : ∀ σ2, (sxOps P F ops.toList (k + 1) (ops.toList.drop (k + 1)) σ2 K).holds F J Q → Rel P w0 κ' σ2 a' w' → wpOps P ops Qe (List.range' (k + 1) n) a' w' :=
      fun σ2 h2 hr2 => sxOps_sound hF n (k + 1) σ2 κ' a' w' (by omega) h2 hr2 (fun κ'' σ'' a'' w'' j1 j2 j3 => hQ κ'' σ'' a'' w'' (g1.trans j1) j2 j3)
    split at g3
    · exact go σ' g3 g2
    · rename_i d hd
      split at g3
      · rename_i b hb
        have hkn := g2.known hb
        cases b with
        | true => exact go _ (g3.1 rfl) hkn
        | false => exact go _ (g3.2 rfl) hkn
      · exact go σ' g3 g2
end

/-! ### In whatever order -/
def isCallO (o : Oper) : Bool := (isCallF o.op).isSome
/-- A chain of operations, each with its own place for new rows, each touching what is said. -/
def sxOrd (P : Program) (F : Tb) (ops : List Oper) (nb : Nat → Nat) (tc : Nat → List Nat) : List Nat → St → (St → Tree) → Tree
  | [], σ, K => K σ
  | i :: l, σ, K => match ops[i]? with
    | some o => if o.guard.isNone = true ∧ touch o.op σ = tc i then exec P F (nb i) o σ (fun σ1 => sxOrd P F ops nb tc l σ1 K) else .fail
    | none => .fail
def disj (a b : List Nat) : Bool := a.all fun x => !b.contains x
def inNew (n m id : Nat) : Bool := decide (n ≤ id) && decide (id < n + m)
/-- Two operations that have nothing to do with each other. -/
def indep (P : Program) (F : Tb) (ops : List Oper) (nb : Nat → Nat) (tc : Nat → List Nat) (i j : Nat) : Bool :=
  match ops[i]?, ops[j]? with
  | some oi, some oj =>
    (match oj.dst with | some d => !(opTmps oi.op).contains d | none => true) && (match oi.dst with | some d => !(opTmps oj.op).contains d | none => true) &&
    (match oi.dst, oj.dst with | some d, some d' => d != d' | _, _ => true) &&
    ((!isWrF F oi && !isWrF F oj) || (disj (tc i) (tc j) && disj (tc j) (tc i))) &&
    ((tc i).all fun id => !inNew (nb j) (nNew P F oj) id) && ((tc j).all fun id => !inNew (nb i) (nNew P F oi) id) &&
    (decide (nb i + nNew P F oi ≤ nb j) || decide (nb j + nNew P F oj ≤ nb i))
  | _, _ => false
section
variable {P : Program} {w0 : Bs} {κ : Kr} {C : Cs} {w : World} {F : Tb} {a : Act} {J : Nat → List D → Prop} {Q : List D → Prop}
theorem needs_mono (ns : List Prop) (t1 t2 : Tree) (h : (Tree.needs ns t1).holds F J Q) (h2 : t1.holds F J Q → t2.holds F J Q) : (Tree.needs ns t2).holds F J Q := by
  cases ns with
  | nil => exact h2 h
  | cons p ps => exact ⟨h.1, h2 h.2⟩
theorem execC_mono {nb : Nat} {o : Oper} {σ : St} {K1 K2 : St → Tree} {f : Nat} {args : Array Operand} {s : Sig} (hs : F f = some s) (h : (execC P nb o σ K1 f args s).holds F J Q) (hK : ∀ σ', (K1 σ').holds F J Q → (K2 σ').holds F J Q) : (execC P nb o σ K2 f args s).holds F J Q := by
  unfold execC at h ⊢
  split at h <;> try (exact h.elim)
  split at h <;> try (exact h.elim)
  split at h <;> try (exact h.elim)
  rename_i hf
  simp only [if_pos hf]
  refine needs_mono _ _ _ h (fun h => ?_)
  unfold Tree.holds at h ⊢
  rw [hs] at h ⊢
  refine ⟨h.1, fun ys hy => ?_⟩
  have := h.2 ys hy
  simp only at this ⊢
  split at this <;> try (exact this.elim)
  exact hK _ this
theorem execR_mono {nb : Nat} {o : Oper} {σ : St} {K1 K2 : St → Tree} {f : Nat} {args : Array Operand} {s : Sig} {z : Bool} (hs : F f = some s) (h : (execR P nb o σ K1 f args s z).holds F J Q) (hK : ∀ σ', (K1 σ').holds F J Q → (K2 σ').holds F J Q) : (execR P nb o σ K2 f args s z).holds F J Q := by
  unfold execR at h ⊢
  split at h <;> try (exact h.elim)
  split at h <;> try (exact h.elim)
  rename_i hf
  simp only [if_pos hf]
  refine needs_mono _ _ _ h (fun h => ?_)
  unfold Tree.holds at h ⊢
  rw [hs] at h ⊢
  refine ⟨h.1, fun ys hy => ?_⟩
  have := h.2 ys hy
  simp only at this ⊢
  split at this <;> try (exact this.elim)
  exact hK _ this
theorem execO_mono {nb : Nat} {o : Oper} {σ : St} {K1 K2 : St → Tree} {f : Nat} {args : Array Operand} {s : Sig} (hs : F f = some s) (h : (execO P nb o σ K1 f args s).holds F J Q) (hK : ∀ σ', (K1 σ').holds F J Q → (K2 σ').holds F J Q) : (execO P nb o σ K2 f args s).holds F J Q := by
  unfold execO at h ⊢
  split at h <;> try (exact h.elim)
  split at h <;> try (exact h.elim)
  rename_i hf
  simp only [if_pos hf]
  refine needs_mono _ _ _ h (fun h => ?_)
  unfold Tree.holds at h ⊢
  rw [hs] at h ⊢
  exact ⟨h.1, fun ys hy => hK _ (h.2 ys hy)⟩
theorem exec_mono {nb : Nat} {o : Oper} {σ : St} {K1 K2 : St → Tree} (h : (exec P F nb o σ K1).holds F J Q) (hK : ∀ σ', (K1 σ').holds F J Q → (K2 σ').holds F J Q) : (exec P F nb o σ K2).holds F J Q := by
  unfold exec at h ⊢
  split at h
  · split at h <;> try (exact h.elim)
    rename_i s hs
    cases hm : s.md with
    | rd z => simp only [hm] at h ⊢; exact execR_mono hs h hK
    | op => simp only [hm] at h ⊢; exact execO_mono hs h hK
    | own => simp only [hm] at h ⊢; exact execC_mono hs h hK
    | fz => simp only [hm] at h ⊢; exact execC_mono hs h hK
    | wr => simp only [hm] at h ⊢; exact execC_mono hs h hK
  · split at h <;> try (exact h.elim)
    split at h <;> try (exact h.elim)
    rename_i hf
    simp only [if_pos hf]
    exact needs_mono _ _ _ h (fun h => hK _ h)
theorem sxOrd_mono {ops : List Oper} {nb : Nat → Nat} {tc : Nat → List Nat} {K1 K2 : St → Tree} (hK : ∀ σ', (K1 σ').holds F J Q → (K2 σ').holds F J Q) : ∀ (l : List Nat) (σ : St), (sxOrd P F ops nb tc l σ K1).holds F J Q → (sxOrd P F ops nb tc l σ K2).holds F J Q
  | [], σ, h => hK σ h
  | i :: l, σ, h => by
    unfold sxOrd at h ⊢
    split at h <;> try (exact h.elim)
    split at h <;> try (exact h.elim)
    rename_i hf
    simp only [if_pos hf]
    exact exec_mono h (fun σ' h => sxOrd_mono hK l σ' h)
theorem evalR_put {ts : List Nat} {tmps : List AV} {dst : Option Nat} {av : AV} (h : ∀ d, dst = some d → ts.contains d = false) : evalR ts (putL tmps dst av) = evalR ts tmps := by
  funext x
  cases x with
  | tmp t =>
    unfold evalR
    simp only
    by_cases ht : ts.contains t = true
    · rw [if_pos ht, if_pos ht]
      cases dst with
      | none => rfl
      | some d =>
        have : d ≠ t := fun e => by subst e; rw [h d rfl] at ht; cases ht
        simp [putL, List.getD_eq_getElem?_getD, this]
    · rw [if_neg ht, if_neg ht]
  | _ => rfl
theorem flatMap_same {α β : Type} {f g : α → List β} : ∀ {l : List α}, (∀ x ∈ l, f x = g x) → l.flatMap f = l.flatMap g
  | [], _ => rfl
  | x :: l, h => by rw [List.flatMap_cons, List.flatMap_cons, h x (by simp), flatMap_same (fun y hy => h y (by simp [hy]))]
theorem needs_holds {ns : List Prop} {t : Tree} (hn : all_ ns) (h : t.holds F J Q) : (Tree.needs ns t).holds F J Q := by
  cases ns with
  | nil => exact h
  | cons p ps => exact ⟨hn, h⟩
/-- What is touched is what was touched, if its rows are. -/
theorem touch_same {op : Op} {σ σ' : St} (he : evalR (opTmps op) σ'.tmps = evalR (opTmps op) σ.tmps) (hr : ∀ id ∈ touch op σ, cs σ'.H id = cs σ.H id) : touch op σ' = touch op σ ∧ restr σ'.H (touch op σ') = restr σ.H (touch op σ) := by
  have h1 : touch op σ' = touch op σ := by
    unfold touch at hr ⊢
    split
    · rename_i hl
      rw [if_pos hl] at hr
      simp only [he]
      congr 1
      refine flatMap_same (fun id hid => ?_)
      rw [hr id (List.mem_append_left _ hid)]
    · rfl
  refine ⟨h1, ?_⟩
  funext id
  unfold restr
  rw [h1]
  by_cases h : (touch op σ).contains id = true
  · rw [if_pos h, if_pos h, hr id (by simpa using h)]
  · rw [if_neg h, if_neg h]
theorem execC_else {nb : Nat} {o : Oper} {σ σ' : St} {K K' : St → Tree} {f : Nat} {args : Array Operand} {s : Sig} (hcf : isCallF o.op = some (f, args)) (hs : F f = some s) (hnop : s.md ≠ .op) (h : (execC P nb o σ K f args s).holds F J Q) (he : evalR (opTmps o.op) σ'.tmps = evalR (opTmps o.op) σ.tmps) (hr : ∀ id ∈ touch o.op σ, cs σ'.H id = cs σ.H id) (hl : σ'.H.length = σ.H.length)
    (hK : ∀ av us, (∀ p ∈ us, p.1 ∈ touch o.op σ ∧ isWrF F o = true ∨ nb ≤ p.1 ∧ p.1 < nb + nNew P F o) → (K ⟨putL σ.tmps o.dst av, setH σ.H us⟩).holds F J Q → (K' ⟨putL σ'.tmps o.dst av, setH σ'.H us⟩).holds F J Q) :
    (execC P nb o σ' K' f args s).holds F J Q := by
  obtain ⟨ht, hre⟩ := touch_same he hr
  unfold execC at h ⊢
  rw [he, hre, hl]
  split at h <;> try (exact h.elim)
  rename_i as pk rk has hpk hrk
  split at h <;> try (exact h.elim)
  rename_i ns ds kl hcv
  split at h <;> try (exact h.elim)
  rename_i hf
  simp only [if_pos hf]
  refine needs_mono _ _ _ h (fun h => ?_)
  unfold Tree.holds at h ⊢
  rw [hs] at h ⊢
  refine ⟨h.1, fun ys hy => ?_⟩
  have := h.2 ys hy
  simp only at this ⊢
  split at this <;> try (exact this.elim)
  refine hK _ _ (fun p hp => ?_) this
  have hop : ∃ ts, o.op = .call ⟨.value (.func f), args, ts⟩ := call_op hcf
  have hnn : nNew P F o = nRes s rk := nNew_call ⟨hcf, hop, hs⟩ hnop hrk
  rw [hnn]
  rcases resU_ids hcv _ _ _ p hp with ⟨⟨row, h1⟩, h2⟩ | h1
  · refine .inl ⟨?_, by unfold isWrF; rw [hcf]; simp only; rw [hs]; simp only; rw [h2]; simp⟩
    unfold restr at h1
    split at h1
    · rename_i h3; simpa using h3
    · cases h1
  · exact .inr h1
theorem restr_mem {H : List (Option Row)} {ids : List Nat} {id : Nat} {row : Row} (h : restr H ids id = some row) : id ∈ ids := by
  unfold restr at h
  split at h
  · rename_i h3; simpa using h3
  · cases h
theorem execR_else {nb : Nat} {o : Oper} {σ σ' : St} {K K' : St → Tree} {f : Nat} {args : Array Operand} {s : Sig} {z : Bool} (hcf : isCallF o.op = some (f, args)) (hs : F f = some s) (hmd : s.md = .rd z) (h : (execR P nb o σ K f args s z).holds F J Q) (he : evalR (opTmps o.op) σ'.tmps = evalR (opTmps o.op) σ.tmps) (hr : ∀ id ∈ touch o.op σ, cs σ'.H id = cs σ.H id) (hl : σ'.H.length = σ.H.length)
    (hK : ∀ av us, (∀ p ∈ us, p.1 ∈ touch o.op σ ∧ isWrF F o = true ∨ nb ≤ p.1 ∧ p.1 < nb + nNew P F o) → (K ⟨putL σ.tmps o.dst av, setH σ.H us⟩).holds F J Q → (K' ⟨putL σ'.tmps o.dst av, setH σ'.H us⟩).holds F J Q) :
    (execR P nb o σ' K' f args s z).holds F J Q := by
  obtain ⟨ht, hre⟩ := touch_same he hr
  unfold execR at h ⊢
  rw [he, hre, hl]
  split at h <;> try (exact h.elim)
  rename_i id row ds pk rk ns xs hread
  split at h <;> try (exact h.elim)
  rename_i hf
  simp only [if_pos hf]
  refine needs_mono _ _ _ h (fun h => ?_)
  unfold Tree.holds at h ⊢
  rw [hs] at h ⊢
  refine ⟨h.1, fun ys hy => ?_⟩
  have := h.2 ys hy
  simp only at this ⊢
  split at this <;> try (exact this.elim)
  refine hK _ _ (fun p hp => ?_) this
  obtain ⟨a0, rest, pt, pts, as, xs0, e0, e1, e2, e3, e4, e5, e6, e7, e8, e9, _⟩ := readR_spec hread
  have hnn : nNew P F o = nRes s rk := nNew_call ⟨hcf, call_op hcf, hs⟩ (by rw [hmd]; simp) e5
  have hnr : nRes s rk = if z = true then 0 else lists rk := by unfold nRes; rw [hmd]; cases z <;> rfl
  rcases List.mem_cons.mp hp with rfl | hp
  · exact .inl ⟨restr_mem (ptrArg_spec e2).2.1, by unfold isWrF; rw [hcf]; simp only; rw [hs]; simp only; rw [hmd]; simp [mdWr]⟩
  · rw [hnn, hnr]; exact .inr (resR_ids _ _ _ _ p hp)
theorem execO_else {nb : Nat} {o : Oper} {σ σ' : St} {K K' : St → Tree} {f : Nat} {args : Array Operand} {s : Sig} (hcf : isCallF o.op = some (f, args)) (hs : F f = some s) (hmd : s.md = .op) (h : (execO P nb o σ K f args s).holds F J Q) (he : evalR (opTmps o.op) σ'.tmps = evalR (opTmps o.op) σ.tmps) (hr : ∀ id ∈ touch o.op σ, cs σ'.H id = cs σ.H id) (hl : σ'.H.length = σ.H.length)
    (hK : ∀ av us, (∀ p ∈ us, p.1 ∈ touch o.op σ ∧ isWrF F o = true ∨ nb ≤ p.1 ∧ p.1 < nb + nNew P F o) → (K ⟨putL σ.tmps o.dst av, setH σ.H us⟩).holds F J Q → (K' ⟨putL σ'.tmps o.dst av, setH σ'.H us⟩).holds F J Q) :
    (execO P nb o σ' K' f args s).holds F J Q := by
  obtain ⟨ht, hre⟩ := touch_same he hr
  unfold execO at h ⊢
  rw [he, hre, hl]
  split at h <;> try (exact h.elim)
  split at h <;> try (exact h.elim)
  rename_i hf
  simp only [if_pos hf]
  refine needs_mono _ _ _ h (fun h => ?_)
  unfold Tree.holds at h ⊢
  rw [hs] at h ⊢
  refine ⟨h.1, fun ys hy => ?_⟩
  have := h.2 ys hy
  refine hK _ _ (fun p hp => .inr ?_) this
  have hnn : nNew P F o = 1 := by unfold nNew; rw [hcf]; simp only; rw [hs]; simp only; rw [hmd]
  obtain rfl : p = _ := by simpa using hp
  rw [hnn]
  exact ⟨Nat.le_refl _, Nat.lt_succ_self _⟩
/-- An operation elsewhere: the same but for what else was changed. -/
theorem exec_else {nb : Nat} {o : Oper} {σ σ' : St} {K K' : St → Tree} (h : (exec P F nb o σ K).holds F J Q) (he : evalR (opTmps o.op) σ'.tmps = evalR (opTmps o.op) σ.tmps) (hr : ∀ id ∈ touch o.op σ, cs σ'.H id = cs σ.H id) (hl : σ'.H.length = σ.H.length)
    (hK : ∀ av us, (∀ p ∈ us, p.1 ∈ touch o.op σ ∧ isWrF F o = true ∨ nb ≤ p.1 ∧ p.1 < nb + nNew P F o) → (K ⟨putL σ.tmps o.dst av, setH σ.H us⟩).holds F J Q → (K' ⟨putL σ'.tmps o.dst av, setH σ'.H us⟩).holds F J Q) :
    (exec P F nb o σ' K').holds F J Q := by
  obtain ⟨ht, hre⟩ := touch_same he hr
  unfold exec at h ⊢
  split at h
  · rename_i f args hcf
    split at h <;> try (exact h.elim)
    rename_i s hs
    cases hm : s.md with
    | rd z => simp only [hm] at h ⊢; exact execR_else hcf hs hm h he hr hl hK
    | op => simp only [hm] at h ⊢; exact execO_else hcf hs hm h he hr hl hK
    | own => simp only [hm] at h ⊢; exact execC_else hcf hs (by rw [hm]; simp) h he hr hl hK
    | fz => simp only [hm] at h ⊢; exact execC_else hcf hs (by rw [hm]; simp) h he hr hl hK
    | wr => simp only [hm] at h ⊢; exact execC_else hcf hs (by rw [hm]; simp) h he hr hl hK
  · rename_i hcf
    rw [he, hre, hl]
    split at h <;> try (exact h.elim)
    rename_i ns av us hm
    split at h <;> try (exact h.elim)
    rename_i hf
    simp only [if_pos hf]
    refine needs_mono _ _ _ h (fun h => hK _ _ (fun p hp => ?_) h)
    rcases mOp_ids hm p hp with ⟨⟨row, h1⟩, h2⟩ | ⟨h1, h2⟩
    · refine .inl ⟨?_, by unfold isWrF; rw [h2]; rfl⟩
      unfold restr at h1
      split at h1
      · rename_i h3; simpa using h3
      · cases h1
    · have hnn : nNew P F o = 1 := by unfold nNew; rw [hcf]; simp [h2]
      exact .inr ⟨by omega, by omega⟩
theorem set_far {H : List (Option Row)} {us : Us} {id : Nat} (h : ∀ p ∈ us, p.1 ≠ id) : cs (setH H us) id = cs H id := by
  induction us generalizing H with
  | nil => rfl
  | cons p us ih =>
    show cs (setH (H.set p.1 p.2) us) id = _
    rw [ih (fun q hq => h q (by simp [hq]))]
    by_cases hp : p.1 < H.length
    · rw [cs_set hp, if_neg (fun e => h p (by simp) e.symm)]
    · unfold cs
      rw [List.getElem?_set_ne (h p (by simp))]
theorem setH_comm : ∀ (us vs : Us) (H : List (Option Row)), (∀ p ∈ us, ∀ q ∈ vs, p.1 ≠ q.1) → setH (setH H us) vs = setH (setH H vs) us := by
  have one : ∀ (vs : Us) (H : List (Option Row)) (p : Nat × Option Row), (∀ q ∈ vs, p.1 ≠ q.1) → setH (H.set p.1 p.2) vs = (setH H vs).set p.1 p.2 := by
    intro vs
    induction vs with
    | nil => intro H p _; rfl
    | cons q vs ih =>
      intro H p h
      show setH ((H.set p.1 p.2).set q.1 q.2) vs = (setH (H.set q.1 q.2) vs).set p.1 p.2
      rw [List.set_comm _ _ (h q (by simp)), ih (H.set q.1 q.2) p (fun q hq => h q (by simp [hq]))]
  intro us
  induction us with
  | nil => intro vs H _; rfl
  | cons p us ih =>
    intro vs H h
    show setH (setH (H.set p.1 p.2) us) vs = setH ((setH H vs).set p.1 p.2) us
    rw [ih vs (H.set p.1 p.2) (fun p' hp q hq => h p' (by simp [hp]) q hq), one vs H p (fun q hq => h p (by simp) q hq)]
theorem putL_comm {l : List AV} {d d' : Option Nat} {x y : AV} (h : ∀ a b, d = some a → d' = some b → a ≠ b) : putL (putL l d x) d' y = putL (putL l d' y) d x := by
  cases d <;> cases d' <;> try rfl
  exact List.set_comm _ _ (h _ _ rfl rfl)
theorem disj_spec {x y : List Nat} (h : disj x y = true) {k : Nat} (hx : k ∈ x) (hy : k ∈ y) : False := by
  have := List.all_eq_true.mp h k hx
  simp at this
  exact this hy
theorem indep_spec {ops : List Oper} {nb : Nat → Nat} {tc : Nat → List Nat} {i j : Nat} (h : indep P F ops nb tc i j = true) : ∃ oi oj, ops[i]? = some oi ∧ ops[j]? = some oj ∧
    (∀ d, oj.dst = some d → (opTmps oi.op).contains d = false) ∧ (∀ d, oi.dst = some d → (opTmps oj.op).contains d = false) ∧ (∀ a b, oi.dst = some a → oj.dst = some b → a ≠ b) ∧
    ((isWrF F oi = false ∧ isWrF F oj = false) ∨ ∀ k, k ∈ tc i → k ∈ tc j → False) ∧ (∀ k ∈ tc i, ¬ (nb j ≤ k ∧ k < nb j + nNew P F oj)) ∧ (∀ k ∈ tc j, ¬ (nb i ≤ k ∧ k < nb i + nNew P F oi)) ∧ (nb i + nNew P F oi ≤ nb j ∨ nb j + nNew P F oj ≤ nb i) := by
  unfold indep at h
  split at h <;> try (cases h; done)
  rename_i oi oj h1 h2
  simp only [Bool.and_eq_true, Bool.or_eq_true, decide_eq_true_eq] at h
  obtain ⟨⟨⟨⟨⟨⟨a1, a2⟩, a3⟩, a4⟩, a5⟩, a6⟩, a7⟩ := h
  refine ⟨oi, oj, h1, h2, fun d hd => ?_, fun d hd => ?_, fun a b ha hb => ?_, ?_, fun k hk => ?_, fun k hk => ?_, a7⟩
  · rw [hd] at a1; simpa using a1
  · rw [hd] at a2; simpa using a2
  · rw [ha, hb] at a3; simpa using a3
  · rcases a4 with a4 | a4
    · exact .inl (by simpa using a4)
    · exact .inr (fun k k1 k2 => disj_spec a4.1 k1 k2)
  · have := List.all_eq_true.mp a5 k hk
    simp [inNew] at this
    omega
  · have := List.all_eq_true.mp a6 k hk
    simp [inNew] at this
    omega
/-- Two that have nothing to do with each other change places. -/
theorem swap {ops : List Oper} {nb : Nat → Nat} {tc : Nat → List Nat} {i j : Nat} {l : List Nat} {σ : St} {K : St → Tree} (hi : indep P F ops nb tc i j = true) (hc : ∀ o, ops[j]? = some o → isCallO o = false)
    (h : (sxOrd P F ops nb tc (j :: i :: l) σ K).holds F J Q) : (sxOrd P F ops nb tc (i :: j :: l) σ K).holds F J Q := by
  obtain ⟨oi, oj, h1, h2, a1, a2, a3, a4, a5, a6, a7⟩ := indep_spec hi
  have hcj := hc oj h2
  unfold sxOrd at h
  rw [h2] at h
  simp only at h
  split at h <;> try (exact h.elim)
  rename_i hgj
  obtain ⟨hgj, htj⟩ := hgj
  -- what the first one does
  unfold exec at h
  have hcf : isCallF oj.op = none := by unfold isCallO at hcj; simpa using hcj
  rw [hcf] at h
  simp only at h
  split at h <;> try (exact h.elim)
  rename_i nsj avj usj hmj
  split at h <;> try (exact h.elim)
  rename_i hokj
  obtain ⟨hnj, h⟩ := Tree.holds_needs h
  have idj : ∀ p ∈ usj, p.1 ∈ tc j ∧ isWrF F oj = true ∨ nb j ≤ p.1 ∧ p.1 < nb j + nNew P F oj := fun p hp => by
    rcases mOp_ids hmj p hp with ⟨⟨row, g1⟩, g2⟩ | ⟨g1, g2⟩
    · refine .inl ⟨?_, by unfold isWrF; rw [g2]; rfl⟩
      unfold restr at g1
      split at g1
      · rename_i g3; rw [htj] at g3; simpa using g3
      · cases g1
    · have hnn : nNew P F oj = 1 := by unfold nNew; rw [hcf]; simp [g2]
      exact .inr ⟨by omega, by omega⟩
  unfold sxOrd at h
  rw [h1] at h
  simp only at h
  split at h <;> try (exact h.elim)
  rename_i hgi
  obtain ⟨hgi, hti⟩ := hgi
  have hev : evalR (opTmps oi.op) σ.tmps = evalR (opTmps oi.op) (putL σ.tmps oj.dst avj) := (evalR_put a1).symm
  have hrow : ∀ id ∈ touch oi.op ⟨putL σ.tmps oj.dst avj, setH σ.H usj⟩, cs σ.H id = cs (setH σ.H usj) id := fun id hid => by
    rw [hti] at hid
    refine (set_far (fun p hp e => ?_)).symm
    rcases idj p hp with ⟨g1, g2⟩ | g1
    · rcases a4 with a4 | a4
      · rw [a4.2] at g2; cases g2
      · exact a4 id hid (e ▸ g1)
    · exact a5 id hid (e ▸ g1)
  have hts := touch_same (op := oi.op) (σ := ⟨putL σ.tmps oj.dst avj, setH σ.H usj⟩) (σ' := σ) hev hrow
  unfold sxOrd
  rw [h1]
  simp only
  rw [if_pos ⟨hgi, by rw [hts.1, hti]⟩]
  refine exec_else h hev hrow (by rw [show (⟨putL σ.tmps oj.dst avj, setH σ.H usj⟩ : St).H = setH σ.H usj from rfl, setH_len]) (fun avi usi hidi h => ?_)
  have idi : ∀ p ∈ usi, p.1 ∈ tc i ∧ isWrF F oi = true ∨ nb i ≤ p.1 ∧ p.1 < nb i + nNew P F oi := fun p hp => by
    have := hidi p hp
    rw [hti] at this
    exact this
  have hevj : evalR (opTmps oj.op) (putL σ.tmps oi.dst avi) = evalR (opTmps oj.op) σ.tmps := evalR_put a2
  have hrowj : ∀ id ∈ touch oj.op σ, cs (setH σ.H usi) id = cs σ.H id := fun id hid => by
    rw [htj] at hid
    refine set_far (fun p hp e => ?_)
    rcases idi p hp with ⟨g1, g2⟩ | g1
    · rcases a4 with a4 | a4
      · rw [a4.1] at g2; cases g2
      · exact a4 id (e ▸ g1) hid
    · exact a6 id hid (e ▸ g1)
  have htsj := touch_same (op := oj.op) (σ := σ) (σ' := ⟨putL σ.tmps oi.dst avi, setH σ.H usi⟩) hevj hrowj
  unfold sxOrd
  rw [h2]
  simp only
  rw [if_pos ⟨hgj, by rw [htsj.1, htj]⟩]
  unfold exec
  rw [hcf]
  simp only
  rw [hevj, htsj.2, hmj]
  simp only
  rw [setH_len, if_pos hokj]
  have e1 : putL (putL σ.tmps oi.dst avi) oj.dst avj = putL (putL σ.tmps oj.dst avj) oi.dst avi := putL_comm a3
  have e2 : setH (setH σ.H usi) usj = setH (setH σ.H usj) usi := setH_comm _ _ _ (fun p hp q hq e => by
    rcases idi p hp with ⟨g1, g2⟩ | g1 <;> rcases idj q hq with ⟨g3, g4⟩ | g3
    · rcases a4 with a4 | a4
      · rw [a4.1] at g2; cases g2
      · exact a4 p.1 g1 (e ▸ g3)
    · exact a5 p.1 g1 (e ▸ g3)
    · exact a6 q.1 g3 (e ▸ g1)
    · omega)
  rw [e1, e2]
  exact needs_holds hnj h
/-- One that has nothing to do with those ahead of it comes first. -/
theorem first_ {ops : List Oper} {nb : Nat → Nat} {tc : Nat → List Nat} {i : Nat} {K : St → Tree} : ∀ (pre post : List Nat) (σ : St), (∀ j ∈ pre, indep P F ops nb tc i j = true) → (∀ j ∈ pre, ∀ o, ops[j]? = some o → isCallO o = false) →
    (sxOrd P F ops nb tc (pre ++ i :: post) σ K).holds F J Q → (sxOrd P F ops nb tc (i :: (pre ++ post)) σ K).holds F J Q
  | [], post, σ, _, _, h => h
  | j :: pre, post, σ, h1, h2, h => by
    refine swap (h1 j (by simp)) (h2 j (by simp)) ?_
    have h' : (sxOrd P F ops nb tc (j :: (pre ++ i :: post)) σ K).holds F J Q := h
    unfold sxOrd at h' ⊢
    split at h' <;> try (exact h'.elim)
    split at h' <;> try (exact h'.elim)
    rename_i hf
    simp only [if_pos hf]
    exact exec_mono h' (fun σ' h => first_ pre post σ' (fun j hj => h1 j (by simp [hj])) (fun j hj => h2 j (by simp [hj])) h)
end
end Go.Proofs.Ytplcdadedpbkpaa.Mini
end
section
/- Exact values: regions in whatever order. -/
namespace Go.Proofs.Ytplcdadedpbkpaa.Mini
open Go Go.RowKit
set_option linter.unusedVariables false

/-- From the last call on. -/
def callSfx (ops : List Oper) : List Nat → Option (List Nat)
  | [] => none
  | j :: l => match callSfx ops l with
    | some s => some s
    | none => match ops[j]? with
      | some o => if isCallO o = true then some (j :: l) else none
      | none => none
/-- It comes behind, by a chain of edges. -/
def path (ops : List Oper) : Nat → Oper → Nat → Bool
  | 0, o, j => Typ.hasEdge o j
  | f + 1, o, j => Typ.hasEdge o j || o.after.toList.any fun e => Region.binds .any e && (match ops[e.on]? with | some o' => path ops f o' j | none => false)
def ordOk (P : Program) (F : Tb) (ops : List Oper) (nb : Nat → Nat) (tc : Nat → List Nat) : List Nat → List Nat → Bool
  | _, [] => true
  | seen, i :: l => (match ops[i]? with
    | none => false
    | some o => (o.after.toList.all fun e => !Region.binds .any e || seen.contains e.on) && (seen.all fun j => path ops 12 o j || indep P F ops nb tc i j) &&
      (seen.all fun j => match ops[j]? with | some oj => decide (nb i + nNew P F o ≤ nb j) || decide (nb j + nNew P F oj ≤ nb i) | none => false) &&
      (match callSfx ops seen with | none => true | some s => s.any fun x => path ops 12 o x)) && ordOk P F ops nb tc (seen ++ [i]) l
def drawnOk (P : Program) (F : Tb) (ops : List Oper) (nb : Nat → Nat) (tc : Nat → List Nat) (ord : List Nat) : Bool :=
  ((List.range ops.length).all fun i => ord.contains i) && decide ord.Nodup && (ord.all fun i => decide (i < ops.length)) && ordOk P F ops nb tc [] ord
section
variable {P : Program} {w0 : Bs} {κ : Kr} {C : Cs} {w : World} {F : Tb} {a : Act} {J : Nat → List D → Prop} {Q : List D → Prop}
theorem callSfx_spec {ops : List Oper} : ∀ {l s : List Nat}, callSfx ops l = some s → ∃ l1 c r, l = l1 ++ s ∧ s = c :: r ∧ (∃ o, ops[c]? = some o ∧ isCallO o = true) ∧ callSfx ops r = none
  | [], s, h => by cases h
  | j :: l, s, h => by
    unfold callSfx at h
    split at h
    · rename_i s' h1
      injection h with h; subst h
      obtain ⟨l1, c, r, e1, e2, e3, e4⟩ := callSfx_spec h1
      exact ⟨j :: l1, c, r, by rw [e1]; rfl, e2, e3, e4⟩
    · rename_i h1
      split at h <;> try (cases h; done)
      rename_i o ho
      split at h <;> try (cases h; done)
      rename_i hc
      injection h with h; subst h
      exact ⟨[], j, l, rfl, rfl, ⟨o, ho, hc⟩, h1⟩
theorem callSfx_none {ops : List Oper} : ∀ {l : List Nat}, callSfx ops l = none → ∀ c ∈ l, ∀ o, ops[c]? = some o → isCallO o = false
  | [], _, c, hc, _, _ => by simp at hc
  | j :: l, h, c, hc, o, ho => by
    unfold callSfx at h
    split at h
    · cases h
    · rename_i h1
      rcases List.mem_cons.mp hc with rfl | hc
      · rw [ho] at h
        simp only at h
        split at h
        · cases h
        · rename_i h2; simpa using h2
      · exact callSfx_none h1 c hc o ho
/-- What is so of each operation and those ahead of it. -/
theorem ordOk_at {ops : List Oper} {nb : Nat → Nat} {tc : Nat → List Nat} : ∀ {l seen : List Nat}, ordOk P F ops nb tc seen l = true → ∀ A i B, l = A ++ i :: B → ∃ o, ops[i]? = some o ∧
    (∀ e ∈ o.after, Region.binds .any e = true → e.on ∈ seen ++ A) ∧ (∀ j ∈ seen ++ A, path ops 12 o j = true ∨ indep P F ops nb tc i j = true) ∧
    (∀ j ∈ seen ++ A, ∃ oj, ops[j]? = some oj ∧ (nb i + nNew P F o ≤ nb j ∨ nb j + nNew P F oj ≤ nb i)) ∧
    (∀ s, callSfx ops (seen ++ A) = some s → ∃ x ∈ s, path ops 12 o x = true)
  | [], seen, h, A, i, B, e => by simp at e
  | k :: l, seen, h, [], i, B, e => by
    simp only [List.nil_append, List.cons.injEq] at e
    obtain ⟨rfl, rfl⟩ := e
    unfold ordOk at h
    rw [Bool.and_eq_true] at h
    obtain ⟨h, _⟩ := h
    split at h <;> try (cases h; done)
    rename_i o ho
    simp only [Bool.and_eq_true] at h
    obtain ⟨⟨⟨h1, h2⟩, h4⟩, h3⟩ := h
    simp only [List.append_nil]
    refine ⟨o, ho, fun e he hb => ?_, fun j hj => ?_, fun j hj => ?_, fun s hs => ?_⟩
    · have := List.all_eq_true.mp h1 e (by simpa using he)
      simp [hb] at this
      exact this
    · have := List.all_eq_true.mp h2 j hj
      simpa using this
    · have := List.all_eq_true.mp h4 j hj
      split at this <;> try (cases this; done)
      rename_i oj hoj
      exact ⟨oj, hoj, by simpa using this⟩
    · rw [hs] at h3
      simpa using h3
  | k :: l, seen, h, b :: A, i, B, e => by
    simp only [List.cons_append, List.cons.injEq] at e
    obtain ⟨rfl, rfl⟩ := e
    unfold ordOk at h
    rw [Bool.and_eq_true] at h
    obtain ⟨o, g1, g2, g3, g4, g5⟩ := ordOk_at h.2 A i B rfl
    simp only [List.append_assoc, List.singleton_append] at g2 g3 g4 g5
    exact ⟨o, g1, g2, g3, g4, g5⟩
/-- Some operations have come up: what is known then. -/
structure RelO (P : Program) (w0 : Bs) (F : Tb) (J : Nat → List D → Prop) (Q : List D → Prop) (ops : Array Oper) (nb : Nat → Nat) (tc : Nat → List Nat) (ord : List Nat) (K : St → Tree) (κ : Kr) (L : Array Bool) (σ : St) (a : Act) (w : World) : Prop where
  size : L.size = ops.size
  rel : Rel P w0 κ σ a w
  holes : ∀ (j : Nat) (o : Oper), ops[j]? = some o → L.getD j false = false → ∀ id, nb j ≤ id → id < nb j + nNew P F o → cs σ.H id = none ∧ κ.at_ id = none
  calls : ∀ A c B o, ord = A ++ c :: B → ops[c]? = some o → isCallO o = true → L.getD c false = false → ∀ x ∈ B, L.getD x false = false
  holds : (sxOrd P F ops.toList nb tc (ord.filter fun i => !L.getD i false) σ K).holds F J Q
  closed : ∀ (j : Nat) (o : Oper), ops[j]? = some o → L.getD j false = true → ∀ e ∈ o.after, Region.binds .any e = true → L.getD e.on false = true
theorem hasEdge_spec {o : Oper} {j : Nat} (h : Typ.hasEdge o j = true) : ∃ e ∈ o.after, Region.binds .any e = true ∧ e.on = j := by
  unfold Typ.hasEdge at h
  rw [List.any_eq_true] at h
  obtain ⟨e, he, h⟩ := h
  rw [Bool.and_eq_true] at h
  exact ⟨e, by simpa using he, h.1, by simpa using h.2⟩
/-- What it comes behind has come up. -/
theorem path_done {ops : Array Oper} {L : Array Bool} (hc : ∀ (j : Nat) (o : Oper), ops[j]? = some o → L.getD j false = true → ∀ e ∈ o.after, Region.binds .any e = true → L.getD e.on false = true) : ∀ (f : Nat) (o : Oper) (j : Nat), (∀ e ∈ o.after, Region.binds .any e = true → L.getD e.on false = true) → path ops.toList f o j = true → L.getD j false = true
  | 0, o, j, h, hp => by
    obtain ⟨e, he, hb, hon⟩ := hasEdge_spec hp
    rw [← hon]; exact h e he hb
  | f + 1, o, j, h, hp => by
    unfold path at hp
    rw [Bool.or_eq_true] at hp
    rcases hp with hp | hp
    · obtain ⟨e, he, hb, hon⟩ := hasEdge_spec hp
      rw [← hon]; exact h e he hb
    · rw [List.any_eq_true] at hp
      obtain ⟨e, he, hp⟩ := hp
      rw [Bool.and_eq_true] at hp
      obtain ⟨hb, hp⟩ := hp
      split at hp <;> try (cases hp; done)
      rename_i o' ho'
      rw [Array.getElem?_toList] at ho'
      exact path_done hc f o' j (hc e.on o' ho' (h e (by simpa using he) hb)) hp
theorem relO_step (hF : FnsOk P F) {ops : Array Oper} {nb : Nat → Nat} {tc : Nat → List Nat} {ord : List Nat} {K : St → Tree} (hd : drawnOk P F ops.toList nb tc ord = true) {L : Array Bool} {σ : St} (h : RelO P w0 F J Q ops nb tc ord K κ L σ a w)
    {i : Nat} (hi : i ∈ Region.ready .any ops L) {G : Act → World → Prop} {Qe : Exit → Act → World → Prop} (hG : ∀ κ' σ' a' w', κ.le κ' → RelO P w0 F J Q ops nb tc ord K κ' (L.setIfInBounds i true) σ' a' w' → G a' w') : wpOp P ops Qe i G a w := by
  unfold drawnOk at hd
  simp only [Bool.and_eq_true, decide_eq_true_eq] at hd
  obtain ⟨⟨⟨d1, d2⟩, d3⟩, d4⟩ := hd
  obtain ⟨hl, o, ho, hall⟩ := mem_ready.mp hi
  have hin : i < ops.size := (Array.getElem?_eq_some_iff.mp ho).1
  have hiL : i < L.size := by rw [h.size]; exact hin
  have hl' : L.getD i false = false := by rw [Typ.getD_all hiL false true]; exact hl
  have hiord : i ∈ ord := by
    have := List.all_eq_true.mp d1 i (by simpa using hin)
    simpa using this
  obtain ⟨A, B, hAB⟩ := List.append_of_mem hiord
  obtain ⟨o', g1, g2, g3, g4, g5⟩ := ordOk_at d4 A i B hAB
  rw [Array.getElem?_toList, ho] at g1
  injection g1 with g1
  subst g1
  simp only [List.nil_append] at g2 g3 g4 g5
  have hall' : ∀ e ∈ o.after, Region.binds .any e = true → L.getD e.on false = true := fun e he hb => hall e he hb
  -- no call is still to come ahead of it
  have hnocall : ∀ c ∈ A, L.getD c false = false → ∀ oc, ops.toList[c]? = some oc → isCallO oc = false := by
    intro c hc hcl oc hoc
    cases hcall : isCallO oc with
    | false => rfl
    | true =>
      exfalso
      cases hs : callSfx ops.toList A with
      | none =>
        have := callSfx_none hs c hc oc hoc
        rw [hcall] at this; cases this
      | some s =>
        obtain ⟨x, hx, hex⟩ := g5 s hs
        have hxd := path_done h.closed 12 o x hall' hex
        obtain ⟨l1, c', r, e1, e2, ⟨oc', e3, e4⟩, e5⟩ := callSfx_spec hs
        have hpend : ∀ y ∈ s, L.getD y false = false := by
          rw [e1, e2] at hc
          rcases List.mem_append.mp hc with hc | hc
          · obtain ⟨u, v, huv⟩ := List.append_of_mem hc
            intro y hy
            refine h.calls u c (v ++ s ++ i :: B) oc ?_ (by rw [← Array.getElem?_toList]; exact hoc) hcall hcl y (by simp [hy])
            rw [hAB, e1, huv]
            simp
          · rcases List.mem_cons.mp hc with rfl | hc
            · intro y hy
              rw [e2] at hy
              rcases List.mem_cons.mp hy with rfl | hy
              · exact hcl
              · refine h.calls l1 c (r ++ i :: B) oc ?_ (by rw [← Array.getElem?_toList]; exact hoc) hcall hcl y (by simp [hy])
                rw [hAB, e1, e2]
                simp
            · have := callSfx_none e5 c hc oc hoc
              rw [hcall] at this; cases this
        rw [hpend x hx] at hxd
        cases hxd
  have hnd : (A ++ i :: B).Nodup := by rw [← hAB]; exact d2
  have hiA : i ∉ A := fun hm => by
    rw [List.nodup_append] at hnd
    exact hnd.2.2 i hm i (by simp) rfl
  have hiB : i ∉ B := fun hm => by
    rw [List.nodup_append] at hnd
    exact (List.nodup_cons.mp hnd.2.1).1 hm
  have hR : ord.filter (fun i => !L.getD i false) = A.filter (fun i => !L.getD i false) ++ i :: B.filter (fun i => !L.getD i false) := by
    rw [hAB, List.filter_append, List.filter_cons, if_pos (by rw [hl']; rfl)]
  have hR' : ord.filter (fun j => !(L.setIfInBounds i true).getD j false) = A.filter (fun i => !L.getD i false) ++ B.filter (fun i => !L.getD i false) := by
    rw [hAB, List.filter_append, List.filter_cons, if_neg (by rw [Typ.getD_set L i i hiL, if_pos rfl]; simp)]
    congr 1
    · apply List.filter_congr
      intro x hx
      rw [Typ.getD_set L i x hiL, if_neg (fun (e : x = i) => hiA (e ▸ hx))]
    · apply List.filter_congr
      intro x hx
      rw [Typ.getD_set L i x hiL, if_neg (fun (e : x = i) => hiB (e ▸ hx))]
  have hh := h.holds
  rw [hR] at hh
  have hfirst := first_ (A.filter (fun i => !L.getD i false)) (B.filter (fun i => !L.getD i false)) σ (fun j hj => by
    obtain ⟨hjA, hjl⟩ := List.mem_filter.mp hj
    have hjl' : L.getD j false = false := by simpa using hjl
    rcases g3 j hjA with hje | hje
    · exfalso
      have := path_done h.closed 12 o j hall' hje
      rw [hjl'] at this
      cases this
    · exact hje) (fun j hj oj hoj => by
    obtain ⟨hjA, hjl⟩ := List.mem_filter.mp hj
    exact hnocall j hjA (by simpa using hjl) oj hoj) hh
  unfold sxOrd at hfirst
  rw [show ops.toList[i]? = some o by rw [Array.getElem?_toList]; exact ho] at hfirst
  simp only at hfirst
  split at hfirst <;> try (exact hfirst.elim)
  rename_i hgt
  obtain ⟨hgd, htc⟩ := hgt
  unfold wpOp
  rw [ho]
  simp only
  rw [if_pos (by unfold Region.wanted; cases hg : o.guard with | none => rfl | some x => rw [hg] at hgd; cases hgd)]
  refine .inl (exec_sound hF hfirst (C := cs σ.H) h.rel.inv (h.rel.t.evalR _) (fun id row hrow => ?_) (fun id h1 h2 => h.holes i o ho hl' id h1 h2) (fun κ' v w' hA => ?_))
  · unfold restr at hrow
    split at hrow
    · exact hrow
    · cases hrow
  obtain ⟨us, av, k1, k2, k3, k4, k5, k6, k7⟩ := hA
  refine hG κ' ⟨putL σ.tmps o.dst av, setH σ.H us⟩ _ w' k1 ⟨by simp [h.size], ⟨(h.rel.t.mono k1).put k4, ?_, fun id hid => ?_, fun i b o N h9 => k1.at_ _ _ (h.rel.pin i b o N h9)⟩, fun j oj hj hjl id h1 h2 => ?_, fun A' c B' oc hAB' hc hcall hcl x hx => ?_, ?_, fun j oj hj hjl e he hb => ?_⟩
  · show Inv P w0 κ' (cs (setH σ.H us)) w'
    rw [cs_setH us _ k5]; exact k2
  · have hlen : (setH σ.H us).length = σ.H.length := setH_len _ _
    have hid' : σ.H.length ≤ id := by rw [← hlen]; exact hid
    rw [k3 id (fun p hp e => ?_)]
    · exact h.rel.fresh id hid'
    · have := List.all_eq_true.mp k5 p hp
      simp at this
      omega
  · have hji : j ≠ i := fun e => by
      subst e
      rw [Typ.getD_set L j j hiL, if_pos rfl] at hjl
      cases hjl
    rw [Typ.getD_set L i j hiL, if_neg hji] at hjl
    obtain ⟨q1, q2⟩ := h.holes j oj hj hjl id h1 h2
    have hne : ∀ p ∈ us, p.1 ≠ id := fun p hp e => by
      rcases k6 p hp with ⟨row, hrow⟩ | ⟨h3, h4⟩
      · unfold restr at hrow
        split at hrow
        · rw [e, q1] at hrow; cases hrow
        · cases hrow
      · -- new rows are apart
        have hjord : j ∈ ord := by
          have := List.all_eq_true.mp d1 j (by simpa using (Array.getElem?_eq_some_iff.mp hj).1)
          simpa using this
        rw [hAB] at hjord
        have hap : nb i + nNew P F o ≤ nb j ∨ nb j + nNew P F oj ≤ nb i := by
          rcases List.mem_append.mp hjord with hm | hm
          · obtain ⟨oj', m1, m2⟩ := g4 j hm
            rw [Array.getElem?_toList, hj] at m1
            injection m1 with m1; subst m1
            exact m2
          · rcases List.mem_cons.mp hm with hm | hm
            · exact absurd hm hji
            · obtain ⟨u, v, huv⟩ := List.append_of_mem hm
              obtain ⟨oj', m1, _, _, m4, _⟩ := ordOk_at d4 (A ++ i :: u) j v (by rw [hAB, huv]; simp)
              rw [Array.getElem?_toList, hj] at m1
              injection m1 with m1; subst m1
              obtain ⟨oi', m5, m6⟩ := m4 i (by simp)
              rw [Array.getElem?_toList, ho] at m5
              injection m5 with m5; subst m5
              omega
        omega
    exact ⟨by rw [show (⟨putL σ.tmps o.dst av, setH σ.H us⟩ : St).H = setH σ.H us from rfl, set_far hne]; exact q1, by rw [k3 id hne]; exact q2⟩
  · have hci : c ≠ i := fun e => by
      subst e
      rw [Typ.getD_set L c c hiL, if_pos rfl] at hcl
      cases hcl
    rw [Typ.getD_set L i c hiL, if_neg hci] at hcl
    have hold := h.calls A' c B' oc hAB' hc hcall hcl x hx
    rw [Typ.getD_set L i x hiL, if_neg (fun e => ?_)]
    · exact hold
    · subst e
      -- then a call ahead of it is still to come
      obtain ⟨u, v, huv⟩ := List.append_of_mem hx
      have hA2 : A = A' ++ c :: u := by
        have e1 : A ++ x :: B = (A' ++ c :: u) ++ x :: v := by rw [← hAB, hAB', huv]; simp
        have hx1 : x ∉ A' ++ c :: u := fun hm => by
          have h9 : ((A' ++ c :: u) ++ x :: v).Nodup := by rw [← e1]; exact hnd
          rw [List.nodup_append] at h9
          exact h9.2.2 x hm x (by simp) rfl
        rcases List.append_eq_append_iff.mp e1 with ⟨as, q1, q2⟩ | ⟨bs, q1, q2⟩
        · cases as with
          | nil => simpa using q1.symm
          | cons b as =>
            simp only [List.cons_append, List.cons.injEq] at q2
            exfalso
            exact hx1 (by rw [q1, ← q2.1]; simp)
        · cases bs with
          | nil => simpa using q1
          | cons b bs =>
            simp only [List.cons_append, List.cons.injEq] at q2
            exfalso
            exact hiA (by rw [q1, ← q2.1]; simp)
      have := hnocall c (by rw [hA2]; simp) hcl oc (by rw [Array.getElem?_toList]; exact hc)
      rw [hcall] at this; cases this
  · rw [hR']; exact k7
  · have old : ∀ x, L.getD x false = true → (L.setIfInBounds i true).getD x false = true := fun x hx => by
      rw [Typ.getD_set L i x hiL]
      split
      · rfl
      · exact hx
    by_cases hji : j = i
    · subst hji
      rw [ho] at hj
      injection hj with hj
      subst hj
      exact old _ (hall' e he hb)
    · rw [Typ.getD_set L i j hiL, if_neg hji] at hjl
      exact old _ (h.closed j oj hj hjl e he hb)
theorem relO_any (hF : FnsOk P F) {ops : Array Oper} {nb : Nat → Nat} {tc : Nat → List Nat} {ord : List Nat} {K : St → Tree} (hd : drawnOk P F ops.toList nb tc ord = true) {Qe : Exit → Act → World → Prop} :
    ∀ (fuel : Nat) (κ : Kr) (L : Array Bool) (σ : St) (a : Act) (w : World), RelO P w0 F J Q ops nb tc ord K κ L σ a w → ops.size ≤ Typ.Sm (fun _ => 1) L ops.size + fuel →
    (∀ κ' σ' a' w', κ.le κ' → Rel P w0 κ' σ' a' w' → (K σ').holds F J Q → Qe .normal a' w') → wpAny P .any ops Qe fuel L a w := by
  have hd' := hd
  unfold drawnOk at hd'
  simp only [Bool.and_eq_true, decide_eq_true_eq] at hd'
  obtain ⟨⟨⟨d1, d2⟩, d3⟩, d4⟩ := hd'
  have done : ∀ (κ : Kr) (L : Array Bool) (σ : St) (a : Act) (w : World), RelO P w0 F J Q ops nb tc ord K κ L σ a w → (∀ i, i < ops.size → L.getD i false = true) →
      (∀ κ' σ' a' w', κ.le κ' → Rel P w0 κ' σ' a' w' → (K σ').holds F J Q → Qe .normal a' w') → Qe .normal a w := by
    intro κ L σ a w h hall hQ
    refine hQ κ σ a w (Kr.le.refl κ) h.rel ?_
    have := h.holds
    rw [List.filter_eq_nil_iff.mpr (fun i hi => by
      have h1 := List.all_eq_true.mp d3 i hi
      rw [hall i (by simpa using h1)]
      simp)] at this
    exact this
  intro fuel
  induction fuel with
  | zero =>
    intro κ L σ a w h hn hQ
    have hall : ∀ i, i < ops.size → L.getD i false = true := by
      intro i hi
      by_cases hl : L.getD i false = true
      · exact hl
      · have hl : L.getD i false = false := by simpa using hl
        have h1 := Typ.Sm_set (fun _ => 1) L i (by rw [h.size]; exact hi) hl ops.size
        have h2 := Typ.Sm_le (fun _ => 1) (L.setIfInBounds i true) ops.size
        rw [Typ.Tm_one] at h2
        rw [if_pos hi] at h1
        omega
    refine ⟨?_, done κ L σ a w h hall hQ⟩
    rw [List.eq_nil_iff_forall_not_mem]
    intro j hj
    obtain ⟨h1, o, h2, _⟩ := mem_ready.mp hj
    have hjn := (Array.getElem?_eq_some_iff.mp h2).1
    have := hall j hjn
    rw [Typ.getD_all (by rw [h.size]; exact hjn) false true, h1] at this
    cases this
  | succ fuel ih =>
    intro κ L σ a w h hn hQ
    refine ⟨fun hr => done κ L σ a w h (fun i hi => ?_) hQ, fun i hi => ?_⟩
    · -- by the place in the order
      have key : ∀ A i B, ord = A ++ i :: B → L.getD i false = true := by
        intro A
        induction hA : A.length using Nat.strongRecOn generalizing A with
        | _ n ih2 =>
          intro i B hAB
          by_cases hl : L.getD i false = true
          · exact hl
          · exfalso
            have hl : L.getD i false = false := by simpa using hl
            obtain ⟨o, g1, g2, _⟩ := ordOk_at d4 A i B hAB
            rw [Array.getElem?_toList] at g1
            have hin := (Array.getElem?_eq_some_iff.mp g1).1
            have hm : i ∈ Region.ready .any ops L := mem_ready.mpr ⟨by rw [Typ.getD_all (by rw [h.size]; exact hin) true false]; exact hl, o, g1, fun e he hb => by
              have hon := g2 e he hb
              simp only [List.nil_append] at hon
              obtain ⟨u, v, huv⟩ := List.append_of_mem hon
              exact ih2 u.length (by rw [← hA, huv]; simp) u rfl e.on (v ++ i :: B) (by rw [hAB, huv]; simp)⟩
            rw [hr] at hm
            cases hm
      have hiord : i ∈ ord := by
        have := List.all_eq_true.mp d1 i (by simpa using hi)
        simpa using this
      obtain ⟨A, B, hAB⟩ := List.append_of_mem hiord
      exact key A i B hAB
    · refine relO_step hF hd h hi (fun κ' σ' a' w' hle h' => ih κ' _ σ' a' w' h' ?_ (fun κ'' σ'' a'' w'' g1 g2 g3 => hQ κ'' σ'' a'' w'' (hle.trans g1) g2 g3))
      obtain ⟨h1, o, h2, _⟩ := mem_ready.mp hi
      have hin := (Array.getElem?_eq_some_iff.mp h2).1
      have h3 := Typ.Sm_set (fun _ => 1) L i (by rw [h.size]; exact hin) (by rw [Typ.getD_all (by rw [h.size]; exact hin) false true]; exact h1) ops.size
      rw [if_pos hin] at h3
      omega
end
end Go.Proofs.Ytplcdadedpbkpaa.Mini
end
section
/- Exact values: whole functions. -/
namespace Go.Proofs.Ytplcdadedpbkpaa.Mini
open Go Go.RowKit
set_option linter.unusedVariables false

/-! ### Regions, either way -/
def readyC (ops : List Oper) (done : List Nat) (i : Nat) : Bool :=
  match ops[i]? with
  | some o => o.after.toList.all fun e => !Region.binds .any e || done.contains e.on
  | none => false
def isCallAt (ops : List Oper) (i : Nat) : Bool := match ops[i]? with | some o => isCallO o | none => false
/-- An order in which calls come as late as they can. -/
def canon (ops : List Oper) : Nat → List Nat → List Nat
  | 0, done => done
  | f + 1, done =>
    let cand := (List.range ops.length).filter fun i => !done.contains i && readyC ops done i
    match cand.find? fun i => !isCallAt ops i with
    | some i => canon ops f (done ++ [i])
    | none => match cand with
      | i :: _ => canon ops f (done ++ [i])
      | [] => done
def offs (P : Program) (F : Tb) (ops : List Oper) : Nat → List Nat → List (Nat × Nat) × Nat
  | n, [] => ([], n)
  | n, i :: l => match ops[i]? with
    | some o => let r := offs P F ops (n + nNew P F o) l; ((i, n) :: r.1, r.2)
    | none => ([], n)
def shapeStep (P : Program) (F : Tb) (nb : Nat) (o : Oper) (σ : St) : St :=
  match isCallF o.op with
  | some (f, args) => match F f with
    | some s => match s.md with
      | .rd z => match readR P (restr σ.H (touch o.op σ)) s (args.toList.map fun x => unl (evalR (opTmps o.op) σ.tmps x)) with
        | some (id, row, _, _, rk, _, _) => match splitV P s.results (resR z [] nb rk).1 with
          | some l => ⟨putL σ.tmps o.dst (wrapR l), setH σ.H ((id, some (.sym row.t [])) :: (resR z [] nb rk).2)⟩
          | none => σ
        | none => σ
      | .op => match readO P (restr σ.H (touch o.op σ)) s (args.toList.map fun x => unl (evalR (opTmps o.op) σ.tmps x)) with
        | some (t, _, _, _) => ⟨putL σ.tmps o.dst (one (.ptr nb 0)), setH σ.H [(nb, some (.sym t []))]⟩
        | none => σ
      | _ => match argCells P s.params (args.toList.map fun x => unl (evalR (opTmps o.op) σ.tmps x)), ksAll P s.params, ksAll P s.results with
        | some as, some pk, some rk => match callV P s (restr σ.H (touch o.op σ)) pk as with
          | some (_, _, kl) => match splitV P s.results (resU s [] nb kl pk rk).1 with
            | some l => ⟨putL σ.tmps o.dst (wrapR l), setH σ.H (resU s [] nb kl pk rk).2⟩
            | none => σ
          | none => σ
        | _, _, _ => σ
    | none => σ
  | none => match mOp P o.op (unlE o.op (evalR (opTmps o.op) σ.tmps)) (restr σ.H (touch o.op σ)) nb with
    | some (_, av, us) => ⟨putL σ.tmps o.dst av, setH σ.H us⟩
    | none => σ
def tcRun (P : Program) (F : Tb) (ops : List Oper) (nb : Nat → Nat) : List Nat → St → List (Nat × List Nat)
  | [], _ => []
  | i :: l, σ => match ops[i]? with
    | some o => (i, touch o.op σ) :: tcRun P F ops nb l (shapeStep P F (nb i) o σ)
    | none => []
def look {α : Type} (d : α) : List (Nat × α) → Nat → α
  | [], _ => d
  | (k, x) :: l, i => if k = i then x else look d l i
def sxDrawn (P : Program) (F : Tb) (ops : List Oper) (σ : St) (K : St → Tree) (ord : List Nat) (nbs : List (Nat × Nat) × Nat) (tcs : List (Nat × List Nat)) : Tree :=
  if drawnOk P F ops (look 0 nbs.1) (look [] tcs) ord = true ∧ (ord.all fun i => decide (σ.H.length ≤ look 0 nbs.1 i)) = true then
    sxOrd P F ops (look 0 nbs.1) (look [] tcs) ord (padS σ (nbs.2 - σ.H.length)) K
  else .fail
def sxRegion (P : Program) (F : Tb) (ops : List Oper) (draw : Bool) (σ : St) (K : St → Tree) : Tree :=
  if draw = false then sxOps P F ops 0 ops σ K else
    let ord := canon ops ops.length []
    let nbs := offs P F ops σ.H.length ord
    sxDrawn P F ops σ K ord nbs (tcRun P F ops (look 0 nbs.1) ord (padS σ (nbs.2 - σ.H.length)))
section
variable {P : Program} {w0 : Bs} {κ : Kr} {C : Cs} {w : World} {F : Tb} {a : Act} {J : Nat → List D → Prop} {Q : List D → Prop}
theorem region_sound (hF : FnsOk P F) (hm : P.follows .mixedOrders = true) {id : Nat} {ops : Array Oper} {draw : Bool} {σ : St} {K : St → Tree} {Qe : Exit → Act → World → Prop} (h : (sxRegion P F ops.toList draw σ K).holds F J Q) (hr : Rel P w0 κ σ a w)
    (hQ : ∀ κ' σ' a' w', κ.le κ' → Rel P w0 κ' σ' a' w' → (K σ').holds F J Q → Qe .normal a' w') : (Code.region id ops draw).wp P Qe a w := by
  unfold sxRegion at h
  cases draw with
  | false =>
    rw [if_pos rfl] at h
    apply wp_region
    rw [List.range_eq_range']
    exact sxOps_sound hF ops.size 0 σ κ a w (by omega) (by simpa using h) hr hQ
  | true =>
    rw [if_neg (by simp)] at h
    simp only at h
    generalize canon ops.toList ops.toList.length [] = ord at h
    generalize offs P F ops.toList σ.H.length ord = nbs at h
    generalize tcRun P F ops.toList (look 0 nbs.1) ord (padS σ (nbs.2 - σ.H.length)) = tcs at h
    unfold sxDrawn at h
    split at h <;> try (exact h.elim)
    rename_i hd
    obtain ⟨hd, hnb⟩ := hd
    apply wp_region_any hm
    have hall0 : ∀ x, (Array.replicate ops.size false).getD x false = false := fun x => by
      rw [Array.getD_eq_getD_getElem?, Array.getElem?_replicate]
      split <;> simp
    refine relO_any hF hd ops.size κ _ (padS σ (nbs.2 - σ.H.length)) a _ ⟨by simp, ⟨hr.t, ?_, fun id hid => hr.fresh id (by simp [padS] at hid; omega), hr.pin⟩, fun j o hj _ id h1 h2 => ?_, fun A c B o _ _ _ _ x _ => hall0 x, ?_, fun j o _ hj => by rw [hall0 j] at hj; cases hj⟩ (by omega) hQ
    · show Inv P w0 κ (cs (σ.H ++ List.replicate _ none)) w.drew
      rw [cs_pad]; exact hr.inv.drew
    · have hd' := hd
      unfold drawnOk at hd'
      simp only [Bool.and_eq_true, decide_eq_true_eq] at hd'
      have hjo : j ∈ ord := by
        have := List.all_eq_true.mp hd'.1.1.1 j (by simpa using (Array.getElem?_eq_some_iff.mp hj).1)
        simpa using this
      have := List.all_eq_true.mp hnb j hjo
      simp at this
      refine ⟨?_, hr.fresh id (by omega)⟩
      show cs (σ.H ++ List.replicate _ none) id = none
      rw [cs_pad]; exact cs_none (by omega)
    · rw [List.filter_eq_self.mpr (fun i _ => by rw [hall0 i]; rfl)]
      exact h
end

/-! ### Results -/
def retS (k : Kd) : A → Option (List Prop × D × List Nat)
  | .d d => if fitK d k = true then some ([], d, []) else none
  | _ => none
def retO (P : Program) (g : Cs) (t : Nat) : A → Option (List Prop × D × List Nat)
  | .nil => some ([], .list t 0 [], [])
  | .sl u id off len => if u = t then
      match g id with
      | some row => match rowD row with
        | some ds => if row.t = t then some ([(off + len) * sz P t ≤ ds.length, scal ((ds.drop (off * sz P t)).take (len * sz P t))], .list t len ((ds.drop (off * sz P t)).take (len * sz P t)), [id]) else none
        | none => none
      | none => none
    else none
  | _ => none
def retA (P : Program) (g : Cs) : Kd → A → Option (List Prop × D × List Nat)
  | .list t, a => retO P g t a
  | .int k, a => retS (.int k) a
  | .bool, a => retS .bool a
  | .str, a => retS .str a
def retL (P : Program) (g : Cs) : List Kd → List A → Option (List Prop × List D × List Nat)
  | [], [] => some ([], [], [])
  | k :: ks, a :: as => match retA P g k a, retL P g ks as with
    | some (n1, d, i1), some (n2, ds, i2) => if disj i1 i2 = true then some (n1 ++ n2, d :: ds, i1 ++ i2) else none
    | _, _ => none
  | _, _ => none
def resV (P : Program) (σ : St) : ResultVar → Option (List Prop × V1)
  | .tmp t => match unl (σ.tmps.getD t anyV) with | .v x => some ([], x) | _ => none
  | .cell a t => match mLoad P (fun _ => σ.tmps.getD a anyV) (cs σ.H) t (.tmp a) with | some (ns, .v x, []) => some (ns, x) | _ => none
def resVs (P : Program) (σ : St) : List ResultVar → Option (List Prop × List V1)
  | [] => some ([], [])
  | r :: rs => match resV P σ r, resVs P σ rs with | some (n1, x), some (n2, l) => some (n1 ++ n2, x :: l) | _, _ => none
/-- What lies in the lists that came in, at the end. -/
def wrZ (P : Program) (g : Cs) : Nat → List Kd → Option (List Prop × List D)
  | _, [] => some ([], [])
  | i, .list t :: ks => match g i, wrZ P g (i + 1) ks with
    | some row, some (ns, zs) => match rowD row with
      | some l => if row.t = t then some ((l.length = l.length / sz P t * sz P t ∧ scal l) :: ns, .list t (l.length / sz P t) l :: zs) else none
      | none => none
    | _, _ => none
  | i, _ :: ks => wrZ P g i ks
def retB (P : Program) (md : Md) (g : Cs) (pk rk : List Kd) (as : List A) : Option (List Prop × List D × List Nat) :=
  match md with
  | .rd _ => none
  | .op => none
  | .fz => match frzL P g as with
    | some (ns, ds, _) => if fits (nilsTo ds rk) rk = true then some (ns, nilsTo ds rk, []) else none
    | none => none
  | .own => retL P g rk as
  | .wr => match retL P g rk as, wrZ P g 0 pk with
    | some (n1, ds, _), some (n2, zs) => if lists rk = 0 ∧ ds.length = rk.length then some (n1 ++ n2, ds ++ zs, []) else none
    | _, _ => none
def retT (P : Program) (md : Md) (pts rts : List Nat) (rvs : List ResultVar) (σ : St) : Tree :=
  match resVs P σ rvs, ksAll P rts, ksAll P pts with
  | some (n1, xs), some rk, some pk => match argCells P rts (xs.map .v) with
    | some as => match retB P md (cs σ.H) pk rk as with
      | some (n2, ds, _) => .needs (n1 ++ n2) (.ret ds)
      | none => .fail
    | none => .fail
  | _, _, _ => .fail
section
variable {P : Program} {w0 : Bs} {κ : Kr} {C : Cs} {w : World} {F : Tb} {a : Act} {J : Nat → List D → Prop} {Q : List D → Prop}
theorem sel_of {ys : List D} {j : Nat} {t n : Nat} {l : List D} (h : ys[j]? = some (.list t n l)) : selN ys j = n ∧ selL ys j = l := by
  unfold selN selL; rw [h]; exact ⟨rfl, rfl⟩
theorem scalar_any {z z' : Nat → Option Obj} {d : D} {v : Value} (hs : d.scalar = true) (h : gD P z d v) : gD P z' d v := by
  cases d with
  | list => cases hs
  | _ => unfold gD at h ⊢; exact h
theorem retL_sound {g : Cs} (hi : Inv P w0 κ C w) (hg : ∀ id row, g id = some row → C id = some row) : ∀ {ks : List Kd} {as : List A} {n : List Prop} {ds : List D} {ids : List Nat} {vs : List Value} (pre : List D), ((∀ id ∈ ids, ∀ row b o N, C id = some row → κ.at_ id = some (b, o, N) → b ∉ blocks w0.bs) ∨ lists ks = 0) → retL P g ks as = some (n, ds, ids) → all_ n → gL P κ as vs →
    ∃ bs, resL P w0.heap.size w (pre ++ ds) pre.length ks vs bs ∧ (blocks bs).Nodup ∧ (∀ b ∈ blocks bs, ∃ id ∈ ids, ∃ row o N, C id = some row ∧ κ.at_ id = some (b, o, N)) ∧ all_ (needs (pre ++ ds) pre.length ks)
  | [], [], n, ds, ids, vs, pre, hbs, h, hn, hv => by
    injection h with h; injection h with h1 h2; injection h2 with h2 h3
    subst h2; subst h3
    have : vs = [] := List.eq_nil_of_length_eq_zero hv.len.symm
    subst this
    exact ⟨[], by unfold resL; exact ⟨rfl, rfl⟩, by simp [blocks], fun b hb => by simp [blocks] at hb, trivial⟩
  | k :: ks, a :: as, n, ds, ids, v :: vs, pre, hbs, h, hn, ⟨hv1, hv2⟩ => by
    unfold retL at h
    split at h <;> try (cases h; done)
    rename_i n1 d i1 n2 ds2 i2 h1 h2
    split at h <;> try (cases h; done)
    rename_i hdis
    injection h with h; injection h with e1 e2; injection e2 with e2 e3
    subst e1; subst e2; subst e3
    obtain ⟨hn1, hn2⟩ := all_append hn
    obtain ⟨bs, b1, b2, b3, b4⟩ := retL_sound hi hg (pre ++ [d]) (hbs.imp (fun h id hid => h id (List.mem_append_right _ hid)) (fun h => by cases k <;> simp [lists] at h <;> exact h)) h2 hn2 hv2
    rw [List.append_assoc, List.length_append] at b1 b4
    have hyj : (pre ++ d :: ds2)[pre.length]? = some d := by simp
    have scal : ∀ (k' : Kd), (∀ t, k' ≠ .list t) → retS k' a = some (n1, d, i1) → gD P (fun _ => none) (sel (pre ++ d :: ds2) pre.length k') v ∧ needK (pre ++ d :: ds2) pre.length k' ∧ i1 = [] := by
      intro k' hk' h1
      cases a with
      | d d' =>
        unfold retS at h1
        simp only at h1
        split at h1 <;> try (cases h1; done)
        rename_i hfit
        injection h1 with h1; injection h1 with e1 e2; injection e2 with e2 e3
        subst e2
        obtain ⟨q1, q2⟩ := fitK_sel hyj hfit
        refine ⟨?_, q1, e3.symm⟩
        rw [q2]
        have hv1' : gD P κ.z d' v := hv1
        refine scalar_any ?_ hv1'
        cases d' with
        | list t n l =>
          cases k' <;> simp [fitK] at hfit
          exact absurd rfl (hk' _)
        | _ => rfl
      | _ => cases h1
    cases k with
    | int k0 =>
      obtain ⟨q1, q2, rfl⟩ := scal (.int k0) (by simp) h1
      exact ⟨bs, by unfold resL; exact ⟨q1, b1⟩, b2, by simpa using b3, q2, b4⟩
    | bool =>
      obtain ⟨q1, q2, rfl⟩ := scal .bool (by simp) h1
      exact ⟨bs, by unfold resL; exact ⟨q1, b1⟩, b2, by simpa using b3, q2, b4⟩
    | str =>
      obtain ⟨q1, q2, rfl⟩ := scal .str (by simp) h1
      exact ⟨bs, by unfold resL; exact ⟨q1, b1⟩, b2, by simpa using b3, q2, b4⟩
    | list t =>
      have key : ∃ ob, ownOk P w0.heap.size w t (selN (pre ++ d :: ds2) pre.length) (selL (pre ++ d :: ds2) pre.length) v ob ∧ (∀ b, ob.map (·.1) = some b → ∃ id ∈ i1, ∃ row o N, C id = some row ∧ κ.at_ id = some (b, o, N)) ∧ needK (pre ++ d :: ds2) pre.length (.list t) := by
        have h1' : retO P g t a = some (n1, d, i1) := h1
        clear h1 scal
        cases a with
        | any => cases h1'
        | d x => cases h1'
        | ptr => cases h1'
        | pe => cases h1'
        | rp => cases h1'
        | lit => cases h1'
        | nil =>
          injection h1' with h1; injection h1 with e1 e2; injection e2 with e2 e3
          subst e2
          obtain ⟨s1, s2⟩ := sel_of hyj
          rw [s1, s2]
          exact ⟨none, ⟨rfl, rfl, none, hv1⟩, fun b hb => (by cases hb), .inl (by rw [hyj, s1, s2])⟩
        | sl u id off len =>
          unfold retO at h1'
          simp only at h1'
          split at h1' <;> try (cases h1'; done)
          rename_i hu
          subst hu
          split at h1' <;> try (cases h1'; done)
          rename_i row hrow
          split at h1' <;> try (cases h1'; done)
          rename_i ds0 hds0
          split at h1' <;> try (cases h1'; done)
          rename_i hrt
          injection h1' with h1; injection h1 with e1 e2; injection e2 with e2 e3
          subst e1; subst e2; subst e3
          obtain ⟨hle, hsc, _⟩ := hn1
          rw [Nat.add_mul] at hle
          obtain ⟨s1, s2⟩ := sel_of hyj
          rw [s1, s2]
          have hl : ((ds0.drop (off * sz P u)).take (len * sz P u)).length = len * sz P u := by simp; omega
          have hCr := hg _ _ hrow
          obtain ⟨Ad, c, rfl, hc, hv1⟩ := hv1
          rcases hv1 with ⟨rfl, rfl⟩ | ⟨b, o, N, hat, rfl, hfit⟩
          · exact ⟨none, ⟨by simp, rfl, Ad, rfl⟩, fun b hb => (by cases hb), .inl (by rw [hyj, s1, s2])⟩
          · rcases (hi.live id _ hCr).ds hds0 with ⟨g1, _⟩ | ⟨b2, o2, N2, arr, g1, g2, g3, g4, g5, g6⟩
            · rw [g1] at hat; cases hat
            rw [g1] at hat
            injection hat with hat; injection hat with e1 e2; injection e2 with e2 e3
            subst e1; subst e2; subst e3
            rw [hrt] at g3
            refine ⟨some (b2, o2 + off * sz P u, N2), ⟨c, arr, rfl, hc, hl, ?_, by rw [Nat.add_mul] at hfit; omega, g3, g4, fun j d hj => ?_⟩, fun b hb => ?_, .inl (by rw [hyj, s1, s2])⟩
            · rcases hi.own id _ b2 _ _ hCr g1 with h9 | h9
              · exact h9
              · rcases hbs with hbs | hbs
                · exact absurd h9 (hbs id (by simp) _ _ _ _ hCr g1)
                · simp [lists] at hbs
            · have hjl := (List.getElem?_eq_some_iff.mp hj).1
              rw [hl] at hjl
              have hmem : d ∈ (ds0.drop (off * sz P u)).take (len * sz P u) := List.mem_of_getElem? hj
              rw [List.getElem?_take_of_lt hjl, List.getElem?_drop] at hj
              obtain ⟨x, k1, k2⟩ := g6 _ d hj
              exact ⟨x, by rw [Nat.add_assoc]; exact k1, scalar_any (hsc d hmem) k2⟩
            · simp at hb
              subst hb
              exact ⟨id, by simp, row, _, _, hCr, g1⟩
      obtain ⟨ob, o1, o2, o3⟩ := key
      refine ⟨ob :: bs, by unfold resL; exact ⟨o1, b1⟩, ?_, fun b hb => ?_, o3, b4⟩
      · cases ob with
        | none => simpa [blocks] using b2
        | some x =>
          simp only [blocks, List.filterMap_cons, Option.map_some, List.nodup_cons]
          refine ⟨fun hm => ?_, b2⟩
          obtain ⟨id, q1, row, o, N, q2, q3⟩ := o2 x.1 rfl
          obtain ⟨id', q4, row', o', N', q5, q6⟩ := b3 x.1 hm
          obtain rfl := hi.apart id id' row row' x.1 o N o' N' q2 q5 q3 q6
          exact disj_spec hdis q1 q4
      · cases ob with
        | none =>
          obtain ⟨id, q1, q2⟩ := b3 b (by simpa [blocks] using hb)
          exact ⟨id, List.mem_append_right _ q1, q2⟩
        | some x =>
          simp only [blocks, List.filterMap_cons, Option.map_some, List.mem_cons] at hb
          rcases hb with rfl | hb
          · obtain ⟨id, q1, q2⟩ := o2 x.1 rfl
            exact ⟨id, List.mem_append_left _ q1, q2⟩
          · obtain ⟨id, q1, q2⟩ := b3 b hb
            exact ⟨id, List.mem_append_right _ q1, q2⟩
theorem resV_sound {σ : St} (hr : Rel P w0 κ σ a w) {r : ResultVar} {ns : List Prop} {x : V1} (h : resV P σ r = some (ns, x)) (hn : all_ ns) : ∃ v, (Typ.resF a.tmps r).run P w = .ok v w ∧ gV1 P κ x v := by
  have hc : ∀ t, gAV P κ (σ.tmps.getD t anyV) (a.tmps.getD t undef) := fun t => by
    rw [List.getD_eq_getElem?_getD]
    cases hl : σ.tmps[t]? with
    | none => trivial
    | some av =>
      obtain ⟨v, h1, h2⟩ := hr.t.vals t av hl
      rw [Array.getD_eq_getD_getElem?, h1]
      exact h2
  cases r with
  | tmp t =>
    unfold resV at h
    simp only at h
    split at h <;> try (cases h; done)
    rename_i y hy
    injection h with h; injection h with e1 e2
    subst e2
    have := unl_sound (hc t)
    rw [hy] at this
    exact ⟨_, rfl, this⟩
  | cell b t =>
    unfold resV at h
    simp only at h
    split at h <;> try (cases h; done)
    rename_i ns' y hy
    injection h with h; injection h with e1 e2
    subst e1; subst e2
    obtain ⟨ad, v, h1, h2, h3, _⟩ := s_load0 (ρ := fun _ => a.tmps.getD b undef) (e := fun _ => σ.tmps.getD b anyV) hr.inv (fun _ => hc b) (fun _ _ h => h) hy hn
    refine ⟨v, ?_, h3⟩
    show (do loadVar t (← asAddr (a.tmps.getD b undef)) : Sem Value).run P w = _
    rw [h1]
    simp [asAddr, h2]
theorem resVs_sound {σ : St} (hr : Rel P w0 κ σ a w) : ∀ {rs : List ResultVar} {ns : List Prop} {xs : List V1}, resVs P σ rs = some (ns, xs) → all_ ns →
    ∃ vs : List Value, (rs.mapM (Typ.resF a.tmps)).run P w = .ok vs w ∧ gV1s P κ xs vs
  | [], ns, xs, h, _ => by injection h with h; injection h with e1 e2; subst e2; exact ⟨[], rfl, trivial⟩
  | r :: rs, ns, xs, h, hn => by
    unfold resVs at h
    split at h <;> try (cases h; done)
    rename_i n1 x n2 l hx hl
    injection h with h; injection h with e1 e2
    subst e1; subst e2
    obtain ⟨hn1, hn2⟩ := all_append hn
    obtain ⟨v, h1, h2⟩ := resV_sound hr hx hn1
    obtain ⟨vs, h3, h4⟩ := resVs_sound hr hl hn2
    refine ⟨v :: vs, ?_, h2, h4⟩
    rw [List.mapM_cons, Sem.run_bind, h1]
    simp only [Result.andThen_ok, Sem.run_bind, h3, Sem.run_pure]
/-- What is known of the lists that came in, at the end. -/
theorem wrZ_at {g : Cs} : ∀ {i : Nat} {ks : List Kd} {ns : List Prop} {zs : List D}, wrZ P g i ks = some (ns, zs) → all_ ns → zs.length = lists ks ∧ ∀ (j t : Nat), (ltypes ks)[j]? = some t →
    ∃ row l, g (i + j) = some row ∧ row.t = t ∧ rowD row = some l ∧ zs[j]? = some (.list t (l.length / sz P t) l) ∧ l.length = l.length / sz P t * sz P t ∧ ∀ d ∈ l, d.scalar = true
  | i, [], ns, zs, h, hn => by
    unfold wrZ at h
    injection h with h; injection h with e1 e2
    subst e2
    exact ⟨rfl, fun j t hj => by simp [ltypes] at hj⟩
  | i, .list t :: ks, ns, zs, h, hn => by
    unfold wrZ at h
    split at h <;> try (cases h; done)
    rename_i row ns' zs' hrow hrec
    split at h <;> try (cases h; done)
    rename_i l hl
    split at h <;> try (cases h; done)
    rename_i hrt
    injection h with h; injection h with e1 e2
    subst e1; subst e2
    obtain ⟨⟨h1, h2⟩, hn2⟩ := hn
    obtain ⟨g1, g2⟩ := wrZ_at hrec hn2
    refine ⟨by simp [lists, g1], fun j u hj => ?_⟩
    cases j with
    | zero =>
      simp [ltypes] at hj
      subst hj
      exact ⟨row, l, hrow, hrt, hl, rfl, h1, h2⟩
    | succ j =>
      obtain ⟨row', l', k1, k2⟩ := g2 j u (by simpa [ltypes] using hj)
      exact ⟨row', l', by rw [show i + (j + 1) = i + 1 + j by omega]; exact k1, by simpa using k2⟩
  | i, .int k :: ks, ns, zs, h, hn => wrZ_at (ks := ks) (i := i) h hn
  | i, .bool :: ks, ns, zs, h, hn => wrZ_at (ks := ks) (i := i) h hn
  | i, .str :: ks, ns, zs, h, hn => wrZ_at (ks := ks) (i := i) h hn
/-- What a function yields, in each way of treating lists. -/
def RetQ (P : Program) (md : Md) (pts : List Nat) (κ : Kr) (C : Cs) (w0 : Bs) (w : World) (rts : List Nat) (Q : List D → Prop) (v : Value) : Prop :=
  match md with
  | .wr => ∃ ys zs rk pk, ksAll P rts = some rk ∧ ksAll P pts = some pk ∧ Q (ys ++ zs) ∧ lists rk = 0 ∧ ys.length = rk.length ∧ ResOk P w0.w w rts ys v ∧ zs.length = lists pk ∧ ∀ (j t : Nat), (ltypes pk)[j]? = some t →
      ∃ row l, C j = some row ∧ row.t = t ∧ rowD row = some l ∧ zs[j]? = some (.list t (l.length / sz P t) l) ∧ l.length = l.length / sz P t * sz P t ∧ ∀ d ∈ l, d.scalar = true
  | md => w0.bs = [] → ∃ ys, Q ys ∧ ResB P md w0.zz w0.w w rts ys v
/-- The end of a function. -/
theorem ret_sound {md : Md} {fn : Func} {pts rts : List Nat} {σ : St} (h : (retT P md pts rts fn.results.toList σ).holds F J Q) (hr : Rel P w0 κ σ a w) :
    a.defers = [] ∧ ∃ v, (results fn a.tmps).run P w = .ok v w ∧ RetQ P md pts κ (cs σ.H) w0 w rts Q v := by
  refine ⟨hr.t.defers, ?_⟩
  unfold retT at h
  split at h <;> try (exact h.elim)
  rename_i n1 xs rk pk hxs hrk hpk
  split at h <;> try (exact h.elim)
  rename_i as has
  split at h <;> try (exact h.elim)
  rename_i n2 ds ids hret
  obtain ⟨hn, hQ⟩ := Tree.holds_needs h
  obtain ⟨hn1, hn2⟩ := all_append hn
  obtain ⟨vs, h1, h2⟩ := resVs_sound hr hxs hn1
  obtain ⟨cells, c1, c2⟩ := argCells_sound (P := P) (κ := κ) (vs := vs) has (by simp [h2.len]) (fun i av hi => by
    rw [List.getElem?_map] at hi
    obtain ⟨x, hx, rfl⟩ := Option.map_eq_some_iff.mp hi
    exact h2.at hx)
  have hrun : (results fn a.tmps).run P w = .ok (wrapVal vs) w := by
    have e1 : (results fn a.tmps).run P w = ((Sem.run P (fn.results.toList.mapM (Typ.resF a.tmps)) w).andThen fun x w' => Result.ok x.toArray w').andThen fun x w' => Result.ok (if h : x.size = 1 then x[0] else .tuple x) w' := by
      unfold results
      rw [Array.mapM_eq_mapM_toList]
      simp only [Sem.run_bind, Sem.run_map, Sem.run_pure]
      rfl
    rw [e1, h1]
    match vs with
    | [] => rfl
    | [v] => rfl
    | v :: u :: l => rfl
  refine ⟨wrapVal vs, hrun, ?_⟩
  unfold RetQ
  cases md with
  | rd z => unfold retB at hret; cases hret
  | op => unfold retB at hret; cases hret
  | own =>
    intro hbs
    obtain ⟨bs, b1, b2, _, b4⟩ := retL_sound hr.inv (fun _ _ h => h) [] (.inl (fun id _ row b o N _ _ => by rw [hbs]; simp [blocks])) hret hn2 c2
    exact ⟨ds, hQ, rk, cells, vs, bs, hrk, b4, c1, b2, b1, rfl⟩
  | wr =>
    unfold retB at hret
    simp only at hret
    split at hret <;> try (cases hret; done)
    rename_i m1 ds1 ids1 m2 zs hre hz
    split at hret <;> try (cases hret; done)
    rename_i hc
    injection hret with hret; injection hret with e1 e2; injection e2 with e2 e3
    subst e1; subst e2; subst e3
    obtain ⟨hm1, hm2⟩ := all_append hn2
    obtain ⟨bs, b1, b2, _, b4⟩ := retL_sound hr.inv (fun _ _ h => h) [] (.inr hc.1) hre hm1 c2
    obtain ⟨z1, z2⟩ := wrZ_at hz hm2
    exact ⟨ds1, zs, rk, pk, hrk, hpk, hQ, hc.1, hc.2, ⟨rk, cells, vs, bs, hrk, b4, c1, b2, b1, rfl⟩, z1, fun j t hj => by simpa using z2 j t hj⟩
  | fz =>
    intro hbs
    unfold retB at hret
    simp only at hret
    split at hret <;> try (cases hret; done)
    rename_i ns0 ds0 kl hfr
    split at hret <;> try (cases hret; done)
    rename_i hfit
    injection hret with hret; injection hret with e1 e2; injection e2 with e2 e3
    subst e1; subst e2; subst e3
    obtain ⟨κ', q1, q2, q3, q4, q5⟩ := frzL_sound hfr hn2 hr.inv (fun _ _ _ h => h) c2
    obtain ⟨n1', n2'⟩ := nilsTo_sound (ks := rk) q5
    obtain ⟨g1, g2, g3⟩ := fits_sels (P := P) (κ := κ') [] (nilsTo ds0 rk) rk cells hfit (by rw [n1', q4]) n2'
    refine ⟨_, hQ, rk, cells, vs, hrk, g2, c1, ?_, rfl⟩
    obtain ⟨_, _, g3'⟩ := fits_sels (P := P) (κ := ⟨fun _ => none, zNew w0.zz w0.w w⟩) [] (nilsTo ds0 rk) rk cells hfit (by rw [n1', q4]) (fun j d hj => by
      obtain ⟨v, h1, h2⟩ := n2' j d hj
      refine ⟨v, h1, gD.mono (fun b x hx => ?_) h2⟩
      show zNew w0.zz w0.w w b = some x
      unfold zNew
      split
      · rename_i hlt; exact (q3.base b hlt (by rw [hbs]; simp [blocks])).2 x hx
      · exact q3.z b x hx)
    exact g3'
end
end Go.Proofs.Ytplcdadedpbkpaa.Mini
end
section
/- Exact values: code, loops, functions. -/
namespace Go.Proofs.Ytplcdadedpbkpaa.Mini
open Go Go.RowKit
set_option linter.unusedVariables false

/-! ### What is carried round a loop -/
inductive SA where
  | any
  | kd (k : Kd)
  | sl (t id : Nat)
  | ptr (id off : Nat)
inductive SV where
  | one (s : SA)
  | agg (l : List SA)
  | skip
inductive SR where
  | gone
  | fix (t : Nat) (l : List SA)
  | sym (t : Nat)
structure Shape where
  tmps : List SV
  rows : List SR
  pin : Nat
/-- How many cells it takes. -/
def SA.n : SA → Nat
  | .kd _ => 1
  | .sl _ _ => 2
  | _ => 0
def SA.inst (xs : List D) (j : Nat) : SA → A
  | .any => .any
  | .kd k => .d (sel xs j k)
  | .sl t id => .sl t id (selI xs j).toNat (selI xs (j + 1)).toNat
  | .ptr id off => .ptr id off
def instL (xs : List D) : Nat → List SA → List A
  | _, [] => []
  | j, s :: l => s.inst xs j :: instL xs (j + s.n) l
def lenL : List SA → Nat
  | [] => 0
  | s :: l => s.n + lenL l
def SV.n : SV → Nat
  | .one s => s.n
  | .agg l => lenL l
  | .skip => 0
def SV.inst (xs : List D) (j : Nat) : SV → AV
  | .one s => .v (.one (s.inst xs j))
  | .agg l => .v (.agg (instL xs j l))
  | .skip => anyV
def instV (xs : List D) : Nat → List SV → List AV
  | _, [] => []
  | j, s :: l => s.inst xs j :: instV xs (j + s.n) l
def lenV : List SV → Nat
  | [] => 0
  | s :: l => s.n + lenV l
def SR.n : SR → Nat
  | .gone => 0
  | .fix _ l => lenL l
  | .sym _ => 1
def SR.inst (xs : List D) (j : Nat) : SR → Option Row
  | .gone => none
  | .fix t l => some (.fix t (instL xs j l))
  | .sym t => some (.sym t (selL xs j))
def instR (xs : List D) : Nat → List SR → List (Option Row)
  | _, [] => []
  | j, s :: l => s.inst xs j :: instR xs (j + s.n) l
def Shape.inst (s : Shape) (xs : List D) : St := ⟨instV xs 0 s.tmps, instR xs (lenV s.tmps) s.rows⟩

/-- The cells that a value gives to a shape; rows have other names there. -/
def SA.ex (ren : Nat → Option Nat) : SA → A → Option (List D)
  | .any, _ => some []
  | .kd k, .d d => if fitK d k = true then some [d] else none
  | .kd (.list t), .nil => some [.list t 0 []]
  | .kd .bool, .lit b => some [.bool b]
  | .sl t id, .sl t' id' off len => if t = t' ∧ ren id = some id' then some [.int .i64 off, .int .i64 len] else none
  | .sl t id, .nil => if ren id = none then some [.int .i64 0, .int .i64 0] else none
  | .ptr id off, .ptr id' off' => if off = off' ∧ ren id = some id' then some [] else none
  | _, _ => none
def exL (ren : Nat → Option Nat) : List SA → List A → Option (List D)
  | [], [] => some []
  | s :: l, a :: as => match s.ex ren a, exL ren l as with | some x, some y => some (x ++ y) | _, _ => none
  | _, _ => none
def SV.ex (ren : Nat → Option Nat) : SV → AV → Option (List D)
  | .one s, .v (.one a) => s.ex ren a
  | .agg l, .v (.agg as) => exL ren l as
  | .skip, _ => some []
  | _, _ => none
def exV (ren : Nat → Option Nat) : List SV → List AV → Option (List D)
  | [], [] => some []
  | s :: l, a :: as => match s.ex ren a, exV ren l as with | some x, some y => some (x ++ y) | _, _ => none
  | _, _ => none
/-- A row, under the name that it has now. -/
def SR.ex (ren : Nat → Option Nat) (H : List (Option Row)) (id : Nat) : SR → Option (List D)
  | .gone => some []
  | .fix t l => match ren id with
    | some id' => match cs H id' with
      | some (.fix t' as) => if t = t' then exL ren l as else none
      | _ => none
    | none => none
  | .sym t => match ren id with
    | some id' => match cs H id' with
      | some row => if row.t = t then (match rowD row with | some ds => some [.list t 0 ds] | none => none) else none
      | none => none
    | none => some [.list t 0 []]
def exR (ren : Nat → Option Nat) (H : List (Option Row)) : Nat → List SR → Option (List D)
  | _, [] => some []
  | id, s :: l => match s.ex ren H id, exR ren H (id + 1) l with | some x, some y => some (x ++ y) | _, _ => none
/-- The names of rows. -/
def SA.pairs : SA → A → List (Nat × Nat)
  | .sl _ id, .sl _ id' _ _ => [(id, id')]
  | .ptr id _, .ptr id' _ => [(id, id')]
  | _, _ => []
def pairsL : List SA → List A → List (Nat × Nat)
  | s :: l, a :: as => s.pairs a ++ pairsL l as
  | _, _ => []
def pairsV : List SV → List AV → List (Nat × Nat)
  | .one s :: l, .v (.one a) :: as => s.pairs a ++ pairsV l as
  | .agg m :: l, .v (.agg b) :: as => pairsL m b ++ pairsV l as
  | _ :: l, _ :: as => pairsV l as
  | _, _ => []
def find_ : List (Nat × Nat) → Nat → Option Nat
  | [], _ => none
  | (k, x) :: l, i => if k = i then some x else find_ l i
def pairsR (H : List (Option Row)) (ps : List (Nat × Nat)) : Nat → List SR → List (Nat × Nat)
  | _, [] => []
  | id, .fix _ l :: rs => (match find_ ps id with
    | some id' => match cs H id' with | some (.fix _ as) => pairsL l as | _ => []
    | none => []) ++ pairsR H ps (id + 1) rs
  | id, _ :: rs => pairsR H ps (id + 1) rs
def renOf (s : Shape) (σ : St) : List (Option Nat) :=
  let p1 := pairsV s.tmps σ.tmps
  let p2 := p1 ++ pairsR σ.H p1 0 s.rows
  (List.range s.rows.length).map (find_ p2)
def Shape.ex (s : Shape) (σ : St) : Option (List D) :=
  let ren := renOf s σ
  if (ren.filterMap fun x => x).Nodup ∧ (∀ i, i < s.pin → ren[i]? = some (some i)) then
    match exV (fun id => (ren[id]?).join) s.tmps σ.tmps, exR (fun id => (ren[id]?).join) σ.H 0 s.rows with
    | some x, some y => some (x ++ y)
    | _, _ => none
  else none
section
variable {P : Program} {w0 : Bs} {κ : Kr} {C : Cs} {w : World} {F : Tb} {a : Act} {J : Nat → List D → Prop} {Q : List D → Prop}
/-- Names of rows, exchanged. -/
def Kr.ren (κ : Kr) (ren : Nat → Option Nat) : Kr := ⟨fun id => (ren id).bind κ.at_, κ.z⟩
theorem ex_len {ren : Nat → Option Nat} {s : SA} {a : A} {x : List D} (h : s.ex ren a = some x) : x.length = s.n := by
  unfold SA.ex at h
  split at h <;> try (cases h; done)
  · injection h with h; subst h; rfl
  · split at h <;> try (cases h; done)
    injection h with h; subst h; rfl
  · injection h with h; subst h; rfl
  · injection h with h; subst h; rfl
  · split at h <;> try (cases h; done)
    injection h with h; subst h; rfl
  · split at h <;> try (cases h; done)
    injection h with h; subst h; rfl
  · split at h <;> try (cases h; done)
    injection h with h; subst h; rfl
theorem exL_len {ren : Nat → Option Nat} : ∀ {l : List SA} {as : List A} {x : List D}, exL ren l as = some x → x.length = lenL l ∧ l.length = as.length
  | [], [], x, h => by injection h with h; subst h; exact ⟨rfl, rfl⟩
  | s :: l, a :: as, x, h => by
    unfold exL at h
    split at h <;> try (cases h; done)
    rename_i x1 x2 h1 h2
    injection h with h; subst h
    obtain ⟨g1, g2⟩ := exL_len h2
    exact ⟨by rw [List.length_append, ex_len h1, g1]; rfl, by simp [g2]⟩
  | [], _ :: _, x, h => by cases h
  | _ :: _, [], x, h => by cases h
theorem sel_at {pre post : List D} {d : D} {k : Kd} (h : fitK d k = true) : sel (pre ++ d :: post) pre.length k = d := (fitK_sel (ds := pre ++ d :: post) (j := pre.length) (by simp) h).2
theorem selI_at {pre post : List D} {k : IntKind} {n : Int} : selI (pre ++ .int k n :: post) pre.length = n := by unfold selI; simp
theorem inst_ex {ren : Nat → Option Nat} {s : SA} {a : A} {x : List D} (h : s.ex ren a = some x) (pre post : List D) {v : Value} (hv : gA P κ a v) : gA P (κ.ren ren) (s.inst (pre ++ x ++ post) pre.length) v := by
  unfold SA.ex at h
  split at h <;> try (cases h; done)
  · trivial
  · rename_i k d
    split at h <;> try (cases h; done)
    rename_i hf
    injection h with h; subst h
    show gD P κ.z (sel _ _ k) v
    rw [List.append_assoc, List.singleton_append, sel_at hf]
    exact hv
  · rename_i t
    injection h with h; subst h
    show gD P κ.z (sel _ _ (.list t)) v
    rw [List.append_assoc, List.singleton_append, sel_at (by simp [fitK])]
    exact gD_nil (A.toD_sound (P := P) (κ := κ) (a := .nil) rfl hv)
  · rename_i b
    injection h with h; subst h
    show gD P κ.z (sel _ _ .bool) v
    rw [List.append_assoc, List.singleton_append, sel_at (by simp [fitK])]
    obtain rfl : v = .bool b := hv
    exact gbool' (P := P) (κ := κ) b
  · rename_i t id t' id' off len
    split at h <;> try (cases h; done)
    rename_i hc
    obtain ⟨rfl, hc⟩ := hc
    injection h with h; subst h
    have e1 : selI (pre ++ [.int .i64 off, .int .i64 len] ++ post) pre.length = off := by rw [List.append_assoc]; exact selI_at
    have e2 : selI (pre ++ [.int .i64 off, .int .i64 len] ++ post) (pre.length + 1) = len := by
      have : pre ++ [.int .i64 (off : Int), .int .i64 (len : Int)] ++ post = (pre ++ [.int .i64 (off : Int)]) ++ .int .i64 (len : Int) :: post := by simp
      rw [this, show pre.length + 1 = (pre ++ [D.int .i64 (off : Int)]).length by simp]
      exact selI_at
    show gA P (κ.ren ren) (.sl t id _ _) v
    rw [e1, e2]
    simp only [Int.toNat_natCast]
    obtain ⟨Ad, c, h1, h2, h3⟩ := hv
    exact ⟨Ad, c, h1, h2, h3.imp (fun h => h) (fun ⟨b, o, N, g1, g2⟩ => ⟨b, o, N, by unfold Kr.ren; simp only; rw [hc]; exact g1, g2⟩)⟩
  · rename_i t id
    split at h <;> try (cases h; done)
    rename_i hc
    injection h with h; subst h
    have e1 : selI (pre ++ [.int .i64 0, .int .i64 0] ++ post) pre.length = 0 := by rw [List.append_assoc]; exact selI_at
    have e2 : selI (pre ++ [.int .i64 0, .int .i64 0] ++ post) (pre.length + 1) = 0 := by
      have : pre ++ [.int .i64 0, .int .i64 0] ++ post = (pre ++ [.int .i64 0]) ++ .int .i64 0 :: post := by simp
      rw [this, show pre.length + 1 = (pre ++ [D.int .i64 0]).length by simp]
      exact selI_at
    show gA P (κ.ren ren) (.sl t id _ _) v
    rw [e1, e2]
    exact ⟨none, 0, hv, Nat.le_refl _, .inl ⟨rfl, rfl⟩⟩
  · rename_i id off id' off'
    split at h <;> try (cases h; done)
    rename_i hc
    obtain ⟨rfl, hc⟩ := hc
    obtain ⟨b, o, N, h1, h2⟩ := hv
    exact ⟨b, o, N, by unfold Kr.ren; simp only; rw [hc]; exact h1, h2⟩
theorem instL_ex {ren : Nat → Option Nat} : ∀ {l : List SA} {as : List A} {x : List D}, exL ren l as = some x → ∀ (pre post : List D) {vs : List Value}, gL P κ as vs → gL P (κ.ren ren) (instL (pre ++ x ++ post) pre.length l) vs
  | [], [], x, h, pre, post, vs, hv => by
    have : vs = [] := List.eq_nil_of_length_eq_zero hv.len.symm
    subst this
    trivial
  | s :: l, a :: as, x, h, pre, post, v :: vs, ⟨hv1, hv2⟩ => by
    unfold exL at h
    split at h <;> try (cases h; done)
    rename_i x1 x2 h1 h2
    injection h with h; subst h
    have e1 := inst_ex h1 pre (x2 ++ post) hv1
    have e2 := instL_ex h2 (pre ++ x1) post hv2
    rw [show pre ++ (x1 ++ x2) ++ post = pre ++ x1 ++ (x2 ++ post) by simp]
    refine ⟨e1, ?_⟩
    rw [List.length_append, ex_len h1, show pre ++ x1 ++ x2 ++ post = pre ++ x1 ++ (x2 ++ post) by simp] at e2
    exact e2
  | [], _ :: _, x, h, _, _, _, _ => by cases h
  | _ :: _, [], x, h, _, _, _, _ => by cases h
theorem instL_length (xs : List D) : ∀ (j : Nat) (l : List SA), (instL xs j l).length = l.length
  | _, [] => rfl
  | j, s :: l => by simp [instL, instL_length xs _ l]
theorem exSV_len {ren : Nat → Option Nat} {s : SV} {a : AV} {x : List D} (h : s.ex ren a = some x) : x.length = s.n := by
  unfold SV.ex at h
  split at h <;> try (cases h; done)
  · exact ex_len h
  · exact (exL_len h).1
  · injection h with h; subst h; rfl
theorem instSV_ex {ren : Nat → Option Nat} {s : SV} {a : AV} {x : List D} (h : s.ex ren a = some x) (pre post : List D) {v : Value} (hv : gAV P κ a v) : gAV P (κ.ren ren) (s.inst (pre ++ x ++ post) pre.length) v := by
  unfold SV.ex at h
  split at h <;> try (cases h; done)
  · exact inst_ex h pre post hv
  · obtain ⟨c, rfl, h2⟩ := hv
    exact ⟨c, rfl, instL_ex h pre post h2⟩
  · trivial
theorem instV_ex {ren : Nat → Option Nat} : ∀ {l : List SV} {as : List AV} {x : List D}, exV ren l as = some x → x.length = lenV l ∧ l.length = as.length ∧ ∀ (pre post : List D) (i : Nat) (av : AV), (instV (pre ++ x ++ post) pre.length l)[i]? = some av → ∃ a, as[i]? = some a ∧ ∀ v, gAV P κ a v → gAV P (κ.ren ren) av v
  | [], [], x, h => by injection h with h; subst h; exact ⟨rfl, rfl, fun pre post i av hi => by simp [instV] at hi⟩
  | s :: l, a :: as, x, h => by
    unfold exV at h
    split at h <;> try (cases h; done)
    rename_i x1 x2 h1 h2
    injection h with h; subst h
    obtain ⟨g1, g2, g3⟩ := instV_ex h2
    refine ⟨by rw [List.length_append, exSV_len h1, g1]; rfl, by simp [g2], fun pre post i av hi => ?_⟩
    rw [show pre ++ (x1 ++ x2) ++ post = pre ++ x1 ++ (x2 ++ post) by simp] at hi
    cases i with
    | zero =>
      simp [instV] at hi
      subst hi
      refine ⟨a, rfl, fun v hv => ?_⟩
      have := instSV_ex h1 pre (x2 ++ post) hv
      simpa using this
    | succ i =>
      have := g3 (pre ++ x1) post i av (by
        rw [List.length_append, exSV_len h1, show pre ++ x1 ++ x2 ++ post = pre ++ x1 ++ (x2 ++ post) by simp]
        simpa [instV] using hi)
      simpa using this
  | [], _ :: _, x, h => by cases h
  | _ :: _, [], x, h => by cases h
theorem instV_length (xs : List D) : ∀ (j : Nat) (l : List SV), (instV xs j l).length = l.length
  | _, [] => rfl
  | j, s :: l => by simp [instV, instV_length xs _ l]
theorem exSR_len {ren : Nat → Option Nat} {H : List (Option Row)} {id : Nat} {s : SR} {x : List D} (h : s.ex ren H id = some x) : x.length = s.n := by
  unfold SR.ex at h
  split at h
  · injection h with h; subst h; rfl
  · split at h <;> try (cases h; done)
    split at h <;> try (cases h; done)
    split at h <;> try (cases h; done)
    exact (exL_len h).1
  · split at h
    · split at h <;> try (cases h; done)
      split at h <;> try (cases h; done)
      split at h <;> try (cases h; done)
      injection h with h; subst h; rfl
    · injection h with h; subst h; rfl
/-- A row under its other name. -/
theorem instSR_ex {ren : Nat → Option Nat} {H : List (Option Row)} (hi : Inv P w0 κ (cs H) w) {id : Nat} {s : SR} {x : List D} (h : s.ex ren H id = some x) (pre post : List D) {row : Row} (hr : s.inst (pre ++ x ++ post) pre.length = some row) :
    RowIn P (κ.ren ren) w id row ∧ ∀ b o N, (κ.ren ren).at_ id = some (b, o, N) → ∃ id' row', ren id = some id' ∧ cs H id' = some row' ∧ κ.at_ id' = some (b, o, N) := by
  have hat : ∀ id', ren id = some id' → (κ.ren ren).at_ id = κ.at_ id' := fun id' he => by unfold Kr.ren; simp only; rw [he]; rfl
  have hnat : ren id = none → (κ.ren ren).at_ id = none := fun he => by unfold Kr.ren; simp only; rw [he]; rfl
  have done : ∀ id' row', ren id = some id' → cs H id' = some row' → ∀ b o N, (κ.ren ren).at_ id = some (b, o, N) → ∃ id' row', ren id = some id' ∧ cs H id' = some row' ∧ κ.at_ id' = some (b, o, N) :=
    fun id' row' h1 h2 b o N h3 => ⟨id', row', h1, h2, by rw [← hat id' h1]; exact h3⟩
  unfold SR.ex at h
  split at h
  · cases hr
  · rename_i t l
    split at h <;> try (cases h; done)
    rename_i id' hren
    split at h <;> try (cases h; done)
    rename_i t' as hrow
    split at h <;> try (cases h; done)
    rename_i ht
    subst ht
    injection hr with hr
    subst hr
    refine ⟨?_, done id' _ hren hrow⟩
    have hlen := (exL_len h).2
    rcases hi.live id' _ hrow with ⟨g1, g2⟩ | ⟨b, o, N, arr, g1, g2, g3, g4, g5, g6⟩
    · refine .inl ⟨by rw [hat id' hren]; exact g1, ?_⟩
      change as = [] at g2
      show instL _ _ l = []
      subst g2
      have : l = [] := List.eq_nil_of_length_eq_zero (by simpa using hlen)
      subst this
      rfl
    · refine .inr ⟨b, o, N, arr, by rw [hat id' hren]; exact g1, g2, g3, g4, by show o + (instL _ _ l).length ≤ N; rw [instL_length, hlen]; exact g5, fun j a' hj => ?_⟩
      change (instL (pre ++ x ++ post) pre.length l)[j]? = some a' at hj
      have hjl : j < l.length := by have := (List.getElem?_eq_some_iff.mp hj).1; rwa [instL_length] at this
      -- the values of the row
      have hvals : gL P κ as ((List.range as.length).map fun j => (arr[o + j]?).getD undef) := by
        refine gL.of (by simp) (fun q aq hq => ?_)
        obtain ⟨y, k1, k2⟩ := g6 q aq hq
        have hql := (List.getElem?_eq_some_iff.mp hq).1
        exact ⟨y, by simp [hql, k1], k2⟩
      obtain ⟨v, k1, k2⟩ := (instL_ex h pre post hvals).at hj
      have hja : j < as.length := by omega
      obtain ⟨y, k3, _⟩ := g6 j as[j] (List.getElem?_eq_getElem hja)
      refine ⟨v, ?_, k2⟩
      simp [hja, k3] at k1
      rw [k3, k1]
  · rename_i t
    injection hr with hr
    subst hr
    split at h
    · rename_i id' hren
      split at h <;> try (cases h; done)
      rename_i row' hrow
      split at h <;> try (cases h; done)
      rename_i ht
      split at h <;> try (cases h; done)
      rename_i ds hds
      injection h with h; subst h
      have e1 : selL (pre ++ [.list t 0 ds] ++ post) pre.length = ds := by unfold selL; simp
      refine ⟨?_, done id' _ hren hrow⟩
      show RowIn P _ w id (.sym t (selL _ _))
      rw [e1]
      rcases (hi.live id' _ hrow).ds hds with ⟨g1, g2⟩ | ⟨b, o, N, arr, g1, g2, g3, g4, g5, g6⟩
      · exact .inl ⟨by rw [hat id' hren]; exact g1, by rw [g2]; rfl⟩
      · refine .inr ⟨b, o, N, arr, by rw [hat id' hren]; exact g1, g2, by rw [ht] at g3; exact g3, g4, by simp [Row.as]; exact g5, fun j a' hj => ?_⟩
        simp only [Row.as, List.getElem?_map] at hj
        obtain ⟨d, hd, rfl⟩ := Option.map_eq_some_iff.mp hj
        obtain ⟨y, k1, k2⟩ := g6 j d hd
        exact ⟨y, k1, k2⟩
    · rename_i hren
      injection h with h; subst h
      have e1 : selL (pre ++ [.list t 0 []] ++ post) pre.length = [] := by unfold selL; simp
      refine ⟨?_, fun b o N hb => by rw [hnat hren] at hb; cases hb⟩
      show RowIn P _ w id (.sym t (selL _ _))
      rw [e1]
      exact .inl ⟨hnat hren, rfl⟩
theorem instR_ex {ren : Nat → Option Nat} {H : List (Option Row)} (hi : Inv P w0 κ (cs H) w) : ∀ {l : List SR} {id : Nat} {x : List D}, exR ren H id l = some x → ∀ (pre post : List D) (i : Nat) (row : Row), ((instR (pre ++ x ++ post) pre.length l)[i]?).join = some row →
    RowIn P (κ.ren ren) w (id + i) row ∧ ∀ b o N, (κ.ren ren).at_ (id + i) = some (b, o, N) → ∃ id' row', ren (id + i) = some id' ∧ cs H id' = some row' ∧ κ.at_ id' = some (b, o, N)
  | [], id, x, h, pre, post, i, row, hr => by simp [instR] at hr
  | s :: l, id, x, h, pre, post, i, row, hr => by
    unfold exR at h
    split at h <;> try (cases h; done)
    rename_i x1 x2 h1 h2
    injection h with h; subst h
    rw [show pre ++ (x1 ++ x2) ++ post = pre ++ x1 ++ (x2 ++ post) by simp] at hr
    cases i with
    | zero =>
      simp only [instR, List.getElem?_cons_zero, Option.join_some] at hr
      exact instSR_ex hi h1 pre (x2 ++ post) hr
    | succ i =>
      simp only [instR, List.getElem?_cons_succ] at hr
      have := instR_ex hi h2 (pre ++ x1) post i row (by
        rw [List.length_append, exSR_len h1, show pre ++ x1 ++ x2 ++ post = pre ++ x1 ++ (x2 ++ post) by simp]
        exact hr)
      rw [show id + (i + 1) = id + 1 + i by omega]
      exact this
theorem instR_length (xs : List D) : ∀ (j : Nat) (l : List SR), (instR xs j l).length = l.length
  | _, [] => rfl
  | j, s :: l => by simp [instR, instR_length xs _ l]
/-- At the head of a loop. -/
theorem Shape.ex_sound {s : Shape} {σ : St} {xs : List D} (hpin : w0.bs.length ≤ s.pin) (h : s.ex σ = some xs) (hr : Rel P w0 κ σ a w) : ∃ κ', Rel P w0 κ' (s.inst xs) a w := by
  unfold Shape.ex at h
  simp only at h
  split at h <;> try (cases h; done)
  rename_i hnd
  obtain ⟨hnd, hpi⟩ := hnd
  split at h <;> try (cases h; done)
  rename_i x y hx hy
  injection h with h; subst h
  generalize hren : renOf s σ = rl at hnd hx hy hpi
  have hrl : rl.length = s.rows.length := by rw [← hren]; simp [renOf]
  obtain ⟨g1, g2, g3⟩ := instV_ex (P := P) (κ := κ) hx
  have g4 := fun (i : Nat) (av : AV) (hi : (instV (x ++ y) 0 s.tmps)[i]? = some av) => g3 [] y i av (by simpa using hi)
  have g5 := fun (i : Nat) (row : Row) (hi : ((instR (x ++ y) (lenV s.tmps) s.rows)[i]?).join = some row) => instR_ex hr.inv hy x [] i row (by rw [g1, List.append_nil]; exact hi)
  refine ⟨κ.ren fun id => (rl[id]?).join, ⟨hr.t.defers, by rw [hr.t.size, ← g2]; show s.tmps.length = (instV _ _ s.tmps).length; rw [instV_length], fun i av hi => ?_⟩, ⟨hr.inv.os, hr.inv.tape, hr.inv.output, hr.inv.size, hr.inv.base, hr.inv.z, fun id row hrow => ?_, fun id id' row row' b o N o' N' h1 h2 h3 h4 => ?_, fun id row b o N h1 h3 => ?_⟩, fun id hid => ?_, fun i b o N h9 => ?_⟩
  · obtain ⟨a', k1, k2⟩ := g4 i av hi
    obtain ⟨v, k3, k4⟩ := hr.t.vals i a' k1
    exact ⟨v, k3, k2 v k4⟩
  · have := (g5 id row hrow).1
    rw [Nat.zero_add] at this
    exact this
  · obtain ⟨u, r1, q1, q2, q3⟩ := (g5 id row h1).2 b o N (by rw [Nat.zero_add]; exact h3)
    obtain ⟨u', r2, q4, q5, q6⟩ := (g5 id' row' h2).2 b o' N' (by rw [Nat.zero_add]; exact h4)
    rw [Nat.zero_add] at q1 q4
    obtain rfl := hr.inv.apart u u' r1 r2 b o N o' N' q2 q5 q3 q6
    -- the names are different
    have key : ∀ {l : List (Option Nat)}, (l.filterMap fun x => x).Nodup → ∀ {i j : Nat}, l[i]? = some (some u) → l[j]? = some (some u) → i = j := by
      intro l
      induction l with
      | nil => intro _ i j hi; simp at hi
      | cons o l ih =>
        intro hn i j hi hj
        have hmem : ∀ {k : Nat}, l[k]? = some (some u) → u ∈ l.filterMap fun x => x := fun hk => List.mem_filterMap.mpr ⟨some u, List.mem_of_getElem? hk, rfl⟩
        cases o with
        | none =>
          have hn' : (l.filterMap fun x => x).Nodup := by simpa using hn
          cases i with
          | zero => simp at hi
          | succ i => cases j with
            | zero => simp at hj
            | succ j => exact congrArg (· + 1) (ih hn' (by simpa using hi) (by simpa using hj))
        | some z =>
          have hn' : z ∉ (l.filterMap fun x => x) ∧ (l.filterMap fun x => x).Nodup := by simpa using hn
          cases i with
          | zero =>
            simp at hi
            subst hi
            cases j with
            | zero => rfl
            | succ j => exact absurd (hmem (by simpa using hj)) hn'.1
          | succ i => cases j with
            | zero =>
              simp at hj
              subst hj
              exact absurd (hmem (by simpa using hi)) hn'.1
            | succ j => exact congrArg (· + 1) (ih hn'.2 (by simpa using hi) (by simpa using hj))
    have un : ∀ {i : Nat}, (rl[i]?).join = some u → rl[i]? = some (some u) := fun {i} hi => by
      cases h9 : rl[i]? with
      | none => rw [h9] at hi; cases hi
      | some o => rw [h9] at hi; simp at hi; rw [hi]
    exact key hnd (un q1) (un q4)
  · obtain ⟨u, r1, q1, q2, q3⟩ := (g5 id row h1).2 b o N (by rw [Nat.zero_add]; exact h3)
    exact hr.inv.own u r1 b o N q2 q3
  · have hlen : (instR (x ++ y) (lenV s.tmps) s.rows).length = s.rows.length := instR_length _ _ _
    have hid' : s.rows.length ≤ id := by rw [← hlen]; exact hid
    unfold Kr.ren
    simp only
    rw [List.getElem?_eq_none (by omega)]
    rfl
  · have hlt : i < w0.bs.length := (List.getElem?_eq_some_iff.mp h9).1
    show (rl[i]?).join.bind κ.at_ = _
    rw [hpi i (by omega)]
    exact hr.pin i b o N h9
end
end Go.Proofs.Ytplcdadedpbkpaa.Mini
end
section
/- Exact values: code. -/
namespace Go.Proofs.Ytplcdadedpbkpaa.Mini
open Go Go.RowKit
set_option linter.unusedVariables false

inductive Ex where
  | norm
  | exit (id : Nat)
  | ret
def Ex.to : Ex → Exit
  | .norm => .normal
  | .exit id => .exit id
  | .ret => .ret
abbrev Kc := Ex → St → Tree
/-- Where the walk stops for good: a place in the code (innermost turn first) and what is carried there. -/
abbrev Hds := List (List Bool × Shape)
def findH (hs : Hds) (p : List Bool) : Option (Nat × Shape) := go hs 0 where
  go : Hds → Nat → Option (Nat × Shape)
  | [], _ => none
  | (q, s) :: l, i => if q = p then some (i, s) else go l (i + 1)
def gotoH (h : Nat) (s : Shape) (σ : St) : Tree := match s.ex σ with | some xs => .goto h xs | none => .fail
def thenK (f : St → Tree) (K : Kc) : Kc := fun e σ => match e with | .norm => f σ | e => K e σ
def blockK (id : Nat) (K : Kc) : Kc := fun e σ => match e with | .exit id' => if id' = id then K .norm σ else K (.exit id') σ | e => K e σ
def evalC (tmps : List AV) : Operand → AV
  | .tmp t => tmps.getD t anyV
  | .const (.bool b) => lit b
  | _ => anyV
def knownC (σ : St) (c : Operand) (b : Bool) : St := match c with | .tmp t => ⟨σ.tmps.set t (lit b), σ.H⟩ | _ => σ
section
variable (P : Program) (F : Tb) (hs : Hds)
/-- Code from here on; what comes behind it is `K`. -/
def sx0 : List Bool → Code → St → Kc → Tree
  | p, .skip, σ, K => K .norm σ
  | p, .label _, σ, K => K .norm σ
  | p, .exit id, σ, K => K (.exit id) σ
  | p, .ret, σ, K => K .ret σ
  | p, .region _ ops draw, σ, K => sxRegion P F ops.toList draw σ (K .norm)
  | p, .seq x y, σ, K => 
    let fy := fun σ1 => match findH hs (true :: p) with | some (h, s) => gotoH h s σ1 | none => sx0 (true :: p) y σ1 K
    match findH hs (false :: p) with
    | some (h, s) => gotoH h s σ
    | none => sx0 (false :: p) x σ (thenK fy K)
  | p, .cond c x y, σ, K => match litB (evalC σ.tmps c) with
    | some true => (match findH hs (false :: p) with | some (h, s) => gotoH h s σ | none => sx0 (false :: p) x σ K)
    | some false => (match findH hs (true :: p) with | some (h, s) => gotoH h s σ | none => sx0 (true :: p) y σ K)
    | none => match anyB (evalC σ.tmps c) with
    | some b => .ite b (match findH hs (false :: p) with | some (h, s) => gotoH h s (knownC σ c true) | none => sx0 (false :: p) x (knownC σ c true) K)
        (match findH hs (true :: p) with | some (h, s) => gotoH h s (knownC σ c false) | none => sx0 (true :: p) y (knownC σ c false) K)
    | none => .fail
  | p, .block id x, σ, K => match findH hs (false :: p) with
    | some (h, s) => gotoH h s σ
    | none => sx0 (false :: p) x σ (blockK id K)
  | _, _, _, _ => .fail
def sx (p : List Bool) (c : Code) (σ : St) (K : Kc) : Tree := match findH hs p with | some (h, s) => gotoH h s σ | none => sx0 P F hs p c σ K
def child : Code → Bool → Option Code
  | .seq x _, false => some x
  | .seq _ y, true => some y
  | .cond _ x _, false => some x
  | .cond _ _ y, true => some y
  | .block _ x, false => some x
  | .loop x, false => some x
  | _, _ => none
def sub (body : Code) : List Bool → Option Code
  | [] => some body
  | b :: p => (sub body p).bind fun c => child c b
/-- What comes behind a place. -/
def kont (body : Code) (K0 : Kc) : List Bool → Kc
  | [] => K0
  | b :: p => match sub body p, b with
    | some (.seq _ y), false => thenK (fun σ => sx P F hs (true :: p) y σ (kont body K0 p)) (kont body K0 p)
    | some (.block id _), _ => blockK id (kont body K0 p)
    | some (.loop _), _ => thenK (fun σ => match findH hs p with | some (h, s) => gotoH h s σ | none => .fail) (kont body K0 p)
    | _, _ => kont body K0 p
/-- The tree of a place. -/
def headT (body : Code) (K0 : Kc) (p : List Bool) (σ : St) : Tree := match sub body p with
  | some (.loop c) => sx P F hs (false :: p) c σ (kont P F hs body K0 (false :: p))
  | some c => sx0 P F hs p c σ (kont P F hs body K0 p)
  | none => .fail
end
/-- A loop's round begins. -/
def loopWp (P : Program) (c : Code) (Q : Exit → Act → World → Prop) (a : Act) (w : World) : Prop :=
  ∀ (b : Frame) (k : List Item) (cs : List Frame), ∃ e a' w', Q e a' w' ∧ Arrives P (lone (b.at a (.code c :: .inLoop c :: k)) cs w) b k cs e a' w'
def qont (P : Program) (body : Code) (Q0 : Exit → Act → World → Prop) : List Bool → Exit → Act → World → Prop
  | [] => Q0
  | b :: p => match sub body p, b with
    | some (.seq _ y), false => Exit.then (y.wp P (qont P body Q0 p)) (qont P body Q0 p)
    | some (.block id _), _ => Exit.inBlock id (qont P body Q0 p)
    | some (.loop c), _ => Exit.then (loopWp P c (qont P body Q0 p)) (qont P body Q0 p)
    | _, _ => qont P body Q0 p
/-- The code at a place does as said. -/
def AtP (P : Program) (body : Code) (Q0 : Exit → Act → World → Prop) (p : List Bool) (a : Act) (w : World) : Prop := match sub body p with
  | some (.loop c) => loopWp P c (qont P body Q0 p) a w
  | some c => c.wp P (qont P body Q0 p) a w
  | none => False
section
variable {P : Program} {w0 : Bs} {κ : Kr} {w : World} {F : Tb} {a : Act} {J : Nat → List D → Prop} {Q : List D → Prop} {hs : Hds} {body : Code} {Q0 : Exit → Act → World → Prop}
theorem qont_cons (b : Bool) (p : List Bool) : qont P body Q0 (b :: p) = match sub body p, b with
    | some (.seq _ y), false => Exit.then (y.wp P (qont P body Q0 p)) (qont P body Q0 p)
    | some (.block id _), _ => Exit.inBlock id (qont P body Q0 p)
    | some (.loop c), _ => Exit.then (loopWp P c (qont P body Q0 p)) (qont P body Q0 p)
    | _, _ => qont P body Q0 p := rfl
theorem loopWp_of {c : Code} {Q : Exit → Act → World → Prop} (h : c.wp P (Exit.then (loopWp P c Q) Q) a w) : loopWp P c Q a w := by
  intro b k cs
  obtain ⟨e, a₁, w₁, hq, harr⟩ := h b (.inLoop c :: k) cs
  cases e with
  | normal =>
    obtain ⟨e₂, a₂, w₂, hq₂, harr₂⟩ := hq b k cs
    exact ⟨e₂, a₂, w₂, hq₂, .of_steps (Steps.trans harr (.one step_inLoop)) harr₂⟩
  | exit id => exact ⟨_, a₁, w₁, hq, .pass (x := .inLoop c) rfl (fun _ _ => .inl (by simp)) harr⟩
  | goto l => exact ⟨_, a₁, w₁, hq, .pass (x := .inLoop c) rfl (fun _ _ => .inl (by simp)) harr⟩
  | ret => exact ⟨_, a₁, w₁, hq, .pass (x := .inLoop c) rfl (fun _ _ => .inl (by simp)) harr⟩
  | panic ch => exact ⟨_, a₁, w₁, hq, .pass (x := .inLoop c) rfl (fun _ _ => .inl (by simp)) harr⟩
  | outgrown => exact ⟨_, a₁, w₁, hq, .pass (x := .inLoop c) rfl (fun _ _ => .inl (by simp)) harr⟩
theorem wp_of_loopWp {c : Code} {Q : Exit → Act → World → Prop} (h : loopWp P c Q a w) : (Code.loop c).wp P Q a w := by
  intro b k cs
  obtain ⟨e, a', w', hq, harr⟩ := h b k cs
  exact ⟨e, a', w', hq, .of_steps (.one step_loop) harr⟩
theorem wp_of_at {p : List Bool} {c : Code} (hc : sub body p = some c) (h : AtP P body Q0 p a w) : c.wp P (qont P body Q0 p) a w := by
  unfold AtP at h
  rw [hc] at h
  cases c <;> first | exact h | exact wp_of_loopWp h
/-- What a place's number stands for. -/
def HOk (P : Program) (w0 : Bs) (hs : Hds) (J : Nat → List D → Prop) (body : Code) (Q0 : Exit → Act → World → Prop) : Prop :=
  ∀ (p : List Bool) (h : Nat) (s : Shape), findH hs p = some (h, s) → w0.bs.length ≤ s.pin ∧ ∀ xs, J h xs → ∀ κ a w, Rel P w0 κ (s.inst xs) a w → AtP P body Q0 p a w
theorem goto_sound {p : List Bool} {h : Nat} {s : Shape} {σ : St} {c : Code} (hJ : HOk P w0 hs J body Q0) (hf : findH hs p = some (h, s)) (hc : sub body p = some c) (ht : (gotoH h s σ).holds F J Q) (hr : Rel P w0 κ σ a w) : AtP P body Q0 p a w := by
  unfold gotoH at ht
  split at ht <;> try (exact ht.elim)
  rename_i xs hx
  obtain ⟨κ', hr'⟩ := Shape.ex_sound (hJ p h s hf).1 hx hr
  exact (hJ p h s hf).2 xs ht κ' a w hr'
/-- The continuation is right. -/
def KOk (P : Program) (w0 : Bs) (F : Tb) (J : Nat → List D → Prop) (Q : List D → Prop) (K : Kc) (Qe : Exit → Act → World → Prop) : Prop :=
  ∀ (e : Ex) (σ : St) (κ : Kr) (a : Act) (w : World), (K e σ).holds F J Q → Rel P w0 κ σ a w → Qe e.to a w
theorem KOk.then {K : Kc} {Qe : Exit → Act → World → Prop} (h : KOk P w0 F J Q K Qe) {f : St → Tree} {G : Act → World → Prop} (hf : ∀ σ κ a w, (f σ).holds F J Q → Rel P w0 κ σ a w → G a w) : KOk P w0 F J Q (thenK f K) (Exit.then G Qe) := by
  intro e σ κ a w ht hr
  cases e with
  | norm => exact hf σ κ a w ht hr
  | exit id => exact h (.exit id) σ κ a w ht hr
  | ret => exact h .ret σ κ a w ht hr
theorem KOk.block {K : Kc} {Qe : Exit → Act → World → Prop} (h : KOk P w0 F J Q K Qe) (id : Nat) : KOk P w0 F J Q (blockK id K) (Exit.inBlock id Qe) := by
  intro e σ κ a w ht hr
  cases e with
  | norm => exact h .norm σ κ a w ht hr
  | exit id' =>
    show (if id' = id then Qe .normal a w else Qe (.exit id') a w)
    have ht' : (if id' = id then K .norm σ else K (.exit id') σ).holds F J Q := ht
    split at ht' <;> rename_i hid
    · rw [if_pos hid]; exact h .norm σ κ a w ht' hr
    · rw [if_neg hid]; exact h (.exit id') σ κ a w ht' hr
  | ret => exact h .ret σ κ a w ht hr
theorem evalC_at {σ : St} (hr : Rel P w0 κ σ a w) (c : Operand) : gAV P κ (evalC σ.tmps c) (a.eval c) := by
  cases c with
  | tmp t =>
    unfold evalC
    simp only
    rw [List.getD_eq_getElem?_getD]
    cases hl : σ.tmps[t]? with
    | none => trivial
    | some x =>
      obtain ⟨v, h2, h3⟩ := hr.t.vals t _ hl
      show gAV P κ x (a.tmps.getD t undef)
      rw [Array.getD_eq_getD_getElem?, h2]
      exact h3
  | const v =>
    cases v with
    | bool x => exact rfl
    | _ => exact trivial
  | global g => exact trivial
  | func f => exact trivial
theorem evalC_lit {σ : St} (hr : Rel P w0 κ σ a w) {c : Operand} {b : Bool} (h : litB (evalC σ.tmps c) = some b) : a.eval c = .bool b := by
  have := evalC_at hr c
  rw [litB_spec h] at this
  exact glit this
theorem evalC_sound {σ : St} (hr : Rel P w0 κ σ a w) {c : Operand} {b : Bool} (h : anyB (evalC σ.tmps c) = some b) : a.eval c = .bool b ∧ Rel P w0 κ (knownC σ c b) a w := by
  refine ⟨?_, ?_⟩
  · have := evalC_at hr c
    rw [anyB_spec h] at this
    exact gbool this
  · cases c with
    | tmp t => exact hr.known h
    | _ => exact hr
theorem sx0_sound (hF : FnsOk P F) (hm : P.follows .mixedOrders = true) (hJ : HOk P w0 hs J body Q0) : ∀ (c : Code) (p : List Bool) (σ : St) (K : Kc) (κ : Kr) (a : Act) (w : World), (sx0 P F hs p c σ K).holds F J Q → Rel P w0 κ σ a w → sub body p = some c →
    KOk P w0 F J Q K (qont P body Q0 p) → c.wp P (qont P body Q0 p) a w := by
  intro c
  have viaH : ∀ (x : Code) (p : List Bool) (σ : St) (K : Kc) (κ : Kr) (a : Act) (w : World), sub body p = some x →
      (match findH hs p with | some (h, s) => gotoH h s σ | none => sx0 P F hs p x σ K).holds F J Q → Rel P w0 κ σ a w →
      ((sx0 P F hs p x σ K).holds F J Q → x.wp P (qont P body Q0 p) a w) → x.wp P (qont P body Q0 p) a w := by
    intro x p σ K κ a w hx h hr hK
    split at h
    · rename_i hh s hf
      exact wp_of_at hx (goto_sound hJ hf hx h hr)
    · exact hK h
  induction c with
  | skip => exact fun p σ K κ a w h hr hc hK => wp_skip (hK .norm σ κ a w h hr)
  | label l => exact fun p σ K κ a w h hr hc hK => wp_label (hK .norm σ κ a w h hr)
  | exit id => exact fun p σ K κ a w h hr hc hK => wp_exit (hK (.exit id) σ κ a w h hr)
  | ret => exact fun p σ K κ a w h hr hc hK => wp_ret (hK .ret σ κ a w h hr)
  | region id ops draw => exact fun p σ K κ a w h hr hc hK => region_sound hF hm h hr fun κ' σ' a' w' _ hr' h' => hK .norm σ' κ' a' w' h' hr'
  | seq x y ihx ihy =>
    intro p σ K κ a w h hr hc hK
    have hx : sub body (false :: p) = some x := by unfold sub; rw [hc]; rfl
    have hy : sub body (true :: p) = some y := by unfold sub; rw [hc]; rfl
    have qx : qont P body Q0 (false :: p) = Exit.then (y.wp P (qont P body Q0 p)) (qont P body Q0 p) := by rw [qont_cons, hc]
    have qy : qont P body Q0 (true :: p) = qont P body Q0 p := by rw [qont_cons, hc]
    apply wp_seq
    rw [← qx]
    unfold sx0 at h
    simp only at h
    refine viaH x (false :: p) σ _ κ a w hx h hr fun h => ihx (false :: p) σ _ κ a w h hr hx ?_
    rw [qx]
    refine hK.then fun σ1 κ1 a1 w1 h1 hr1 => ?_
    rw [← qy]
    refine viaH y (true :: p) σ1 K κ1 a1 w1 hy h1 hr1 fun h2 => ihy (true :: p) σ1 K κ1 a1 w1 h2 hr1 hy ?_
    rw [qy]; exact hK
  | cond c x y ihx ihy =>
    intro p σ K κ a w h hr hc hK
    have hx : sub body (false :: p) = some x := by unfold sub; rw [hc]; rfl
    have hy : sub body (true :: p) = some y := by unfold sub; rw [hc]; rfl
    have qx : qont P body Q0 (false :: p) = qont P body Q0 p := by rw [qont_cons, hc]
    have qy : qont P body Q0 (true :: p) = qont P body Q0 p := by rw [qont_cons, hc]
    unfold sx0 at h
    split at h
    · rename_i hb
      refine wp_cond (evalC_lit hr hb) ?_
      rw [if_pos rfl, ← qx]
      exact viaH x (false :: p) _ K κ a w hx h hr fun h2 => ihx (false :: p) _ K κ a w h2 hr hx (by rw [qx]; exact hK)
    · rename_i hb
      refine wp_cond (evalC_lit hr hb) ?_
      rw [if_neg (by simp), ← qy]
      exact viaH y (true :: p) _ K κ a w hy h hr fun h2 => ihy (true :: p) _ K κ a w h2 hr hy (by rw [qy]; exact hK)
    split at h <;> try (exact h.elim)
    rename_i b hb
    obtain ⟨he, hk⟩ := evalC_sound hr hb
    refine wp_cond he ?_
    cases b with
    | true =>
      have h1 := h.1 rfl
      rw [if_pos rfl, ← qx]
      exact viaH x (false :: p) _ K κ a w hx h1 hk fun h2 => ihx (false :: p) _ K κ a w h2 hk hx (by rw [qx]; exact hK)
    | false =>
      have h1 := h.2 rfl
      rw [if_neg (by simp), ← qy]
      exact viaH y (true :: p) _ K κ a w hy h1 hk fun h2 => ihy (true :: p) _ K κ a w h2 hk hy (by rw [qy]; exact hK)
  | block id x ih =>
    intro p σ K κ a w h hr hc hK
    have hx : sub body (false :: p) = some x := by unfold sub; rw [hc]; rfl
    have qx : qont P body Q0 (false :: p) = Exit.inBlock id (qont P body Q0 p) := by rw [qont_cons, hc]
    apply wp_block
    rw [← qx]
    unfold sx0 at h
    exact viaH x (false :: p) σ _ κ a w hx h hr fun h2 => ih (false :: p) σ _ κ a w h2 hr hx (by rw [qx]; exact hK.block id)
  | loop x ih => exact fun p σ K κ a w h hr hc hK => h.elim
  | rangeFunc => exact fun p σ K κ a w h hr hc hK => h.elim
  | scope => exact fun p σ K κ a w h hr hc hK => h.elim
  | goto => exact fun p σ K κ a w h hr hc hK => h.elim
  | refuse => exact fun p σ K κ a w h hr hc hK => h.elim
theorem sx_sound (hF : FnsOk P F) (hm : P.follows .mixedOrders = true) (hJ : HOk P w0 hs J body Q0) {c : Code} {p : List Bool} {σ : St} {K : Kc} (h : (sx P F hs p c σ K).holds F J Q) (hr : Rel P w0 κ σ a w) (hc : sub body p = some c)
    (hK : KOk P w0 F J Q K (qont P body Q0 p)) : c.wp P (qont P body Q0 p) a w := by
  unfold sx at h
  split at h
  · rename_i hh s hf
    exact wp_of_at hc (goto_sound hJ hf hc h hr)
  · exact sx0_sound hF hm hJ c p σ K κ a w h hr hc hK
theorem kont_sound (hF : FnsOk P F) (hm : P.follows .mixedOrders = true) (hJ : HOk P w0 hs J body Q0) {K0 : Kc} (h0 : KOk P w0 F J Q K0 Q0) : ∀ (p : List Bool), KOk P w0 F J Q (kont P F hs body K0 p) (qont P body Q0 p)
  | [] => h0
  | b :: p => by
    have ih := kont_sound hF hm hJ h0 p
    unfold kont qont
    split
    · rename_i x y hc
      have hy : sub body (true :: p) = some y := by unfold sub; rw [hc]; rfl
      have qy : qont P body Q0 (true :: p) = qont P body Q0 p := by rw [qont_cons, hc]
      refine ih.then fun σ κ a w h hr => ?_
      have := sx_sound hF hm hJ h hr hy (by rw [qy]; exact ih)
      rw [qy] at this
      exact this
    · rename_i id x hc
      exact ih.block id
    · rename_i c hc
      refine ih.then fun σ κ a w h hr => ?_
      split at h <;> try (exact h.elim)
      rename_i hh s hf
      have := goto_sound hJ hf hc h hr
      unfold AtP at this
      rw [hc] at this
      exact this
    · exact ih
theorem headT_sound (hF : FnsOk P F) (hm : P.follows .mixedOrders = true) (hJ : HOk P w0 hs J body Q0) {K0 : Kc} (h0 : KOk P w0 F J Q K0 Q0) {p : List Bool} {σ : St} (h : (headT P F hs body K0 p σ).holds F J Q) (hr : Rel P w0 κ σ a w) : AtP P body Q0 p a w := by
  unfold headT at h
  unfold AtP
  split at h <;> try (exact h.elim)
  · rename_i c hc
    have hx : sub body (false :: p) = some c := by unfold sub; rw [hc]; rfl
    have qx : qont P body Q0 (false :: p) = Exit.then (loopWp P c (qont P body Q0 p)) (qont P body Q0 p) := by rw [qont_cons, hc]
    apply loopWp_of
    rw [← qx]
    exact sx_sound hF hm hJ h hr hx (kont_sound hF hm hJ h0 (false :: p))
  · rename_i c hn hc
    have := sx0_sound hF hm hJ c p σ _ κ a w h hr hc (kont_sound hF hm hJ h0 p)
    cases c <;> first | exact this | exact (hn _ rfl).elim
end
end Go.Proofs.Ytplcdadedpbkpaa.Mini
end
section
/- Exact values: functions. -/
namespace Go.Proofs.Ytplcdadedpbkpaa.Mini
open Go Go.RowKit
set_option linter.unusedVariables false

/-- What is behind a function's code. -/
def endK (P : Program) (md : Md) (pts rts : List Nat) (fn : Func) : Kc := fun e σ => match e with
  | .exit _ => .fail
  | _ => retT P md pts rts fn.results.toList σ
/-- What a function begins with. -/
def start0 (fn : Func) (l : List V1) (H : List (Option Row)) : St := ⟨l.map .v ++ List.replicate (fn.ntmps - l.length) anyV, H⟩
def startS (P : Program) (md : Md) (params : List Nat) (fn : Func) (xs : List D) : Option St :=
  match ksAll P params with
  | some ks => match md with
    | .wr => match splitV P params (resA xs 0 0 ks).1 with
      | some l => some (start0 fn l (setH (List.replicate (lists ks) none) (resA xs 0 0 ks).2))
      | none => none
    | _ => match splitV P params (sels xs 0 ks) with
      | some l => some (start0 fn l [])
      | none => none
  | none => none
/-- The tree of a function. -/
def fnT (P : Program) (F : Tb) (hs : Hds) (md : Md) (params results : List Nat) (fn : Func) (body : Code) (xs : List D) : Tree :=
  match startS P md params fn xs with
  | some σ => sx P F hs [] body σ (endK P md params results fn)
  | none => .fail
/-- The tree of one of its places. -/
def plT (P : Program) (F : Tb) (hs : Hds) (md : Md) (params results : List Nat) (fn : Func) (body : Code) (h : Nat) (ys : List D) : Tree :=
  match hs[h]? with
  | some (p, s) => headT P F hs body (endK P md params results fn) p (s.inst ys)
  | none => .fail
section
variable {P : Program} {w0 : Bs} {κ : Kr} {w : World} {F : Tb} {a : Act} {J : Nat → List D → Prop} {Q : List D → Prop} {hs : Hds} {body : Code} {Q0 : Exit → Act → World → Prop}
theorem findH_go {p : List Bool} {h : Nat} {s : Shape} : ∀ {l : Hds} {i : Nat}, findH.go p l i = some (h, s) → i ≤ h ∧ l[h - i]? = some (p, s)
  | [], i, e => by cases e
  | (q, t) :: l, i, e => by
    unfold findH.go at e
    split at e
    · rename_i hq
      injection e with e; injection e with e1 e2
      subst e1; subst e2; subst hq
      exact ⟨Nat.le_refl _, by simp⟩
    · obtain ⟨h1, h2⟩ := findH_go e
      refine ⟨by omega, ?_⟩
      obtain ⟨k, hk⟩ : ∃ k, h - i = k + 1 := ⟨h - i - 1, by omega⟩
      rw [hk, List.getElem?_cons_succ]
      have : h - (i + 1) = k := by omega
      rw [← this]; exact h2
/-- What is known at the end. -/
def EndQ (P : Program) (md : Md) (pts rts : List Nat) (w0 : Bs) (Q : List D → Prop) (e : Ending) (w' : World) : Prop :=
  ∃ v κ C, e = .returned v ∧ Inv P w0 κ C w' ∧ (∀ (i b o N : Nat), w0.bs[i]? = some (some (b, o, N)) → κ.at_ i = some (b, o, N)) ∧ RetQ P md pts κ C w0 w' rts Q v
theorem endK_ok {md : Md} {fn : Func} {pts rts : List Nat} : KOk P w0 F J Q (endK P md pts rts fn) (bodyPost P fn (EndQ P md pts rts w0 Q)) := by
  intro e σ κ a w ht hr
  have key : (retT P md pts rts fn.results.toList σ).holds F J Q → a.defers = [] ∧ ∃ v, (results fn a.tmps).run P w = .ok v w ∧ EndQ P md pts rts w0 Q (.returned v) w := fun h => by
    obtain ⟨h1, v, h2, h3⟩ := ret_sound h hr
    exact ⟨h1, v, h2, v, κ, cs σ.H, rfl, hr.inv, hr.pin, h3⟩
  cases e with
  | norm => exact key ht
  | ret => exact key ht
  | exit id => exact ht.elim
/-- A function is as its trees say. -/
theorem fn_core {f : Nat} {fn : Func} {md : Md} {pts rts : List Nat} (hF : FnsOk P F) (hm : P.follows .mixedOrders = true) (hf : P.funcs[f]? = some fn) (hb : fn.body = some body)
    (hpin : ∀ p h sh, findH hs p = some (h, sh) → w0.bs.length ≤ sh.pin) {vs : Array Value} {σ : St} (I : Nat → List D → Prop) (μ : Nat → List D → Nat)
    (hmain : (sx P F hs [] body σ (endK P md pts rts fn)).holds F I Q)
    (hloop : ∀ h ys, I h ys → (plT P F hs md pts rts fn body h ys).holds F (fun h' ys' => I h' ys' ∧ μ h' ys' < μ h ys) Q)
    (hr : Rel P w0 κ σ { tmps := vs ++ Array.replicate (fn.ntmps - vs.size) undef, defers := [] } w0.w) : Calls P f vs w0.w (EndQ P md pts rts w0 Q) := by
  refine calls_of_wp hf hb ?_
  generalize hQ0 : bodyPost P fn (EndQ P md pts rts w0 Q) = Q0
  have hK : ∀ J, KOk P w0 F J Q (endK P md pts rts fn) Q0 := fun J => by rw [← hQ0]; exact endK_ok
  have hall : ∀ n h ys, μ h ys = n → I h ys → ∀ p sh, findH hs p = some (h, sh) → ∀ κ a w', Rel P w0 κ (sh.inst ys) a w' → AtP P body Q0 p a w' := by
    intro n
    induction n using Nat.strongRecOn with
    | _ n ih =>
      intro h ys hn hI p sh hp κ a w' hr
      have ht := hloop h ys hI
      unfold plT at ht
      have := (findH_go hp).2
      rw [Nat.sub_zero] at this
      rw [this] at ht
      refine headT_sound hF hm (fun p' h' s' hp' => ⟨hpin p' h' s' hp', fun ys' hJ κ' a' w'' hr' => ?_⟩) (hK _) ht hr
      exact ih _ (hn ▸ hJ.2) h' ys' rfl hJ.1 p' s' hp' κ' a' w'' hr'
  exact sx_sound (Q0 := Q0) hF hm (J := I) (body := body) (fun p h sh hp => ⟨hpin p h sh hp, fun ys hI => hall _ h ys rfl hI p sh hp⟩) hmain hr rfl (hK _)
theorem start_rel {fn : Func} {l : List V1} {vs : Array Value} (hgv : gV1s P κ l vs.toList) : TRel P κ (start0 fn l []).tmps { tmps := vs ++ Array.replicate (fn.ntmps - vs.size) undef, defers := [] } := by
  have hvl : vs.size = l.length := by have := hgv.len; simpa using this.symm
  refine ⟨rfl, by simp [start0, hvl], fun i x hx => ?_⟩
  unfold start0 at hx
  simp only at hx
  by_cases hi' : i < l.length
  · rw [List.getElem?_append_left (by simpa using hi'), List.getElem?_map] at hx
    obtain ⟨y, hy, rfl⟩ := Option.map_eq_some_iff.mp hx
    obtain ⟨v, h1, h2⟩ := hgv.at hy
    refine ⟨v, ?_, h2⟩
    rw [Array.getElem?_append_left (by omega), ← Array.getElem?_toList]
    exact h1
  · rw [List.getElem?_append_right (by simpa using hi'), List.getElem?_replicate] at hx
    split at hx <;> try (cases hx; done)
    rename_i hlt
    injection hx with hx; subst hx
    rw [List.length_map] at hlt
    exact ⟨undef, by rw [Array.getElem?_append_right (by omega), Array.getElem?_replicate, hvl, if_pos hlt], trivial⟩
/-- A function whose arguments are only read. -/
theorem fn_ok {f : Nat} {fn : Func} {s : Sig} (hF : FnsOk P F) (hm : P.follows .mixedOrders = true) (hf : P.funcs[f]? = some fn) (hn : (fn.name == "runtime.NumGoroutine") = false) (hb : fn.body = some body) (hmd : s.md = .own ∨ s.md = .fz)
    (I : List D → Nat → List D → Prop) (μ : List D → Nat → List D → Nat) {ks : List Kd} (hks : ksAll P s.params = some ks)
    (hmain : ∀ xs, fits xs ks = true → s.pre xs → (fnT P F hs s.md s.params s.results fn body xs).holds F (I xs) (s.post xs))
    (hloop : ∀ xs, fits xs ks = true → s.pre xs → ∀ h ys, I xs h ys → (plT P F hs s.md s.params s.results fn body h ys).holds F (fun h' ys' => I xs h' ys' ∧ μ xs h' ys' < μ xs h ys) (s.post xs)) :
    FnOk P f s := by
  refine ⟨⟨fn, hf, hn, by rw [hb]; rfl⟩, ?_⟩
  have key : ∀ (w : World) (zz : Nat → Option Obj) (vs : Array Value) (xs : List D) (ks : List Kd) (cells : List Value), (∀ b x, zz b = some x → w.heap[b]? = some x) → ksAll P s.params = some ks → splitVal P s.params cells vs.toList → fits xs ks = true → gL P ⟨fun _ => none, zz⟩ (sels xs 0 ks) cells → s.pre xs →
      Calls P f vs w fun e w' => ∃ v ys, e = .returned v ∧ s.post xs ys ∧ Below w.heap.size w w' ∧ ResB P s.md zz w w' s.results ys v := by
    intro w zz vs xs ks' cells hzz hks' hsp hfit hg hpre
    rw [hks] at hks'
    injection hks' with hks'
    subst hks'
    have ht := hmain xs hfit hpre
    unfold fnT at ht
    split at ht <;> try (exact ht.elim)
    rename_i σ hσ
    have hσ' : (match splitV P s.params (sels xs 0 ks) with
      | some l => some (start0 fn l [])
      | none => none) = some σ := by
      unfold startS at hσ
      rw [hks] at hσ
      simp only at hσ
      cases hmd' : s.md with
      | wr => rw [hmd'] at hmd; simp at hmd
      | rd z => rw [hmd'] at hmd; simp at hmd
      | op => rw [hmd'] at hmd; simp at hmd
      | own => first | exact hσ | (rw [hmd'] at hσ; exact hσ)
      | fz => first | exact hσ | (rw [hmd'] at hσ; exact hσ)
    split at hσ' <;> try (cases hσ'; done)
    rename_i l hl
    injection hσ' with hσ'
    have hgv := splitV_sound hl hsp hg
    refine (fn_core (w0 := ⟨w, zz, []⟩) (κ := ⟨fun _ => none, zz⟩) hF hm hf hb (fun _ _ _ _ => Nat.zero_le _) (I xs) (μ xs) ht (hloop xs hfit hpre) (vs := vs) ?_).mono ?_
    · subst hσ'
      refine ⟨start_rel hgv, ⟨rfl, rfl, rfl, Nat.le_refl _, fun b _ _ => ⟨rfl, fun x h => h⟩, hzz, fun id row h => ?_, fun id id' row row' b o N o' N' h => ?_, fun id row b o N h => ?_⟩, fun id _ => rfl, fun i b o N h => by simp at h⟩
      · simp [cs, start0] at h
      · simp [cs, start0] at h
      · simp [cs, start0] at h
    · rintro e w' ⟨v, κ, C, rfl, hi, _, hq⟩
      have hbel : Below w.heap.size w w' := ⟨hi.os, hi.tape, hi.output, hi.size, fun b hb => (hi.base b hb (by simp [blocks])).1⟩
      unfold RetQ at hq
      cases hmd' : s.md with
      | wr => rw [hmd'] at hmd; simp at hmd
      | rd z => rw [hmd'] at hmd; simp at hmd
      | op => rw [hmd'] at hmd; simp at hmd
      | own => rw [hmd'] at hq; obtain ⟨ys, q1, q2⟩ := hq rfl; exact ⟨v, ys, rfl, q1, hbel, q2⟩
      | fz => rw [hmd'] at hq; obtain ⟨ys, q1, q2⟩ := hq rfl; exact ⟨v, ys, rfl, q1, hbel, q2⟩
  cases hmd' : s.md with
  | wr => rw [hmd'] at hmd; simp at hmd
  | rd z => rw [hmd'] at hmd; simp at hmd
  | op => rw [hmd'] at hmd; simp at hmd
  | own => rw [hmd'] at key; exact key
  | fz => rw [hmd'] at key; exact key
/-- The lists that came in stay as long as they are. -/
def lensOk (xs zs : List D) : Nat → Nat → List Kd → Prop
  | _, _, [] => True
  | j, i, .list _ :: ks => selN zs i = selN xs j ∧ lensOk xs zs (j + 1) (i + 1) ks
  | j, i, _ :: ks => lensOk xs zs (j + 1) i ks
theorem resL_len {base : Nat} {w' : World} {ys : List D} : ∀ {ks : List Kd} {j : Nat} {vs : List Value} {bs : List (Option (Nat × Nat × Nat))}, resL P base w' ys j ks vs bs → bs.length = lists ks
  | [], j, vs, bs, h => by unfold resL at h; rw [h.2]; rfl
  | .list t :: ks, j, [], bs, h => by cases bs <;> unfold resL at h <;> exact h.elim
  | .list t :: ks, j, v :: vs, [], h => by unfold resL at h; exact h.elim
  | .list t :: ks, j, v :: vs, ob :: bs, h => by unfold resL at h; simp [lists, resL_len h.2]
  | .int k :: ks, j, [], bs, h => by cases bs <;> unfold resL at h <;> exact h.elim
  | .bool :: ks, j, [], bs, h => by cases bs <;> unfold resL at h <;> exact h.elim
  | .str :: ks, j, [], bs, h => by cases bs <;> unfold resL at h <;> exact h.elim
  | .int k :: ks, j, v :: vs, bs, h => by unfold resL at h; simp [lists, resL_len h.2]
  | .bool :: ks, j, v :: vs, bs, h => by unfold resL at h; simp [lists, resL_len h.2]
  | .str :: ks, j, v :: vs, bs, h => by unfold resL at h; simp [lists, resL_len h.2]
theorem wroteL_of {C : Cs} {w' : World} (hi : Inv P w0 κ C w') {zs xs : List D} {pk0 : List Kd} (hrows : ∀ (j t : Nat), (ltypes pk0)[j]? = some t → ∃ row l, C j = some row ∧ row.t = t ∧ rowD row = some l ∧ zs[j]? = some (.list t (l.length / sz P t) l) ∧ l.length = l.length / sz P t * sz P t ∧ ∀ d ∈ l, d.scalar = true)
    {bs0 : List (Option (Nat × Nat × Nat))} (hpin : ∀ (i b o N : Nat), bs0[i]? = some (some (b, o, N)) → κ.at_ i = some (b, o, N)) : ∀ {ks : List Kd} {vs : List Value} {bs : List (Option (Nat × Nat × Nat))} {i j : Nat}, resL P 0 w xs j ks vs bs → bs = bs0.drop i → ltypes ks = (ltypes pk0).drop i → lensOk xs zs j i ks → wroteL P w' zs i ks vs bs
  | [], vs, bs, i, j, h, hb, hk, hl => by unfold resL at h; unfold wroteL; exact h
  | .int k :: ks, [], bs, i, j, h, hb, hk, hl => by cases bs <;> unfold resL at h <;> exact h.elim
  | .bool :: ks, [], bs, i, j, h, hb, hk, hl => by cases bs <;> unfold resL at h <;> exact h.elim
  | .str :: ks, [], bs, i, j, h, hb, hk, hl => by cases bs <;> unfold resL at h <;> exact h.elim
  | .list t :: ks, [], bs, i, j, h, hb, hk, hl => by cases bs <;> unfold resL at h <;> exact h.elim
  | .list t :: ks, v :: vs, [], i, j, h, hb, hk, hl => by unfold resL at h; exact h.elim
  | .int k :: ks, v :: vs, bs, i, j, h, hb, hk, hl => by unfold resL at h; unfold wroteL; exact wroteL_of hi hrows hpin h.2 hb hk hl
  | .bool :: ks, v :: vs, bs, i, j, h, hb, hk, hl => by unfold resL at h; unfold wroteL; exact wroteL_of hi hrows hpin h.2 hb hk hl
  | .str :: ks, v :: vs, bs, i, j, h, hb, hk, hl => by unfold resL at h; unfold wroteL; exact wroteL_of hi hrows hpin h.2 hb hk hl
  | .list t :: ks, v :: vs, ob :: bs, i, j, h, hb, hk, hl => by
    unfold resL at h
    unfold wroteL
    unfold lensOk at hl
    have hb1 : bs0[i]? = some ob := by rw [← List.head?_drop, ← hb]; rfl
    have hk1 : (ltypes pk0)[i]? = some t := by rw [← List.head?_drop, ← hk]; rfl
    refine ⟨?_, wroteL_of hi hrows hpin h.2 (by rw [← List.drop_drop, ← hb]; rfl) (by rw [← List.drop_drop, ← hk]; rfl) hl.2⟩
    obtain ⟨row, l, r1, r2, r3, r4, r5, r6⟩ := hrows i t hk1
    have e1 : selN zs i = l.length / sz P t := by unfold selN; rw [r4]
    have e2 : selL zs i = l := by unfold selL; rw [r4]
    obtain ⟨ho, _⟩ := h
    rw [hl.1, e2]
    cases ob with
    | none =>
      obtain ⟨h1, h2, h3⟩ := ho
      refine ⟨?_, h2, h3⟩
      have : l.length / sz P t = 0 := by rw [← e1, hl.1, h2]
      rw [this, Nat.zero_mul] at r5
      exact List.eq_nil_of_length_eq_zero r5
    | some x =>
      obtain ⟨b, o, N⟩ := x
      obtain ⟨c, arr, h1, h2, h3, h4, h5, h6, h7, h8⟩ := ho
      have hat := hpin i b o N hb1
      rcases (hi.live i row r1).ds r3 with ⟨g1, _⟩ | ⟨b2, o2, N2, arr2, g1, g2, g3, g4, g5, g6⟩
      · rw [g1] at hat; cases hat
      rw [g1] at hat
      injection hat with hat; injection hat with q1 q2; injection q2 with q2 q3
      subst q1; subst q2; subst q3
      rw [r2] at g3
      refine ⟨c, arr2, h1, h2, ?_, h4, h5, g3, g4, fun k d hk2 => ?_⟩
      · rw [← hl.1, e1]; exact r5
      · obtain ⟨y, k1, k2⟩ := g6 k d hk2
        refine ⟨y, k1, ?_⟩
        have hs := r6 d (List.mem_of_getElem? hk2)
        cases d with
        | list => cases hs
        | _ => unfold gD at k2 ⊢; exact k2
/-- A function that writes into the lists among its arguments. -/
theorem fn_okW {f : Nat} {fn : Func} {s : Sig} (hF : FnsOk P F) (hm : P.follows .mixedOrders = true) (hf : P.funcs[f]? = some fn) (hn : (fn.name == "runtime.NumGoroutine") = false) (hb : fn.body = some body) (hmd : s.md = .wr)
    (I : List D → Nat → List D → Prop) (μ : List D → Nat → List D → Nat) {ks rk : List Kd} (hks : ksAll P s.params = some ks) (hrk : ksAll P s.results = some rk)
    (hpin : ∀ p h sh, findH hs p = some (h, sh) → lists ks ≤ sh.pin) (hlens : ∀ xs yz, fits xs ks = true → s.pre xs → s.post xs yz → lensOk xs (yz.drop rk.length) 0 0 ks)
    (hmain : ∀ xs, fits xs ks = true → s.pre xs → (fnT P F hs s.md s.params s.results fn body xs).holds F (I xs) (s.post xs))
    (hloop : ∀ xs, fits xs ks = true → s.pre xs → ∀ h ys, I xs h ys → (plT P F hs s.md s.params s.results fn body h ys).holds F (fun h' ys' => I xs h' ys' ∧ μ xs h' ys' < μ xs h ys) (s.post xs)) :
    FnOk P f s := by
  refine ⟨⟨fn, hf, hn, by rw [hb]; rfl⟩, ?_⟩
  have key : ∀ (w : World) (vs : Array Value) (xs : List D) (ks : List Kd) (cells : List Value) (bs : List (Option (Nat × Nat × Nat))), ksAll P s.params = some ks → splitVal P s.params cells vs.toList → fits xs ks = true → resL P 0 w xs 0 ks cells bs → (blocks bs).Nodup → s.pre xs →
      Calls P f vs w fun e w' => ∃ v ys zs, e = .returned v ∧ s.post xs (ys ++ zs) ∧ (∃ rk, ksAll P s.results = some rk ∧ lists rk = 0 ∧ ys.length = rk.length) ∧ Wrote w w' (blocks bs) ∧ wroteL P w' zs 0 ks cells bs ∧ ResOk P w w' s.results ys v := by
    intro w vs xs ks' cells bs hks' hsp hfit hres hnd hpre
    rw [hks] at hks'
    injection hks' with hks'
    subst hks'
    have ht := hmain xs hfit hpre
    unfold fnT at ht
    split at ht <;> try (exact ht.elim)
    rename_i σ hσ
    unfold startS at hσ
    rw [hks, hmd] at hσ
    simp only at hσ
    split at hσ <;> try (cases hσ; done)
    rename_i l hl
    injection hσ with hσ
    have hbl := resL_len hres
    let zz : Nat → Option Obj := fun b => if b ∈ blocks bs then none else w.heap[b]?
    have hi0 : Inv P ⟨w, zz, bs⟩ ⟨fun _ => none, zz⟩ (fun _ => none) w := by
      refine ⟨rfl, rfl, rfl, Nat.le_refl _, fun b _ _ => ⟨rfl, fun x h => h⟩, fun b x hx => ?_, fun id row h => (by cases h), fun id id' row row' b o N o' N' h => (by cases h), fun id row b o N h => (by cases h)⟩
      have hx' : (if b ∈ blocks bs then none else w.heap[b]?) = some x := hx
      split at hx'
      · cases hx'
      · exact hx'
    obtain ⟨κ', q1, q2, q3, q4, q5⟩ := res_sound (W := 0) (nb := 0) hi0 hres hnd (fun id _ _ => ⟨rfl, rfl⟩) (fun id row b o N h => (by cases h)) (fun b hb => ⟨if_pos hb, .inr hb⟩)
    have hcs0 : cs (List.replicate (lists ks) none) = fun _ => none := by
      funext k
      unfold cs
      rw [List.getElem?_replicate]
      split <;> rfl
    have hlt : ∀ p ∈ (resA xs 0 0 ks).2, p.1 < lists ks := fun p hp => by have := resA_ids xs ks 0 0 p hp; omega
    have hcs : cs (setH (List.replicate (lists ks) none) (resA xs 0 0 ks).2) = upd (fun _ => none) (resA xs 0 0 ks).2 := by
      rw [cs_setH _ _ (List.all_eq_true.mpr fun p hp => by simpa using hlt p hp), hcs0]
    have hgv := splitV_sound hl hsp q3
    refine (fn_core (w0 := ⟨w, zz, bs⟩) (κ := κ') hF hm hf hb (fun p h sh hp => by show bs.length ≤ _; rw [hbl]; exact hpin p h sh hp) (I xs) (μ xs) ht (hloop xs hfit hpre) (vs := vs) ?_).mono ?_
    · subst hσ
      refine ⟨start_rel hgv, ?_, fun id hid => ?_, fun i b o N h => ?_⟩
      · show Inv P _ κ' (cs (setH _ _)) w
        rw [hcs]; exact q2
      · have hid' : lists ks ≤ id := by
          have : (setH (List.replicate (lists ks) none) (resA xs 0 0 ks).2).length ≤ id := hid
          rw [setH_len] at this
          simpa using this
        rw [q4 id (fun p hp e => by have := hlt p hp; omega)]
      · have := q5 i _ h
        rwa [Nat.zero_add] at this
    · rintro e w' ⟨v, κ2, C2, rfl, hi, hp, hq⟩
      unfold RetQ at hq
      rw [hmd] at hq
      obtain ⟨ys, zs, rk', pk', h1, h2, h3, h4, h5, h6, h7, h8⟩ := hq
      rw [hrk] at h1
      injection h1 with h1
      subst h1
      rw [hks] at h2
      injection h2 with h2
      subst h2
      have hlen := hlens xs (ys ++ zs) hfit hpre h3
      rw [← h5, List.drop_left] at hlen
      refine ⟨v, ys, zs, rfl, h3, ⟨rk, hrk, h4, h5⟩, ⟨hi.os, hi.tape, hi.output, hi.size, fun b hb hn => (hi.base b hb hn).1⟩, ?_, h6⟩
      exact wroteL_of hi h8 hp (i := 0) (j := 0) hres rfl rfl hlen
  rw [hmd]
  exact key
end
end Go.Proofs.Ytplcdadedpbkpaa.Mini
end
section
/- Exact values: functions that write into what their first argument points to. -/
namespace Go.Proofs.Ytplcdadedpbkpaa.Mini
open Go Go.RowKit
set_option linter.unusedVariables false

/-- The end of such a function: what lies there then, and its results. -/
def retP (P : Program) (z : Bool) (g : Cs) (rk : List Kd) (as : List A) : Option (List Prop × List D × List Nat) :=
  match z with
  | true => match frzL P g as with
    | some (ns, ds, kl) => if fits (nilsTo ds rk) rk = true then some (ns, nilsTo ds rk, kl) else none
    | none => none
  | false => retL P g rk as
def retR (P : Program) (z : Bool) (pts rts : List Nat) (rvs : List ResultVar) (σ : St) : Tree :=
  match resVs P σ rvs, ksAll P rts, pts with
  | some (n1, xs), some rk, pt :: _ => match argCells P rts (xs.map .v), cs σ.H 0 with
    | some as, some row => match rowD row, retP P z (cs σ.H) rk as with
      | some ds', some (n2, ds, ids) => if isPtr P pt = some row.t ∧ ids.contains 0 = false then .needs (n1 ++ n2) (.ret (.list 0 0 ds' :: ds)) else .fail
      | _, _ => .fail
    | _, _ => .fail
  | _, _, _ => .fail
def endR (P : Program) (z : Bool) (pts rts : List Nat) (fn : Func) : Kc := fun e σ => match e with
  | .exit _ => .fail
  | _ => retR P z pts rts fn.results.toList σ
def startR (P : Program) (params : List Nat) (fn : Func) (xs : List D) : Option St :=
  match params, xs with
  | pt :: pts, .list _ _ ds :: rest => match ksAll P pts, isPtr P pt with
    | some ks, some t => match splitV P pts (sels rest 0 ks) with
      | some l => some (start0 fn (.one (.ptr 0 0) :: l) [some (.sym t ds)])
      | none => none
    | _, _ => none
  | _, _ => none
def fnTR (P : Program) (F : Tb) (hs : Hds) (z : Bool) (params results : List Nat) (fn : Func) (body : Code) (xs : List D) : Tree :=
  match startR P params fn xs with
  | some σ => sx P F hs [] body σ (endR P z params results fn)
  | none => .fail
def plTR (P : Program) (F : Tb) (hs : Hds) (z : Bool) (params results : List Nat) (fn : Func) (body : Code) (h : Nat) (ys : List D) : Tree :=
  match hs[h]? with
  | some (p, s) => headT P F hs body (endR P z params results fn) p (s.inst ys)
  | none => .fail
section
variable {P : Program} {w0 : Bs} {κ : Kr} {w : World} {F : Tb} {a : Act} {J : Nat → List D → Prop} {Q : List D → Prop} {hs : Hds} {body : Code}
/-- A function is as its trees say, whatever its end says. -/
theorem fn_coreK {f : Nat} {fn : Func} {Ke : Kc} {E : Ending → World → Prop} (hF : FnsOk P F) (hm : P.follows .mixedOrders = true) (hf : P.funcs[f]? = some fn) (hb : fn.body = some body)
    (hK : ∀ J, KOk P w0 F J Q Ke (bodyPost P fn E)) (hpin : ∀ p h sh, findH hs p = some (h, sh) → w0.bs.length ≤ sh.pin) {vs : Array Value} {σ : St} (I : Nat → List D → Prop) (μ : Nat → List D → Nat)
    (hmain : (sx P F hs [] body σ Ke).holds F I Q)
    (hloop : ∀ h ys p sh, hs[h]? = some (p, sh) → I h ys → (headT P F hs body Ke p (sh.inst ys)).holds F (fun h' ys' => I h' ys' ∧ μ h' ys' < μ h ys) Q)
    (hr : Rel P w0 κ σ { tmps := vs ++ Array.replicate (fn.ntmps - vs.size) undef, defers := [] } w0.w) : Calls P f vs w0.w E := by
  refine calls_of_wp hf hb ?_
  generalize hQ0 : bodyPost P fn E = Q0
  have hK' : ∀ J, KOk P w0 F J Q Ke Q0 := fun J => by rw [← hQ0]; exact hK J
  have hall : ∀ n h ys, μ h ys = n → I h ys → ∀ p sh, findH hs p = some (h, sh) → ∀ κ a w', Rel P w0 κ (sh.inst ys) a w' → AtP P body Q0 p a w' := by
    intro n
    induction n using Nat.strongRecOn with
    | _ n ih =>
      intro h ys hn hI p sh hp κ a w' hr
      have := (findH_go hp).2
      rw [Nat.sub_zero] at this
      have ht := hloop h ys p sh this hI
      refine headT_sound hF hm (fun p' h' s' hp' => ⟨hpin p' h' s' hp', fun ys' hJ κ' a' w'' hr' => ?_⟩) (hK' _) ht hr
      exact ih _ (hn ▸ hJ.2) h' ys' rfl hJ.1 p' s' hp' κ' a' w'' hr'
  exact sx_sound (Q0 := Q0) hF hm (J := I) (body := body) (fun p h sh hp => ⟨hpin p h sh hp, fun ys hI => hall _ h ys rfl hI p sh hp⟩) hmain hr rfl (hK' _)
/-- What is known at the end. -/
def EndP (P : Program) (z : Bool) (rts : List Nat) (t : Nat) (w0 : Bs) (g o N : Nat) (Q : List D → Prop) (e : Ending) (w' : World) : Prop :=
  ∃ v κ C ys ds' arr', e = .returned v ∧ Inv P w0 κ C w' ∧ Q (.list 0 0 ds' :: ys) ∧ w'.heap[g]? = some (.cells arr' t (0, 0)) ∧ arr'.size = N ∧ o + ds'.length ≤ N ∧ ResR P z w0.zz w0.w w' rts ys v arr' o ds'
theorem retR_sound {z : Bool} {fn : Func} {pt t : Nat} {pts rts : List Nat} {σ : St} {g o N : Nat} (hbs : w0.bs = [some (g, o, N)]) (hpt : isPtr P pt = some t) (h : (retR P z (pt :: pts) rts fn.results.toList σ).holds F J Q) (hr : Rel P w0 κ σ a w) :
    a.defers = [] ∧ ∃ v, (results fn a.tmps).run P w = .ok v w ∧ EndP P z rts t w0 g o N Q (.returned v) w := by
  refine ⟨hr.t.defers, ?_⟩
  unfold retR at h
  split at h <;> try (exact h.elim)
  rename_i n1 xs rk pt' pts' hxs hrk hpe
  injection hpe with hpe _
  subst hpe
  split at h <;> try (exact h.elim)
  rename_i as row has hrow
  split at h <;> try (exact h.elim)
  rename_i ds' n2 ds ids hds' hret
  split at h <;> try (exact h.elim)
  rename_i hc
  obtain ⟨hct, hc0⟩ := hc
  rw [hpt] at hct
  injection hct with hct
  obtain ⟨hn, hQ⟩ := Tree.holds_needs h
  obtain ⟨hn1, hn2⟩ := all_append hn
  obtain ⟨vs, h1, h2⟩ := resVs_sound hr hxs hn1
  obtain ⟨cells, c1, c2⟩ := argCells_sound (P := P) (κ := κ) (vs := vs) has (by simp [h2.len]) (fun i av hi => by
    rw [List.getElem?_map] at hi
    obtain ⟨x, hx, rfl⟩ := Option.map_eq_some_iff.mp hi
    exact h2.at hx)
  have hrun : (results fn a.tmps).run P w = .ok (wrapVal vs) w := by
    have e1 : (results fn a.tmps).run P w = ((Sem.run P (fn.results.toList.mapM (Typ.resF a.tmps)) w).andThen fun x w' => Result.ok x.toArray w').andThen fun x w' => Result.ok (if h : x.size = 1 then x[0] else .tuple x) w' := by
      unfold results
      rw [Array.mapM_eq_mapM_toList]
      simp only [Sem.run_bind, Sem.run_map, Sem.run_pure]
      rfl
    rw [e1, h1]
    match vs with
    | [] => rfl
    | [v] => rfl
    | v :: u :: l => rfl
  refine ⟨wrapVal vs, hrun, ?_⟩
  have hat0 : κ.at_ 0 = some (g, o, N) := hr.pin 0 g o N (by rw [hbs]; rfl)
  have hne : ∀ id ∈ ids, id ≠ 0 := fun id hid e => by subst e; simp at hc0; exact hc0 hid
  have hbg : ∀ b, b ∈ blocks w0.bs → b = g := fun b hb => by rw [hbs] at hb; simpa [blocks] using hb
  -- what lies there, in a later view
  have row0 : ∀ (κ' : Kr) (C' : Cs), Inv P w0 κ' C' w → κ'.at_ = κ.at_ → C' 0 = some row → ∃ arr', w.heap[g]? = some (.cells arr' t (0, 0)) ∧ arr'.size = N ∧ o + ds'.length ≤ N ∧ κ'.z g = none ∧ seenAt P κ'.z arr' o ds' := by
    intro κ' C' hi' hat hC'
    rcases (hi'.live 0 row hC').ds hds' with ⟨g1, _⟩ | ⟨b2, o2, N2, arr, g1, g2, g3, g4, g5, g6⟩
    · rw [hat, hat0] at g1; cases g1
    · rw [hat, hat0] at g1
      injection g1 with g1; injection g1 with q1 q2; injection q2 with q2 q3
      subst q1; subst q2; subst q3
      exact ⟨arr, by rw [hct]; exact g3, g4, g5, g2, g6⟩
  cases z with
  | false =>
    have hret' : retL P (cs σ.H) rk as = some (n2, ds, ids) := hret
    have hfr : ∀ id ∈ ids, ∀ row b o N, cs σ.H id = some row → κ.at_ id = some (b, o, N) → b ∉ blocks w0.bs := fun id hid row' b o' N' hC' hat hb => by
      have hb' := hbg b hb
      subst hb'
      exact hne id hid (hr.inv.apart id 0 row' row b o' N' o N hC' hrow hat hat0)
    obtain ⟨bs, b1, b2, b3, b4⟩ := retL_sound hr.inv (fun _ _ h => h) [] (.inl hfr) hret' hn2 c2
    obtain ⟨arr', r1, r2, r3, r4, r5⟩ := row0 κ (cs σ.H) hr.inv rfl hrow
    refine ⟨_, κ, cs σ.H, ds, ds', arr', rfl, hr.inv, hQ, r1, r2, r3, rk, cells, vs, bs, hrk, b4, c1, b2, b1, rfl, fun j d hj => ?_⟩
    obtain ⟨x, k1, k2⟩ := r5 j d hj
    refine ⟨x, k1, gD.mono (fun b y hy => ?_) k2⟩
    show zBut w0.zz w0.w w (blocks bs) b = some y
    unfold zBut
    split
    · rename_i hlt
      refine (hr.inv.base b hlt (fun hb => ?_)).2 y hy
      rw [hbg b hb, r4] at hy; cases hy
    · split
      · rename_i hb
        obtain ⟨id, _, row', o', N', q1, q2⟩ := b3 b hb
        rcases hr.inv.live id row' q1 with ⟨q3, _⟩ | ⟨b', o2, N2, arr2, q3, q4, _⟩
        · rw [q3] at q2; cases q2
        · rw [q3] at q2
          injection q2 with q2; injection q2 with q2 _
          subst q2
          rw [q4] at hy; cases hy
      · exact hr.inv.z b y hy
  | true =>
    have hret' : (match frzL P (cs σ.H) as with
      | some (ns, ds, kl) => if fits (nilsTo ds rk) rk = true then some (ns, nilsTo ds rk, kl) else none
      | none => none) = some (n2, ds, ids) := hret
    split at hret' <;> try (cases hret'; done)
    rename_i ns0 ds0 kl hfr
    split at hret' <;> try (cases hret'; done)
    rename_i hfit
    injection hret' with hret'; injection hret' with e1 e2; injection e2 with e2 e3
    subst e1; subst e2; subst e3
    obtain ⟨κ', q1, q2, q3, q4, q5⟩ := frzL_sound hfr hn2 hr.inv (fun _ _ _ h => h) c2
    obtain ⟨n1', n2'⟩ := nilsTo_sound (ks := rk) q5
    have hrow' : upd (cs σ.H) (kill kl) 0 = some row := by
      rw [upd_kill, if_neg (by rw [hc0]; simp)]; exact hrow
    obtain ⟨arr', r1, r2, r3, r4, r5⟩ := row0 κ' _ q3 q2 hrow'
    have hzz : ∀ b x, κ'.z b = some x → zNew w0.zz w0.w w b = some x := fun b x hx => by
      unfold zNew
      split
      · rename_i hlt
        refine (q3.base b hlt (fun hb => ?_)).2 x hx
        rw [hbg b hb, r4] at hx; cases hx
      · exact q3.z b x hx
    obtain ⟨g1, g2, g3⟩ := fits_sels (P := P) (κ := ⟨fun _ => none, zNew w0.zz w0.w w⟩) [] (nilsTo ds0 rk) rk cells hfit (by rw [n1', q4]) (fun j d hj => by
      obtain ⟨v, h1, h2⟩ := n2' j d hj
      exact ⟨v, h1, gD.mono hzz h2⟩)
    exact ⟨_, κ', _, _, ds', arr', rfl, q3, hQ, r1, r2, r3, ⟨rk, cells, vs, hrk, g2, c1, g3, rfl⟩, fun j d hj => by
      obtain ⟨x, k1, k2⟩ := r5 j d hj
      exact ⟨x, k1, gD.mono hzz k2⟩⟩
/-- A function that writes into what its first argument points to. -/
theorem fn_okR {f : Nat} {fn : Func} {s : Sig} {z : Bool} (hF : FnsOk P F) (hm : P.follows .mixedOrders = true) (hf : P.funcs[f]? = some fn) (hn : (fn.name == "runtime.NumGoroutine") = false) (hb : fn.body = some body) (hmd : s.md = .rd z)
    (I : List D → Nat → List D → Prop) (μ : List D → Nat → List D → Nat) {pt : Nat} {pts : List Nat} (hps : s.params = pt :: pts) {ks : List Kd} (hks : ksAll P pts = some ks) (hpin : ∀ p h sh, findH hs p = some (h, sh) → 1 ≤ sh.pin)
    (hmain : ∀ ds xs, fits xs ks = true → s.pre (.list 0 0 ds :: xs) → (fnTR P F hs z s.params s.results fn body (.list 0 0 ds :: xs)).holds F (I (.list 0 0 ds :: xs)) (s.post (.list 0 0 ds :: xs)))
    (hloop : ∀ ds xs, fits xs ks = true → s.pre (.list 0 0 ds :: xs) → ∀ h ys, I (.list 0 0 ds :: xs) h ys → (plTR P F hs z s.params s.results fn body h ys).holds F (fun h' ys' => I (.list 0 0 ds :: xs) h' ys' ∧ μ (.list 0 0 ds :: xs) h' ys' < μ (.list 0 0 ds :: xs) h ys) (s.post (.list 0 0 ds :: xs))) :
    FnOk P f s := by
  refine ⟨⟨fn, hf, hn, by rw [hb]; rfl⟩, ?_⟩
  rw [hmd]
  intro w zz vs pt' t pts' xs ks' cells g o arr ds hzz hzg hhg hlen hseen hps' hpt hks' hsp hfit hg hpre
  rw [hps] at hps'
  injection hps' with e1 e2
  subst e1; subst e2
  rw [hks] at hks'
  injection hks' with hks'
  subst hks'
  have ht := hmain ds xs hfit hpre
  unfold fnTR at ht
  split at ht <;> try (exact ht.elim)
  rename_i σ hσ
  unfold startR at hσ
  rw [hps] at hσ
  simp only [hks, hpt] at hσ
  split at hσ <;> try (cases hσ; done)
  rename_i l hl
  injection hσ with hσ
  have hgv := splitV_sound hl hsp hg
  let κ0 : Kr := ⟨fun id => if id = 0 then some (g, o, arr.size) else none, zz⟩
  have hgv' : gV1s P κ0 (.one (.ptr 0 0) :: l) (.pointer (some ⟨g, o, none⟩) :: vs) := by
    refine ⟨⟨g, o, arr.size, rfl, rfl⟩, ?_⟩
    have hle : Kr.le ⟨fun _ => none, zz⟩ κ0 := ⟨fun _ _ h => (by cases h), fun _ _ h => h⟩
    exact hgv.mono hle
  have hcs : ∀ id row, cs [some (Row.sym t ds)] id = some row → id = 0 ∧ row = .sym t ds := fun id row h => by
    cases id with
    | zero => simp [cs] at h; exact ⟨rfl, h.symm⟩
    | succ n => simp [cs] at h
  refine (fn_coreK (w0 := ⟨w, zz, [some (g, o, arr.size)]⟩) (κ := κ0) (vs := (Value.pointer (some ⟨g, o, none⟩) :: vs).toArray) (E := EndP P z s.results t ⟨w, zz, [some (g, o, arr.size)]⟩ g o arr.size (s.post (.list 0 0 ds :: xs))) hF hm hf hb (fun J => ?_) (fun p h sh hp => hpin p h sh hp) (I (.list 0 0 ds :: xs)) (μ (.list 0 0 ds :: xs)) ht (fun h ys p sh hp hI => ?_) ?_).mono ?_
  · intro e σ' κ' a' w' ht' hr'
    have key : (retR P z s.params s.results fn.results.toList σ').holds F J (s.post (.list 0 0 ds :: xs)) → a'.defers = [] ∧ ∃ v, (results fn a'.tmps).run P w' = .ok v w' ∧ EndP P z s.results t ⟨w, zz, [some (g, o, arr.size)]⟩ g o arr.size (s.post (.list 0 0 ds :: xs)) (.returned v) w' := fun h => by
      rw [hps] at h
      exact retR_sound rfl hpt h hr'
    cases e with
    | norm => exact key ht'
    | ret => exact key ht'
    | exit id => exact ht'.elim
  · have := hloop ds xs hfit hpre h ys hI
    unfold plTR at this
    rw [hp] at this
    exact this
  · subst hσ
    refine ⟨start_rel (by simpa using hgv'), ⟨rfl, rfl, rfl, Nat.le_refl _, fun b _ _ => ⟨rfl, fun x h => h⟩, hzz, fun id row h => ?_, fun id id' row row' b o N o' N' h h' _ _ => ?_, fun id row b o' N h ha => ?_⟩, fun id hid => ?_, fun i b o' N h => ?_⟩
    · obtain ⟨rfl, rfl⟩ := hcs id row h
      refine .inr ⟨g, o, arr.size, arr, rfl, hzg, hhg, rfl, by show o + (ds.map A.d).length ≤ _; simpa using hlen, fun j a hj => ?_⟩
      simp only [Row.as, List.getElem?_map] at hj
      obtain ⟨d, hd, rfl⟩ := Option.map_eq_some_iff.mp hj
      exact hseen j d hd
    · rw [(hcs id row h).1, (hcs id' row' h').1]
    · obtain ⟨rfl, rfl⟩ := hcs id row h
      have ha' : some (g, o, arr.size) = some (b, o', N) := ha
      injection ha' with ha'; injection ha' with ha' _
      subst ha'
      exact .inr (by simp [blocks])
    · have : 1 ≤ id := hid
      show (if id = 0 then _ else none) = none
      rw [if_neg (by omega)]
    · cases i with
      | zero => simp at h; obtain ⟨rfl, rfl, rfl⟩ := h; rfl
      | succ n => simp at h
  · rintro e w' ⟨v, κ2, C2, ys, ds', arr', rfl, hi, hq, h1, h2, h3, h4⟩
    exact ⟨v, ys, ds', arr', rfl, hq, ⟨hi.os, hi.tape, hi.output, hi.size, fun b hb hn => (hi.base b hb (by simpa [blocks] using hn)).1⟩, h1, h2, by rw [h2]; exact h3, h4⟩
end
end Go.Proofs.Ytplcdadedpbkpaa.Mini
end
section
/- Exact values: how functions are told. -/
namespace Go.Proofs.Ytplcdadedpbkpaa.Mini
open Go Go.RowKit
set_option linter.unusedVariables false
set_option maxRecDepth 20000

/-- Functions with their own types. -/
def fnT' (P : Program) (F : Tb) (hs : Hds) (md : Md) (fn : Func) (xs : List D) : Tree := fnT P F hs md fn.params.toList fn.resultTypes.toList fn (fn.body.getD .skip) xs
def plT' (P : Program) (F : Tb) (hs : Hds) (md : Md) (fn : Func) (h : Nat) (xs : List D) : Tree := plT P F hs md fn.params.toList fn.resultTypes.toList fn (fn.body.getD .skip) h xs
def sig (fn : Func) (pre : List D → Prop) (post : List D → List D → Prop) : Sig := ⟨fn.params.toList, fn.resultTypes.toList, pre, post, .own⟩
def sigF (fn : Func) (pre : List D → Prop) (post : List D → List D → Prop) : Sig := ⟨fn.params.toList, fn.resultTypes.toList, pre, post, .fz⟩
def sigW (fn : Func) (pre : List D → Prop) (post : List D → List D → Prop) : Sig := ⟨fn.params.toList, fn.resultTypes.toList, pre, post, .wr⟩
def atV : List (Nat × SV) → Nat → SV
  | [], _ => .skip
  | (j, s) :: l, i => if i = j then s else atV l i
def shape (fn : Func) (l : List (Nat × SV)) (rows : List SR) : Shape := ⟨(List.range fn.ntmps).map (atV l), rows, 0⟩
def shapeW (fn : Func) (pin : Nat) (l : List (Nat × SV)) (rows : List SR) : Shape := ⟨(List.range fn.ntmps).map (atV l), rows, pin⟩
def vI : SV := .one (.kd (.int .i64))
def vS : SV := .one (.kd .str)
def vB : SV := .one (.kd .bool)
def vL (t : Nat) : SV := .one (.kd (.list t))
def vR (t id : Nat) : SV := .one (.sl t id)
def tab : List (Nat × Sig) → Tb
  | [], _ => none
  | (j, s) :: l, i => if i = j then some s else tab l i
theorem tab_ok {P : Program} : ∀ {l : List (Nat × Sig)}, (∀ p ∈ l, FnOk P p.1 p.2) → FnsOk P (tab l)
  | [], _ => fun f s h => by cases h
  | p :: l, h => fun f s hs => by
    unfold tab at hs
    split at hs
    · rename_i e; injection hs with hs; subst hs; subst e; exact h p (by simp)
    · exact tab_ok (fun q hq => h q (by simp [hq])) f s hs
theorem tab_nil {P : Program} : FnsOk P (tab []) := fun f s h => by cases h
theorem tab_cons {P : Program} {f : Nat} {s : Sig} {l : List (Nat × Sig)} (h : FnOk P f s) (hl : FnsOk P (tab l)) : FnsOk P (tab ((f, s) :: l)) := fun g t ht => by
  unfold tab at ht
  split at ht
  · rename_i e; injection ht with ht; subst ht; subst e; exact h
  · exact hl g t ht
/-- Values of kinds. -/
def allK : List Kd → (List D → Prop) → Prop
  | [], φ => φ []
  | .int k :: ks, φ => ∀ n : Int, allK ks (fun xs => φ (.int k n :: xs))
  | .bool :: ks, φ => ∀ b : Bool, allK ks (fun xs => φ (.bool b :: xs))
  | .str :: ks, φ => ∀ s : ByteArray, allK ks (fun xs => φ (.str s :: xs))
  | .list t :: ks, φ => ∀ (n : Nat) (l : List D), allK ks (fun xs => φ (.list t n l :: xs))
theorem allK_spec : ∀ {ks : List Kd} {φ : List D → Prop}, allK ks φ → ∀ xs, fits xs ks = true → φ xs
  | [], φ, h, [], _ => h
  | k :: ks, φ, h, d :: xs, hf => by
    unfold fits at hf
    rw [Bool.and_eq_true] at hf
    cases k <;> cases d <;> simp [fitK] at hf <;> unfold allK at h
    · obtain ⟨rfl, hf⟩ := hf; exact allK_spec (h _) xs hf
    · exact allK_spec (h _) xs hf
    · exact allK_spec (h _) xs hf
    · obtain ⟨rfl, hf⟩ := hf; exact allK_spec (h _ _) xs hf
  | [], φ, _, _ :: _, hf => by simp [fits] at hf
  | _ :: _, φ, _, [], hf => by simp [fits] at hf
theorem chosen {P : Program} {F : Tb} {hs : Hds} {md : Md} {fn : Func} {pre : List D → Prop} {post : List D → List D → Prop} {ks : List Kd}
    (h : allK ks fun xs => pre xs → ∃ (I : Nat → List D → Prop) (μ : Nat → List D → Nat), (fnT' P F hs md fn xs).holds F I (post xs) ∧
      ∀ h ys, I h ys → (plT' P F hs md fn h ys).holds F (fun h' ys' => I h' ys' ∧ μ h' ys' < μ h ys) (post xs)) :
    ∃ Iμ : List D → (Nat → List D → Prop) × (Nat → List D → Nat), ∀ xs, fits xs ks = true → pre xs → (fnT' P F hs md fn xs).holds F (Iμ xs).1 (post xs) ∧
      ∀ h ys, (Iμ xs).1 h ys → (plT' P F hs md fn h ys).holds F (fun h' ys' => (Iμ xs).1 h' ys' ∧ (Iμ xs).2 h' ys' < (Iμ xs).2 h ys) (post xs) := by
  have hh := allK_spec h
  have key : ∀ xs, ∃ Iμ : (Nat → List D → Prop) × (Nat → List D → Nat), fits xs ks = true → pre xs → (fnT' P F hs md fn xs).holds F Iμ.1 (post xs) ∧
      ∀ h ys, Iμ.1 h ys → (plT' P F hs md fn h ys).holds F (fun h' ys' => Iμ.1 h' ys' ∧ Iμ.2 h' ys' < Iμ.2 h ys) (post xs) := fun xs => by
    by_cases hx : fits xs ks = true ∧ pre xs
    · obtain ⟨I, μ, h1, h2⟩ := hh xs hx.1 hx.2
      exact ⟨(I, μ), fun _ _ => ⟨h1, h2⟩⟩
    · exact ⟨(fun _ _ => False, fun _ _ => 0), fun h1 h2 => absurd ⟨h1, h2⟩ hx⟩
  exact ⟨fun xs => (key xs).choose, fun xs => (key xs).choose_spec⟩
/-- A function, by its trees: what holds at its loops' heads (I), what becomes less from head to head (μ). -/
theorem fnOk {P : Program} {f : Nat} {fn : Func} {F : Tb} {hs : Hds} {pre : List D → Prop} {post : List D → List D → Prop} {md : Md} (hF : FnsOk P F) (hm : P.follows .mixedOrders = true) (hf : P.funcs[f]? = some fn) (hn : (fn.name == "runtime.NumGoroutine") = false) (hb : fn.body.isNone = false)
    (ks : List Kd) (hks : ksAll P fn.params.toList = some ks) (hmd : md = .own ∨ md = .fz)
    (h : allK ks fun xs => pre xs → ∃ (I : Nat → List D → Prop) (μ : Nat → List D → Nat), (fnT' P F hs md fn xs).holds F I (post xs) ∧
      ∀ h ys, I h ys → (plT' P F hs md fn h ys).holds F (fun h' ys' => I h' ys' ∧ μ h' ys' < μ h ys) (post xs)) :
    FnOk P f ⟨fn.params.toList, fn.resultTypes.toList, pre, post, md⟩ := by
  obtain ⟨body, hbody⟩ : ∃ b, fn.body = some b := by
    cases h : fn.body with
    | none => rw [h] at hb; cases hb
    | some b => exact ⟨b, rfl⟩
  have hg : fn.body.getD .skip = body := by rw [hbody]; rfl
  obtain ⟨Iμ, hI⟩ := chosen h
  unfold fnT' plT' at hI
  rw [hg] at hI
  exact fn_ok (hs := hs) (body := body) hF hm hf hn hbody hmd (fun xs => (Iμ xs).1) (fun xs => (Iμ xs).2) hks (fun xs hx hp => (hI xs hx hp).1) (fun xs hx hp => (hI xs hx hp).2)
/-- One that writes into the lists among its arguments. -/
theorem fnOkW {P : Program} {f : Nat} {fn : Func} {F : Tb} {hs : Hds} {pre : List D → Prop} {post : List D → List D → Prop} (hF : FnsOk P F) (hm : P.follows .mixedOrders = true) (hf : P.funcs[f]? = some fn) (hn : (fn.name == "runtime.NumGoroutine") = false) (hb : fn.body.isNone = false)
    (ks rk : List Kd) (hks : ksAll P fn.params.toList = some ks) (hrk : ksAll P fn.resultTypes.toList = some rk) (hpin : ∀ p ∈ hs, lists ks ≤ p.2.pin)
    (h : allK ks fun xs => pre xs → (∀ yz, post xs yz → lensOk xs (yz.drop rk.length) 0 0 ks) ∧ ∃ (I : Nat → List D → Prop) (μ : Nat → List D → Nat), (fnT' P F hs .wr fn xs).holds F I (post xs) ∧
      ∀ h ys, I h ys → (plT' P F hs .wr fn h ys).holds F (fun h' ys' => I h' ys' ∧ μ h' ys' < μ h ys) (post xs)) :
    FnOk P f ⟨fn.params.toList, fn.resultTypes.toList, pre, post, .wr⟩ := by
  obtain ⟨body, hbody⟩ : ∃ b, fn.body = some b := by
    cases h : fn.body with
    | none => rw [h] at hb; cases hb
    | some b => exact ⟨b, rfl⟩
  have hg : fn.body.getD .skip = body := by rw [hbody]; rfl
  have mono : ∀ {ks : List Kd} {φ ψ : List D → Prop}, (∀ xs, φ xs → ψ xs) → allK ks φ → allK ks ψ := by
    intro ks
    induction ks with
    | nil => exact fun h => h []
    | cons k ks ih =>
      intro φ ψ h
      cases k <;> unfold allK
      · exact fun g n => ih (fun xs => h _) (g n)
      · exact fun g n => ih (fun xs => h _) (g n)
      · exact fun g n => ih (fun xs => h _) (g n)
      · exact fun g n l => ih (fun xs => h _) (g n l)
  obtain ⟨Iμ, hI⟩ := chosen (mono (fun xs h9 hp => (h9 hp).2) h)
  unfold fnT' plT' at hI
  rw [hg] at hI
  refine fn_okW (hs := hs) (body := body) hF hm hf hn hbody rfl (fun xs => (Iμ xs).1) (fun xs => (Iμ xs).2) hks hrk (fun p n sh hp => ?_) (fun xs yz hx hp hy => (allK_spec h xs hx hp).1 yz hy) (fun xs hx hp => (hI xs hx hp).1) (fun xs hx hp => (hI xs hx hp).2)
  have := (findH_go hp).2
  exact hpin _ (List.mem_of_getElem? this)
/-- One without loops. -/
theorem fnOk0 {P : Program} {f : Nat} {fn : Func} {F : Tb} {pre : List D → Prop} {post : List D → List D → Prop} {md : Md} (hF : FnsOk P F) (hm : P.follows .mixedOrders = true) (hf : P.funcs[f]? = some fn) (hn : (fn.name == "runtime.NumGoroutine") = false) (hb : fn.body.isNone = false)
    (ks : List Kd) (hks : ksAll P fn.params.toList = some ks) (hmd : md = .own ∨ md = .fz) (h : allK ks fun xs => pre xs → (fnT' P F [] md fn xs).holds F (fun _ _ => False) (post xs)) :
    FnOk P f ⟨fn.params.toList, fn.resultTypes.toList, pre, post, md⟩ := by
  refine fnOk (hs := []) hF hm hf hn hb ks hks hmd ?_
  have : ∀ {ks : List Kd} {φ ψ : List D → Prop}, (∀ xs, φ xs → ψ xs) → allK ks φ → allK ks ψ := by
    intro ks
    induction ks with
    | nil => exact fun h => h []
    | cons k ks ih =>
      intro φ ψ h
      cases k <;> unfold allK
      · exact fun g n => ih (fun xs => h _) (g n)
      · exact fun g n => ih (fun xs => h _) (g n)
      · exact fun g n => ih (fun xs => h _) (g n)
      · exact fun g n l => ih (fun xs => h _) (g n l)
  exact this (fun xs hx hp => ⟨fun _ _ => False, fun _ _ => 0, hx hp, fun _ _ h => h.elim⟩) h

/-! ### Functions that write into what their first argument points to -/
def sigR (fn : Func) (z : Bool) (pre : List D → Prop) (post : List D → List D → Prop) : Sig := ⟨fn.params.toList, fn.resultTypes.toList, pre, post, .rd z⟩
def sigO (fn : Func) (pre : List D → Prop) (post : List D → List D → Prop) : Sig := ⟨fn.params.toList, fn.resultTypes.toList, pre, post, .op⟩
def fnTR' (P : Program) (F : Tb) (hs : Hds) (z : Bool) (fn : Func) (xs : List D) : Tree := fnTR P F hs z fn.params.toList fn.resultTypes.toList fn (fn.body.getD .skip) xs
def plTR' (P : Program) (F : Tb) (hs : Hds) (z : Bool) (fn : Func) (h : Nat) (xs : List D) : Tree := plTR P F hs z fn.params.toList fn.resultTypes.toList fn (fn.body.getD .skip) h xs
theorem fnOkR {P : Program} {f : Nat} {fn : Func} {F : Tb} {hs : Hds} {pre : List D → Prop} {post : List D → List D → Prop} {z : Bool} (hF : FnsOk P F) (hm : P.follows .mixedOrders = true) (hf : P.funcs[f]? = some fn) (hn : (fn.name == "runtime.NumGoroutine") = false) (hb : fn.body.isNone = false)
    (hps : fn.params.toList = fn.params.toList.headD 0 :: fn.params.toList.tail) (ks : List Kd) (hks : ksAll P fn.params.toList.tail = some ks) (hpin : ∀ p ∈ hs, 1 ≤ p.2.pin)
    (h : ∀ r : List D, allK ks fun xs => pre (.list 0 0 r :: xs) → ∃ (I : Nat → List D → Prop) (μ : Nat → List D → Nat), (fnTR' P F hs z fn (.list 0 0 r :: xs)).holds F I (post (.list 0 0 r :: xs)) ∧
      ∀ h ys, I h ys → (plTR' P F hs z fn h ys).holds F (fun h' ys' => I h' ys' ∧ μ h' ys' < μ h ys) (post (.list 0 0 r :: xs))) :
    FnOk P f ⟨fn.params.toList, fn.resultTypes.toList, pre, post, .rd z⟩ := by
  obtain ⟨body, hbody⟩ : ∃ b, fn.body = some b := by
    cases h : fn.body with
    | none => rw [h] at hb; cases hb
    | some b => exact ⟨b, rfl⟩
  have hg : fn.body.getD .skip = body := by rw [hbody]; rfl
  have key : ∀ l : List D, ∃ Iμ : (Nat → List D → Prop) × (Nat → List D → Nat), ∀ r xs, l = .list 0 0 r :: xs → fits xs ks = true → pre l → (fnTR' P F hs z fn l).holds F Iμ.1 (post l) ∧
      ∀ h ys, Iμ.1 h ys → (plTR' P F hs z fn h ys).holds F (fun h' ys' => Iμ.1 h' ys' ∧ Iμ.2 h' ys' < Iμ.2 h ys) (post l) := fun l => by
    by_cases hx : ∃ r xs, l = .list 0 0 r :: xs ∧ fits xs ks = true ∧ pre l
    · obtain ⟨r, xs, rfl, h1, h2⟩ := hx
      obtain ⟨I, μ, g1, g2⟩ := allK_spec (h r) xs h1 h2
      exact ⟨(I, μ), fun _ _ _ _ _ => ⟨g1, g2⟩⟩
    · exact ⟨(fun _ _ => False, fun _ _ => 0), fun r xs h1 h2 h3 => absurd ⟨r, xs, h1, h2, h3⟩ hx⟩
  obtain ⟨Iμ, hI⟩ : ∃ Iμ : List D → (Nat → List D → Prop) × (Nat → List D → Nat), ∀ l r xs, l = .list 0 0 r :: xs → fits xs ks = true → pre l → (fnTR' P F hs z fn l).holds F (Iμ l).1 (post l) ∧
      ∀ h ys, (Iμ l).1 h ys → (plTR' P F hs z fn h ys).holds F (fun h' ys' => (Iμ l).1 h' ys' ∧ (Iμ l).2 h' ys' < (Iμ l).2 h ys) (post l) := ⟨fun l => (key l).choose, fun l => (key l).choose_spec⟩
  unfold fnTR' plTR' at hI
  rw [hg] at hI
  refine fn_okR (hs := hs) (body := body) hF hm hf hn hbody rfl (fun l => (Iμ l).1) (fun l => (Iμ l).2) hps hks (fun p n sh hp => ?_) (fun ds xs hx hp => (hI (.list 0 0 ds :: xs) ds xs rfl hx hp).1) (fun ds xs hx hp => (hI (.list 0 0 ds :: xs) ds xs rfl hx hp).2)
  have := (findH_go hp).2
  exact hpin _ (List.mem_of_getElem? this)

/-! ### Looking at values -/
theorem selI_z {k : IntKind} {n : Int} {l : List D} : selI (.int k n :: l) 0 = n := rfl
theorem selB_z {b : Bool} {l : List D} : selB (.bool b :: l) 0 = b := rfl
theorem selS_z {s : ByteArray} {l : List D} : selS (.str s :: l) 0 = s := rfl
theorem selN_z {t n : Nat} {c l : List D} : selN (.list t n c :: l) 0 = n := rfl
theorem selL_z {t n : Nat} {c l : List D} : selL (.list t n c :: l) 0 = c := rfl
theorem selI_s {d : D} {l : List D} {j : Nat} : selI (d :: l) (j + 1) = selI l j := rfl
theorem selB_s {d : D} {l : List D} {j : Nat} : selB (d :: l) (j + 1) = selB l j := rfl
theorem selS_s {d : D} {l : List D} {j : Nat} : selS (d :: l) (j + 1) = selS l j := rfl
theorem selN_s {d : D} {l : List D} {j : Nat} : selN (d :: l) (j + 1) = selN l j := rfl
theorem selL_s {d : D} {l : List D} {j : Nat} : selL (d :: l) (j + 1) = selL l j := rfl
theorem ret_int {k : IntKind} {a b : Int} (h : a = b) : [D.int k a] = [D.int k b] := by rw [h]
theorem ret_bool' {a b : Bool} (h : a = b) : [D.bool a] = [D.bool b] := by rw [h]
theorem ret_str {a b : ByteArray} (h : a = b) : [D.str a] = [D.str b] := by rw [h]
open Classical in
theorem ret_yes {p : Prop} (h : p) : [D.bool true] = [D.bool (decide p)] := by rw [decide_eq_true h]
open Classical in
theorem ret_no {p : Prop} (h : ¬ p) : [D.bool false] = [D.bool (decide p)] := by rw [decide_eq_false h]
theorem all_nil : all_ [] = True := rfl
theorem all_cons {p : Prop} {l : List Prop} : all_ (p :: l) = (p ∧ all_ l) := rfl
end Go.Proofs.Ytplcdadedpbkpaa.Mini
end
