/- Parts of the proof: Mini9. -/
import Derived.Test.YtjleempapphlhabGeMini8r
import Derived.Test.YtjleempapphlhabGeTyp2
section
namespace Go.Proofs.Ytjleempapphlhab.Mini
open Go Go.RowKit
set_option linter.unusedVariables false
theorem setH_len : ∀ (us : Us) (H : List (Option Row)), (setH H us).length = H.length
  | [], H => rfl
  | p :: us, H => by
    show (setH (H.set p.1 p.2) us).length = _
    rw [setH_len us]; simp
theorem cs_set {H : List (Option Row)} {id : Nat} {r : Option Row} (h : id < H.length) (k : Nat) : cs (H.set id r) k = if k = id then r else cs H k := by
  unfold cs
  rw [List.getElem?_set]
  by_cases e : id = k
  · subst e; rw [if_pos rfl, if_pos h, if_pos rfl]; rfl
  · rw [if_neg e, if_neg (fun e' => e e'.symm)]
theorem cs_setH : ∀ (us : Us) (H : List (Option Row)), okU H.length us = true → cs (setH H us) = upd (cs H) us
  | [], H, _ => rfl
  | p :: us, H, h => by
    simp only [okU, List.all_cons, Bool.and_eq_true, decide_eq_true_eq] at h
    show cs (setH (H.set p.1 p.2) us) = _
    rw [cs_setH us (H.set p.1 p.2) (by simpa [okU] using h.2)]
    have : cs (H.set p.1 p.2) = fun id => if id = p.1 then p.2 else cs H id := funext fun k => cs_set h.1 k
    rw [this]
    rfl
def padS (σ : St) (n : Nat) : St := ⟨σ.tmps, σ.H ++ List.replicate n none⟩
theorem cs_pad (H : List (Option Row)) (n : Nat) : cs (H ++ List.replicate n none) = cs H := by
  funext k
  unfold cs
  by_cases h : k < H.length
  · rw [List.getElem?_append_left h]
  · rw [List.getElem?_append_right (by omega), List.getElem?_eq_none (l := H) (by omega), List.getElem?_replicate]
    split <;> rfl
theorem cs_none {H : List (Option Row)} {k : Nat} (h : H.length ≤ k) : cs H k = none := by unfold cs; rw [List.getElem?_eq_none h]; rfl
/-- The temporaries are as said. -/
structure TRel (P : Program) (κ : Kr) (l : List AV) (a : Act) : Prop where
  defers : a.defers = []
  size : a.tmps.size = l.length
  vals : ∀ (i : Nat) (av : AV), l[i]? = some av → ∃ v, a.tmps[i]? = some v ∧ gAV P κ av v
structure Rel (P : Program) (w0 : Bs) (κ : Kr) (σ : St) (a : Act) (w : World) : Prop where
  t : TRel P κ σ.tmps a
  inv : InvE P w0 κ (cs σ.H) w
  fresh : ∀ id, σ.H.length ≤ id → id < big → κ.at_ id = none
  pin : ∀ (i b o N : Nat), w0.bs[i]? = some (some (b, o, N)) → κ.at_ (w0.nm i) = some (b, o, N)
  free : FreeN w0 κ (cs σ.H)
section
variable {P : Program} {w0 : Bs} {κ : Kr} {C : Cs} {w : World} {F : Tb} {a : Act} {J : Nat → List D → Prop} {Q : List D → Prop}
theorem TRel.mono {κ' : Kr} {l : List AV} (hle : κ.le κ') (h : TRel P κ l a) : TRel P κ' l a :=
  ⟨h.defers, h.size, fun i av hi => by obtain ⟨v, h1, h2⟩ := h.vals i av hi; exact ⟨v, h1, h2.mono hle⟩⟩
theorem TRel.put {l : List AV} (h : TRel P κ l a) {dst : Option Nat} {av : AV} {v : Value} (hv : gAV P κ av v) : TRel P κ (putL l dst av) (a.put dst v) := by
  cases dst with
  | none => exact h
  | some d =>
    refine ⟨h.defers, by simp [Act.put, putL, h.size], fun i x hx => ?_⟩
    simp only [putL, List.getElem?_set] at hx
    simp only [Act.put, Array.getElem?_setIfInBounds]
    split at hx
    · rename_i hd
      subst hd
      split at hx <;> try (cases hx; done)
      rename_i hlt
      injection hx with hx; subst hx
      rw [if_pos rfl, if_pos (by rw [h.size]; exact hlt)]
      exact ⟨v, rfl, hv⟩
    · rename_i hd
      rw [if_neg hd]
      exact h.vals i x hx
theorem TRel.evalR {l : List AV} (h : TRel P κ l a) (ts : List Nat) : ∀ x, gAV P κ (evalR ts l x) (a.eval x) := by
  intro x
  cases x with
  | tmp t =>
    unfold Mini.evalR
    simp only
    split
    · rw [List.getD_eq_getElem?_getD]
      cases hl : l[t]? with
      | none => trivial
      | some av =>
        obtain ⟨v, h1, h2⟩ := h.vals t av hl
        show gAV P κ av (a.tmps.getD t undef)
        rw [Array.getD_eq_getD_getElem?, h1]
        exact h2
    · trivial
  | const v => exact absC_sound v
  | global g => trivial
  | func f => trivial
/-- A sequential step. -/
theorem stepS_sound (hF : FnsOk P F) {o : Oper} {σ : St} {K : St → Tree} (h : (exec P F σ.H.length o (padS σ (nNew P F o)) K).holds F J Q) (hr : Rel P w0 κ σ a w) {G : Act → World → Prop} {Qe : Exit → Act → World → Prop}
    (hG : ∀ κ' σ' a' w', κ.le κ' → Rel P w0 κ' σ' a' w' → (K σ').holds F J Q → G a' w') : o.wp P a w G Qe := by
  have hcs : cs (padS σ (nNew P F o)).H = cs σ.H := cs_pad _ _
  refine exec_sound hF h (C := cs σ.H) hr.inv hr.free (hr.t.evalR _) (fun id row hrow => ?_) (fun id h1 h2 h3 => ⟨cs_none h1, hr.fresh id h1 h3⟩) (fun κ' v w' hA => ?_)
  · unfold restr at hrow
    split at hrow
    · rw [hcs] at hrow; exact hrow
    · cases hrow
  · obtain ⟨us, av, h1, h2, h3, h3', h4, h5, h6, h7⟩ := hA
    have e9 : cs (setH (padS σ (nNew P F o)).H us) = upd (cs σ.H) us := by rw [cs_setH us _ h5, hcs]
    refine hG κ' _ _ w' h1 ⟨(hr.t.mono h1).put h4, ?_, fun id hid hb => ?_, fun i b o N h => h1.at_ _ _ (hr.pin i b o N h), ?_⟩ h7
    · show InvE P w0 κ' (cs (setH (padS σ (nNew P F o)).H us)) w'
      rw [e9]; exact h2
    rotate_left
    · show FreeN w0 κ' (cs (setH (padS σ (nNew P F o)).H us))
      rw [e9]; exact h3'
    · have hlen : (setH (padS σ (nNew P F o)).H us).length = (padS σ (nNew P F o)).H.length := setH_len _ _
      have hid' : (padS σ (nNew P F o)).H.length ≤ id := by rw [← hlen]; exact hid
      rw [h3 id hb (fun p hp e => ?_)]
      · exact hr.fresh id (by simp [padS] at hid'; omega) hb
      · have := List.all_eq_true.mp h5 p hp
        simp at this
        omega
end
def anyB : AV → Option Bool
  | .v (.one (.d (.bool b))) => some b
  | _ => none
def guardAt (ops : List Oper) (tmps : List AV) (j : Nat) : Option Bool :=
  match ops[j]? with
  | some o => match o.dst with
    | some d => litB (tmps.getD d anyV)
    | none => none
  | none => none
/-- What guards was itself left out. -/
def guardNo (ops : List Oper) (tmps : List AV) (j : Nat) : Bool :=
  match ops[j]? with
  | some o => match o.dst with
    | some d => (match tmps[d]? with | some (.tup []) => true | _ => false)
    | none => false
  | none => false
def stepT (P : Program) (F : Tb) (ops : List Oper) (o : Oper) (σ : St) (K : St → Tree) : Tree :=
  match o.guard with
  | none => exec P F σ.H.length o (padS σ (nNew P F o)) K
  | some (j, b) => match guardAt ops σ.tmps j with
    | some v => if v = b then exec P F σ.H.length o (padS σ (nNew P F o)) K else K ⟨putL σ.tmps o.dst (.tup []), σ.H⟩
    | none => if guardNo ops σ.tmps j = true then K ⟨putL σ.tmps o.dst (.tup []), σ.H⟩ else .fail
def sxOps (P : Program) (F : Tb) (ops : List Oper) : Nat → List Oper → St → (St → Tree) → Tree
  | _, [], σ, K => K σ
  | k, o :: l, σ, K => stepT P F ops o σ fun σ1 =>
    match (if Typ.isSource ops k = true then o.dst else none) with
    | none => sxOps P F ops (k + 1) l σ1 K
    | some d => match anyB (σ1.tmps.getD d anyV) with
      | some b => .ite b (sxOps P F ops (k + 1) l ⟨σ1.tmps.set d (lit true), σ1.H⟩ K) (sxOps P F ops (k + 1) l ⟨σ1.tmps.set d (lit false), σ1.H⟩ K)
      | none => sxOps P F ops (k + 1) l σ1 K
/-- The same, with what is known laid out afresh behind each step (the kernel then reads it faster). -/
def forceL {α β : Type} : List α → (List α → β) → β
  | [], k => k []
  | a :: l, k => forceL l fun l' => k (a :: l')
theorem forceL_eq {α β : Type} : ∀ (l : List α) (k : List α → β), forceL l k = k l
  | [], k => rfl
  | a :: l, k => by unfold forceL; rw [forceL_eq l]
def forceSt {β : Type} (σ : St) (k : St → β) : β := forceL σ.tmps fun t => forceL σ.H fun h => k ⟨t, h⟩
theorem forceSt_eq {β : Type} (σ : St) (k : St → β) : forceSt σ k = k σ := by unfold forceSt; rw [forceL_eq, forceL_eq]
def sxOpsF (P : Program) (F : Tb) (ops : List Oper) : Nat → List Oper → St → (St → Tree) → Tree
  | _, [], σ, K => K σ
  | k, o :: l, σ, K => stepT P F ops o σ fun σ1 => forceSt σ1 fun σ1 =>
    match (if Typ.isSource ops k = true then o.dst else none) with
    | none => sxOpsF P F ops (k + 1) l σ1 K
    | some d => match anyB (σ1.tmps.getD d anyV) with
      | some b => .ite b (sxOpsF P F ops (k + 1) l ⟨σ1.tmps.set d (lit true), σ1.H⟩ K) (sxOpsF P F ops (k + 1) l ⟨σ1.tmps.set d (lit false), σ1.H⟩ K)
      | none => sxOpsF P F ops (k + 1) l σ1 K
theorem sxOpsF_eq (P : Program) (F : Tb) (ops : List Oper) : ∀ (l : List Oper) (k : Nat) (σ : St) (K : St → Tree), sxOpsF P F ops k l σ K = sxOps P F ops k l σ K
  | [], k, σ, K => rfl
  | o :: l, k, σ, K => by
    unfold sxOpsF sxOps
    congr 1
    funext σ1
    rw [forceSt_eq]
    simp only [sxOpsF_eq P F ops l]
section
variable {P : Program} {w0 : Bs} {κ : Kr} {C : Cs} {w : World} {F : Tb} {a : Act} {J : Nat → List D → Prop} {Q : List D → Prop}
theorem anyB_spec {av : AV} {v : Bool} (h : anyB av = some v) : av = bool v := by
  unfold anyB at h
  split at h <;> try (cases h; done)
  injection h with h; subst h; rfl
theorem guardAt_sound {ops : Array Oper} {l : List AV} {j : Nat} {v : Bool} (ht : TRel P κ l a) (h : guardAt ops.toList l j = some v) : yielded ops a.tmps j = some v := by
  unfold guardAt at h
  split at h <;> try (cases h; done)
  rename_i o ho
  split at h <;> try (cases h; done)
  rename_i d hd
  have h1 := litB_spec h
  rw [Array.getElem?_toList] at ho
  rw [List.getD_eq_getElem?_getD] at h1
  cases hl : l[d]? with
  | none => rw [hl] at h1; cases h1
  | some x =>
    rw [hl] at h1
    simp at h1
    subst h1
    obtain ⟨u, h2, h3⟩ := ht.vals d _ hl
    rw [glit h3] at h2
    simp [yielded, ho, hd, h2]
theorem gundef {v : Value} (h : gAV P κ (.tup []) v) : v = undef := by
  obtain ⟨⟨vs⟩, rfl, h2⟩ := h
  cases vs with
  | nil => rfl
  | cons v vs => exact h2.elim
theorem gundef' : gAV P κ (.tup []) undef := ⟨#[], rfl, trivial⟩
theorem guardNo_sound {ops : Array Oper} {l : List AV} {j : Nat} (ht : TRel P κ l a) (h : guardNo ops.toList l j = true) : yielded ops a.tmps j = none := by
  unfold guardNo at h
  split at h <;> try (cases h; done)
  rename_i o ho
  split at h <;> try (cases h; done)
  rename_i d hd
  split at h <;> try (cases h; done)
  rename_i hl
  rw [Array.getElem?_toList] at ho
  obtain ⟨u, h2, h3⟩ := ht.vals d _ hl
  rw [gundef h3] at h2
  simp [yielded, ho, hd, h2, undef]
theorem stepT_sound (hF : FnsOk P F) {ops : Array Oper} {k : Nat} {o : Oper} (ho : ops[k]? = some o) {σ : St} {K : St → Tree} (h : (stepT P F ops.toList o σ K).holds F J Q) (hr : Rel P w0 κ σ a w) {G : Act → World → Prop} {Qe : Exit → Act → World → Prop}
    (hG : ∀ κ' σ' a' w', κ.le κ' → Rel P w0 κ' σ' a' w' → (K σ').holds F J Q → G a' w') : wpOp P ops Qe k G a w := by
  unfold stepT at h
  unfold wpOp
  rw [ho]
  simp only
  split at h
  · rename_i hgd
    rw [if_pos (by unfold Region.wanted; rw [hgd])]
    exact .inl (stepS_sound hF h hr hG)
  · rename_i j bb hgd
    split at h
    rotate_left
    · split at h <;> try (exact h.elim)
      rename_i hno
      have hy := guardNo_sound hr.t hno
      rw [if_neg (by unfold Region.wanted; rw [hgd]; simp [hy])]
      exact hG κ ⟨putL σ.tmps o.dst (.tup []), σ.H⟩ _ w (Kr.le.refl κ) ⟨hr.t.put gundef', hr.inv, hr.fresh, hr.pin, hr.free⟩ h
    rename_i v hv
    have hy := guardAt_sound hr.t hv
    split at h
    · rename_i e
      subst e
      rw [if_pos (by unfold Region.wanted; rw [hgd]; simp [hy])]
      exact .inl (stepS_sound hF h hr hG)
    · rename_i e
      rw [if_neg (by unfold Region.wanted; rw [hgd]; simp [hy, e])]
      exact hG κ ⟨putL σ.tmps o.dst (.tup []), σ.H⟩ _ w (Kr.le.refl κ) ⟨hr.t.put gundef', hr.inv, hr.fresh, hr.pin, hr.free⟩ h
theorem Rel.known {σ : St} (h : Rel P w0 κ σ a w) {d : Nat} {b : Bool} (hd : anyB (σ.tmps.getD d anyV) = some b) : Rel P w0 κ ⟨σ.tmps.set d (lit b), σ.H⟩ a w := by
  have h1 := anyB_spec hd
  rw [List.getD_eq_getElem?_getD] at h1
  cases hl : σ.tmps[d]? with
  | none => rw [hl] at h1; cases h1
  | some x =>
    rw [hl] at h1
    simp at h1
    subst h1
    refine ⟨⟨h.t.defers, by simp [h.t.size], fun i y hy => ?_⟩, h.inv, h.fresh, h.pin, h.free⟩
    rw [List.getElem?_set] at hy
    split at hy
    · rename_i e
      subst e
      split at hy <;> try (cases hy; done)
      injection hy with hy; subst hy
      obtain ⟨v, k1, k2⟩ := h.t.vals _ _ hl
      exact ⟨v, k1, gbool k2⟩
    · exact h.t.vals i y hy
theorem sxOps_sound (hF : FnsOk P F) {ops : Array Oper} {K : St → Tree} {Qe : Exit → Act → World → Prop} : ∀ (n k : Nat) (σ : St) (κ : Kr) (a : Act) (w : World), n + k = ops.size →
    (sxOps P F ops.toList k (ops.toList.drop k) σ K).holds F J Q → Rel P w0 κ σ a w → (∀ κ' σ' a' w', κ.le κ' → Rel P w0 κ' σ' a' w' → (K σ').holds F J Q → Qe .normal a' w') →
    wpOps P ops Qe (List.range' k n) a w
  | 0, k, σ, κ, a, w, hn, hs, hr, hQ => by
    rw [List.drop_eq_nil_of_le (by simp; omega)] at hs
    exact hQ κ σ a w (Kr.le.refl κ) hr hs
  | n + 1, k, σ, κ, a, w, hn, hs, hr, hQ => by
    have hk : k < ops.toList.length := by simp; omega
    rw [List.drop_eq_getElem_cons hk] at hs
    have ho : ops[k]? = some ops.toList[k] := by rw [← Array.getElem?_toList]; exact List.getElem?_eq_getElem hk
    unfold sxOps at hs
    rw [List.range'_succ, wpOps_cons]
    refine stepT_sound hF ho hs hr (fun κ' σ' a' w' g1 g2 g3 => ?_)
    have go : ∀ σ2, (sxOps P F ops.toList (k + 1) (ops.toList.drop (k + 1)) σ2 K).holds F J Q → Rel P w0 κ' σ2 a' w' → wpOps P ops Qe (List.range' (k + 1) n) a' w' :=
      fun σ2 h2 hr2 => sxOps_sound hF n (k + 1) σ2 κ' a' w' (by omega) h2 hr2 (fun κ'' σ'' a'' w'' j1 j2 j3 => hQ κ'' σ'' a'' w'' (g1.trans j1) j2 j3)
    split at g3
    · exact go σ' g3 g2
    · rename_i d hd
      split at g3
      · rename_i b hb
        have hkn := g2.known hb
        cases b with
        | true => exact go _ (g3.1 rfl) hkn
        | false => exact go _ (g3.2 rfl) hkn
      · exact go σ' g3 g2
end
def isCallO (o : Oper) : Bool := (isCallF o.op).isSome
/-- The rows that an operation may change. -/
def wset (P : Program) (F : Tb) (o : Oper) (σ : St) : List Nat :=
  if isWrF F o = true then (match opW P o.op (unlE o.op (evalR (opTmps o.op) σ.tmps)) (nd (restr σ.H (touch o.op σ))) with | some l => l | none => touch o.op σ) else []
/-- Whether an operation is wanted, if that is known. -/
def liveG (ops : List Oper) (tmps : List AV) (o : Oper) : Option Bool :=
  match o.guard with
  | none => some true
  | some (j, b) => match guardAt ops tmps j with
    | some v => some (v == b)
    | none => if guardNo ops tmps j = true then some false else none
/-- A truth that others hang on is known from here on. -/
def srcT (src : Bool) (dst : Option Nat) (σ1 : St) (K : St → Tree) : Tree :=
  match (if src = true then dst else none) with
  | none => K σ1
  | some d => match anyB (σ1.tmps.getD d anyV) with
    | some b => .ite b (K ⟨σ1.tmps.set d (lit true), σ1.H⟩) (K ⟨σ1.tmps.set d (lit false), σ1.H⟩)
    | none => K σ1
/-- An operation of a chain, with its own place for new rows, touching what is said. -/
def stepG (P : Program) (F : Tb) (ops : List Oper) (nb : Nat) (tc : List Nat × List Nat) (i : Nat) (o : Oper) (σ : St) (K : St → Tree) : Tree :=
  match liveG ops σ.tmps o with
  | some true => if touch o.op σ = tc.1 ∧ wset P F o σ = tc.2 then exec P F nb o σ (fun σ1 => srcT (Typ.isSource ops i) o.dst σ1 K) else .fail
  | some false => K ⟨putL σ.tmps o.dst (.tup []), σ.H⟩
  | none => .fail
def sxOrd (P : Program) (F : Tb) (ops : List Oper) (nb : Nat → Nat) (tc : Nat → List Nat × List Nat) : List Nat → St → (St → Tree) → Tree
  | [], σ, K => K σ
  | i :: l, σ, K => match ops[i]? with
    | some o => stepG P F ops (nb i) (tc i) i o σ (fun σ1 => sxOrd P F ops nb tc l σ1 K)
    | none => .fail
def sxOrdF (P : Program) (F : Tb) (ops : List Oper) (nb : Nat → Nat) (tc : Nat → List Nat × List Nat) : List Nat → St → (St → Tree) → Tree
  | [], σ, K => K σ
  | i :: l, σ, K => match ops[i]? with
    | some o => stepG P F ops (nb i) (tc i) i o σ (fun σ1 => forceSt σ1 fun σ1 => sxOrdF P F ops nb tc l σ1 K)
    | none => .fail
theorem sxOrdF_eq (P : Program) (F : Tb) (ops : List Oper) (nb : Nat → Nat) (tc : Nat → List Nat × List Nat) : ∀ (l : List Nat) (σ : St) (K : St → Tree), sxOrdF P F ops nb tc l σ K = sxOrd P F ops nb tc l σ K
  | [], σ, K => rfl
  | i :: l, σ, K => by
    unfold sxOrdF sxOrd
    simp only [forceSt_eq, sxOrdF_eq P F ops nb tc l]
/-- What an operation reads: its operands, and what guards it. -/
def gTmps (ops : List Oper) (o : Oper) : List Nat :=
  match o.guard with
  | none => []
  | some (j, _) => match ops[j]? with
    | some oj => oj.dst.toList
    | none => []
def rdTmps (ops : List Oper) (o : Oper) : List Nat := opTmps o.op ++ gTmps ops o
def disj (a b : List Nat) : Bool := a.all fun x => !b.contains x
def inNew (n m id : Nat) : Bool := decide (n ≤ id) && decide (id < n + m)
/-- Two operations that have nothing to do with each other. -/
def indep (P : Program) (F : Tb) (ops : List Oper) (nb : Nat → Nat) (tc : Nat → List Nat × List Nat) (i j : Nat) : Bool :=
  match ops[i]?, ops[j]? with
  | some oi, some oj =>
    (match oj.dst with | some d => !(rdTmps ops oi).contains d | none => true) && (match oi.dst with | some d => !(rdTmps ops oj).contains d | none => true) &&
    (match oi.dst, oj.dst with | some d, some d' => d != d' | _, _ => true) &&
    (disj (tc i).2 (tc j).1 && disj (tc j).2 (tc i).1 && disj (tc i).2 (tc j).2) &&
    ((tc i).1.all fun id => !inNew (nb j) (nNew P F oj) id) && ((tc j).1.all fun id => !inNew (nb i) (nNew P F oi) id) && ((tc i).2.all fun id => !inNew (nb j) (nNew P F oj) id) && ((tc j).2.all fun id => !inNew (nb i) (nNew P F oi) id) &&
    (decide (nb i + nNew P F oi ≤ nb j) || decide (nb j + nNew P F oj ≤ nb i))
  | _, _ => false
section
variable {P : Program} {w0 : Bs} {κ : Kr} {C : Cs} {w : World} {F : Tb} {a : Act} {J : Nat → List D → Prop} {Q : List D → Prop}
theorem needs_mono (ns : List Prop) (t1 t2 : Tree) (h : (Tree.needs ns t1).holds F J Q) (h2 : t1.holds F J Q → t2.holds F J Q) : (Tree.needs ns t2).holds F J Q := by
  cases ns with
  | nil => exact h2 h
  | cons p ps => exact ⟨h.1, h2 h.2⟩
theorem execC_mono {nb : Nat} {o : Oper} {σ : St} {K1 K2 : St → Tree} {f : Nat} {args : Array Operand} {s : Sig} (hs : F f = some s) (h : (execC P nb o σ K1 f args s).holds F J Q) (hK : ∀ σ', (K1 σ').holds F J Q → (K2 σ').holds F J Q) : (execC P nb o σ K2 f args s).holds F J Q := by
  unfold execC at h ⊢
  split at h <;> try (exact h.elim)
  split at h <;> try (exact h.elim)
  split at h <;> try (exact h.elim)
  rename_i hf
  simp only [if_pos hf]
  refine needs_mono _ _ _ h (fun h => ?_)
  unfold Tree.holds at h ⊢
  rw [hs] at h ⊢
  refine ⟨h.1, fun ys hy => ?_⟩
  have := h.2 ys hy
  simp only at this ⊢
  split at this <;> try (exact this.elim)
  exact hK _ this
theorem execR_mono {nb : Nat} {o : Oper} {σ : St} {K1 K2 : St → Tree} {f : Nat} {args : Array Operand} {s : Sig} {z : Bool} (hs : F f = some s) (h : (execR P nb o σ K1 f args s z).holds F J Q) (hK : ∀ σ', (K1 σ').holds F J Q → (K2 σ').holds F J Q) : (execR P nb o σ K2 f args s z).holds F J Q := by
  unfold execR at h ⊢
  split at h <;> try (exact h.elim)
  split at h <;> try (exact h.elim)
  rename_i hf
  simp only [if_pos hf]
  refine needs_mono _ _ _ h (fun h => ?_)
  unfold Tree.holds at h ⊢
  rw [hs] at h ⊢
  refine ⟨h.1, fun ys hy => ?_⟩
  have := h.2 ys hy
  simp only at this ⊢
  split at this <;> try (exact this.elim)
  exact hK _ this
theorem execO_mono {nb : Nat} {o : Oper} {σ : St} {K1 K2 : St → Tree} {f : Nat} {args : Array Operand} {s : Sig} (hs : F f = some s) (h : (execO P nb o σ K1 f args s).holds F J Q) (hK : ∀ σ', (K1 σ').holds F J Q → (K2 σ').holds F J Q) : (execO P nb o σ K2 f args s).holds F J Q := by
  unfold execO at h ⊢
  split at h <;> try (exact h.elim)
  split at h <;> try (exact h.elim)
  rename_i hf
  simp only [if_pos hf]
  refine needs_mono _ _ _ h (fun h => ?_)
  unfold Tree.holds at h ⊢
  rw [hs] at h ⊢
  exact ⟨h.1, fun ys hy => hK _ (h.2 ys hy)⟩
theorem execOD_mono {nb : Nat} {o : Oper} {σ : St} {K1 K2 : St → Tree} {f : Nat} {args : Array Operand} {s : Sig} (hs : F f = some s) (h : (execOD P nb o σ K1 f args s).holds F J Q) (hK : ∀ σ', (K1 σ').holds F J Q → (K2 σ').holds F J Q) : (execOD P nb o σ K2 f args s).holds F J Q := by
  unfold execOD at h ⊢
  split at h <;> try (exact h.elim)
  split at h <;> try (exact h.elim)
  split at h <;> try (exact h.elim)
  rename_i hf
  simp only [if_pos hf]
  refine needs_mono _ _ _ h (fun h => ?_)
  unfold Tree.holds at h ⊢
  rw [hs] at h ⊢
  refine ⟨h.1, fun ys hy => ?_⟩
  have := h.2 ys hy
  simp only at this ⊢
  split at this <;> try (exact this.elim)
  exact hK _ this
theorem execWD_mono {o : Oper} {σ : St} {K1 K2 : St → Tree} {f : Nat} {args : Array Operand} {s : Sig} (hs : F f = some s) (h : (execWD P o σ K1 f args s).holds F J Q) (hK : ∀ σ', (K1 σ').holds F J Q → (K2 σ').holds F J Q) : (execWD P o σ K2 f args s).holds F J Q := by
  unfold execWD at h ⊢
  split at h <;> try (exact h.elim)
  split at h <;> try (exact h.elim)
  split at h <;> try (exact h.elim)
  rename_i hf
  simp only [if_pos hf]
  refine needs_mono _ _ _ h (fun h => ?_)
  unfold Tree.holds at h ⊢
  rw [hs] at h ⊢
  refine ⟨h.1, fun ys hy => ?_⟩
  have := h.2 ys hy
  simp only at this ⊢
  split at this <;> try (exact this.elim)
  exact needs_mono _ _ _ this (fun h => hK _ h)
theorem execI_mono {o : Oper} {σ : St} {K1 K2 : St → Tree} {f : Nat} {args : Array Operand} {s : Sig} (hs : F f = some s) (h : (execI P o σ K1 f args s).holds F J Q) (hK : ∀ σ', (K1 σ').holds F J Q → (K2 σ').holds F J Q) : (execI P o σ K2 f args s).holds F J Q := by
  unfold execI at h ⊢
  split at h <;> try (exact h.elim)
  split at h <;> try (exact h.elim)
  split at h <;> try (exact h.elim)
  rename_i hf
  simp only [if_pos hf]
  refine needs_mono _ _ _ h (fun h => ?_)
  unfold Tree.holds at h ⊢
  rw [hs] at h ⊢
  refine ⟨h.1, fun ys hy => ?_⟩
  have := h.2 ys hy
  simp only at this ⊢
  split at this <;> try (exact this.elim)
  exact hK _ this
theorem execF_mono {nb : Nat} {o : Oper} {σ : St} {K1 K2 : St → Tree} {f : Nat} {args : Array Operand} {s : Sig} (hs : F f = some s) (h : (execF P nb o σ K1 f args s).holds F J Q) (hK : ∀ σ', (K1 σ').holds F J Q → (K2 σ').holds F J Q) : (execF P nb o σ K2 f args s).holds F J Q := by
  unfold execF at h ⊢
  split at h
  · exact execR_mono hs h hK
  · exact execO_mono hs h hK
  · exact execOD_mono hs h hK
  · exact execWD_mono hs h hK
  · split at h
    · rename_i hi; rw [if_pos hi]; exact execI_mono hs h hK
    · rename_i hi; rw [if_neg hi]; exact execC_mono hs h hK
  · exact execC_mono hs h hK
theorem exec_mono {nb : Nat} {o : Oper} {σ : St} {K1 K2 : St → Tree} (h : (exec P F nb o σ K1).holds F J Q) (hK : ∀ σ', (K1 σ').holds F J Q → (K2 σ').holds F J Q) : (exec P F nb o σ K2).holds F J Q := by
  unfold exec at h ⊢
  split at h <;> try (exact h.elim)
  rename_i hb
  rw [if_pos hb]
  split at h
  · split at h <;> try (exact h.elim)
    rename_i s hs
    exact execF_mono hs h hK
  · split at h <;> try (exact h.elim)
    split at h <;> try (exact h.elim)
    rename_i hf
    simp only [if_pos hf]
    exact needs_mono _ _ _ h (fun h => hK _ h)
theorem srcT_mono {src : Bool} {dst : Option Nat} {σ1 : St} {K1 K2 : St → Tree} (h : (srcT src dst σ1 K1).holds F J Q) (hK : ∀ σ', (K1 σ').holds F J Q → (K2 σ').holds F J Q) : (srcT src dst σ1 K2).holds F J Q := by
  unfold srcT at h ⊢
  split at h
  · exact hK _ h
  · split at h
    · exact ⟨fun e => hK _ (h.1 e), fun e => hK _ (h.2 e)⟩
    · exact hK _ h
theorem stepG_mono {ops : List Oper} {nb : Nat} {tc : List Nat × List Nat} {i : Nat} {o : Oper} {σ : St} {K1 K2 : St → Tree} (h : (stepG P F ops nb tc i o σ K1).holds F J Q) (hK : ∀ σ', (K1 σ').holds F J Q → (K2 σ').holds F J Q) : (stepG P F ops nb tc i o σ K2).holds F J Q := by
  unfold stepG at h ⊢
  split at h
  · split at h <;> try (exact h.elim)
    rename_i ht
    rw [if_pos ht]
    exact exec_mono h (fun σ' h => srcT_mono h hK)
  · exact hK _ h
  · exact h.elim
theorem evalR_put {ts : List Nat} {tmps : List AV} {dst : Option Nat} {av : AV} (h : ∀ d, dst = some d → ts.contains d = false) : evalR ts (putL tmps dst av) = evalR ts tmps := by
  funext x
  cases x with
  | tmp t =>
    unfold evalR
    simp only
    by_cases ht : ts.contains t = true
    · rw [if_pos ht, if_pos ht]
      cases dst with
      | none => rfl
      | some d =>
        have : d ≠ t := fun e => by subst e; rw [h d rfl] at ht; cases ht
        simp [putL, List.getD_eq_getElem?_getD, this]
    · rw [if_neg ht, if_neg ht]
  | _ => rfl
theorem flatMap_same {α β : Type} {f g : α → List β} : ∀ {l : List α}, (∀ x ∈ l, f x = g x) → l.flatMap f = l.flatMap g
  | [], _ => rfl
  | x :: l, h => by rw [List.flatMap_cons, List.flatMap_cons, h x (by simp), flatMap_same (fun y hy => h y (by simp [hy]))]
theorem needs_holds {ns : List Prop} {t : Tree} (hn : all_ ns) (h : t.holds F J Q) : (Tree.needs ns t).holds F J Q := by
  cases ns with
  | nil => exact h
  | cons p ps => exact ⟨hn, h⟩
/-- What is touched is what was touched, if its rows are. -/
theorem touch_same {op : Op} {σ σ' : St} (he : evalR (opTmps op) σ'.tmps = evalR (opTmps op) σ.tmps) (hr : ∀ id ∈ touch op σ, cs σ'.H id = cs σ.H id) : touch op σ' = touch op σ ∧ restr σ'.H (touch op σ') = restr σ.H (touch op σ) := by
  have h1 : touch op σ' = touch op σ := by
    unfold touch at hr ⊢
    split
    · rename_i hl
      rw [if_pos hl] at hr
      simp only [he]
      congr 1
      refine flatMap_same (fun id hid => ?_)
      rw [hr id (List.mem_append_left _ hid)]
    · rfl
  refine ⟨h1, ?_⟩
  funext id
  unfold restr
  rw [h1]
  by_cases h : (touch op σ).contains id = true
  · rw [if_pos h, if_pos h, hr id (by simpa using h)]
  · rw [if_neg h, if_neg h]
theorem execC_else {nb : Nat} {o : Oper} {σ σ' : St} {K K' : St → Tree} {f : Nat} {args : Array Operand} {s : Sig} (hcf : isCallF o.op = some (f, args)) (hs : F f = some s) (hnop : s.md ≠ .op) (h : (execC P nb o σ K f args s).holds F J Q) (he : evalR (opTmps o.op) σ'.tmps = evalR (opTmps o.op) σ.tmps) (hr : ∀ id ∈ touch o.op σ, cs σ'.H id = cs σ.H id) (hl : σ'.H.length = σ.H.length)
    (hK : ∀ av us, (∀ p ∈ us, p.1 ∈ touch o.op σ ∧ isWrF F o = true ∨ nb ≤ p.1 ∧ p.1 < nb + nNew P F o) → (K ⟨putL σ.tmps o.dst av, setH σ.H us⟩).holds F J Q → (K' ⟨putL σ'.tmps o.dst av, setH σ'.H us⟩).holds F J Q) :
    (execC P nb o σ' K' f args s).holds F J Q := by
  obtain ⟨ht, hre⟩ := touch_same he hr
  unfold execC at h ⊢
  rw [he, hre, hl]
  split at h <;> try (exact h.elim)
  rename_i as pk rk has hpk hrk
  split at h <;> try (exact h.elim)
  rename_i ns ds kl hcv
  split at h <;> try (exact h.elim)
  rename_i hf
  simp only [if_pos hf]
  refine needs_mono _ _ _ h (fun h => ?_)
  unfold Tree.holds at h ⊢
  rw [hs] at h ⊢
  refine ⟨h.1, fun ys hy => ?_⟩
  have := h.2 ys hy
  simp only at this ⊢
  split at this <;> try (exact this.elim)
  refine hK _ _ (fun p hp => ?_) this
  have hop : ∃ ts, o.op = .call ⟨.value (.func f), args, ts⟩ := call_op hcf
  have hnn : nNew P F o = nRes s rk := nNew_call ⟨hcf, hop, hs⟩ hnop hrk
  rw [hnn]
  rcases resU_ids hcv _ _ _ p hp with ⟨⟨row, h1⟩, h2⟩ | h1
  · refine .inl ⟨?_, by unfold isWrF; rw [hcf]; simp only; rw [hs]; simp only; rw [h2]; simp⟩
    unfold restr at h1
    split at h1
    · rename_i h3; simpa using h3
    · cases h1
  · exact .inr h1
theorem restr_mem {H : List (Option Row)} {ids : List Nat} {id : Nat} {row : Row} (h : restr H ids id = some row) : id ∈ ids := by
  unfold restr at h
  split at h
  · rename_i h3; simpa using h3
  · cases h
theorem execR_else {nb : Nat} {o : Oper} {σ σ' : St} {K K' : St → Tree} {f : Nat} {args : Array Operand} {s : Sig} {z : Bool} (hcf : isCallF o.op = some (f, args)) (hs : F f = some s) (hmd : s.md = .rd z) (h : (execR P nb o σ K f args s z).holds F J Q) (he : evalR (opTmps o.op) σ'.tmps = evalR (opTmps o.op) σ.tmps) (hr : ∀ id ∈ touch o.op σ, cs σ'.H id = cs σ.H id) (hl : σ'.H.length = σ.H.length)
    (hK : ∀ av us, (∀ p ∈ us, p.1 ∈ touch o.op σ ∧ isWrF F o = true ∨ nb ≤ p.1 ∧ p.1 < nb + nNew P F o) → (K ⟨putL σ.tmps o.dst av, setH σ.H us⟩).holds F J Q → (K' ⟨putL σ'.tmps o.dst av, setH σ'.H us⟩).holds F J Q) :
    (execR P nb o σ' K' f args s z).holds F J Q := by
  obtain ⟨ht, hre⟩ := touch_same he hr
  unfold execR at h ⊢
  rw [he, hre, hl]
  split at h <;> try (exact h.elim)
  rename_i id row ds pk rk ns xs hread
  split at h <;> try (exact h.elim)
  rename_i hf
  simp only [if_pos hf]
  refine needs_mono _ _ _ h (fun h => ?_)
  unfold Tree.holds at h ⊢
  rw [hs] at h ⊢
  refine ⟨h.1, fun ys hy => ?_⟩
  have := h.2 ys hy
  simp only at this ⊢
  split at this <;> try (exact this.elim)
  refine hK _ _ (fun p hp => ?_) this
  obtain ⟨a0, rest, pt, pts, as, xs0, e0, e1, e2, e3, e4, e5, e6, e7, e8, e9, _⟩ := readR_spec hread
  have hnn : nNew P F o = nRes s rk := nNew_call ⟨hcf, call_op hcf, hs⟩ (by rw [hmd]; simp) e5
  have hnr : nRes s rk = if z = true then 0 else lists rk := by unfold nRes; rw [hmd]; cases z <;> rfl
  rcases List.mem_cons.mp hp with rfl | hp
  · exact .inl ⟨restr_mem (nd_some (ptrArg_spec e2).2.1).1, by unfold isWrF; rw [hcf]; simp only; rw [hs]; simp only; rw [hmd]; simp [mdWr]⟩
  · rw [hnn, hnr]; exact .inr (resR_ids _ _ _ _ p hp)
theorem execO_else {nb : Nat} {o : Oper} {σ σ' : St} {K K' : St → Tree} {f : Nat} {args : Array Operand} {s : Sig} (hcf : isCallF o.op = some (f, args)) (hs : F f = some s) (hmd : s.md = .op) (h : (execO P nb o σ K f args s).holds F J Q) (he : evalR (opTmps o.op) σ'.tmps = evalR (opTmps o.op) σ.tmps) (hr : ∀ id ∈ touch o.op σ, cs σ'.H id = cs σ.H id) (hl : σ'.H.length = σ.H.length)
    (hK : ∀ av us, (∀ p ∈ us, p.1 ∈ touch o.op σ ∧ isWrF F o = true ∨ nb ≤ p.1 ∧ p.1 < nb + nNew P F o) → (K ⟨putL σ.tmps o.dst av, setH σ.H us⟩).holds F J Q → (K' ⟨putL σ'.tmps o.dst av, setH σ'.H us⟩).holds F J Q) :
    (execO P nb o σ' K' f args s).holds F J Q := by
  obtain ⟨ht, hre⟩ := touch_same he hr
  unfold execO at h ⊢
  rw [he, hre, hl]
  split at h <;> try (exact h.elim)
  split at h <;> try (exact h.elim)
  rename_i hf
  simp only [if_pos hf]
  refine needs_mono _ _ _ h (fun h => ?_)
  unfold Tree.holds at h ⊢
  rw [hs] at h ⊢
  refine ⟨h.1, fun ys hy => ?_⟩
  have := h.2 ys hy
  refine hK _ _ (fun p hp => .inr ?_) this
  have hnn : nNew P F o = 1 := by unfold nNew; rw [hcf]; simp only; rw [hs]; simp only; rw [hmd]
  obtain rfl : p = _ := by simpa using hp
  rw [hnn]
  exact ⟨Nat.le_refl _, Nat.lt_succ_self _⟩
theorem execOD_else {nb : Nat} {o : Oper} {σ σ' : St} {K K' : St → Tree} {f : Nat} {args : Array Operand} {s : Sig} (hcf : isCallF o.op = some (f, args)) (hs : F f = some s) (hmd : s.md = .ownD) (h : (execOD P nb o σ K f args s).holds F J Q) (he : evalR (opTmps o.op) σ'.tmps = evalR (opTmps o.op) σ.tmps) (hr : ∀ id ∈ touch o.op σ, cs σ'.H id = cs σ.H id) (hl : σ'.H.length = σ.H.length)
    (hK : ∀ av us, (∀ p ∈ us, p.1 ∈ touch o.op σ ∧ isWrF F o = true ∨ nb ≤ p.1 ∧ p.1 < nb + nNew P F o) → (K ⟨putL σ.tmps o.dst av, setH σ.H us⟩).holds F J Q → (K' ⟨putL σ'.tmps o.dst av, setH σ'.H us⟩).holds F J Q) :
    (execOD P nb o σ' K' f args s).holds F J Q := by
  obtain ⟨ht, hre⟩ := touch_same he hr
  unfold execOD at h ⊢
  rw [he, hre, hl]
  split at h <;> try (exact h.elim)
  rename_i as pk t rk has hpk hrk
  split at h <;> try (exact h.elim)
  skip
  split at h <;> try (exact h.elim)
  rename_i hf
  simp only [if_pos hf]
  refine needs_mono _ _ _ h (fun h => ?_)
  unfold Tree.holds at h ⊢
  rw [hs] at h ⊢
  refine ⟨h.1, fun ys hy => ?_⟩
  have := h.2 ys hy
  simp only at this ⊢
  split at this <;> try (exact this.elim)
  refine hK _ _ (fun p hp => .inr ?_) this
  have hnn : nNew P F o = 1 := by rw [nNew_call ⟨hcf, call_op hcf, hs⟩ (by rw [hmd]; simp) hrk]; unfold nRes; rw [hmd]
  obtain rfl : p = _ := by simpa using hp
  rw [hnn]
  exact ⟨Nat.le_refl _, Nat.lt_succ_self _⟩
theorem execWD_else {nb : Nat} {o : Oper} {σ σ' : St} {K K' : St → Tree} {f : Nat} {args : Array Operand} {s : Sig} (hcf : isCallF o.op = some (f, args)) (hs : F f = some s) (hmd : s.md = .wrD) (h : (execWD P o σ K f args s).holds F J Q) (he : evalR (opTmps o.op) σ'.tmps = evalR (opTmps o.op) σ.tmps) (hr : ∀ id ∈ touch o.op σ, cs σ'.H id = cs σ.H id) (hl : σ'.H.length = σ.H.length)
    (hK : ∀ av us, (∀ p ∈ us, p.1 ∈ touch o.op σ ∧ isWrF F o = true ∨ nb ≤ p.1 ∧ p.1 < nb + nNew P F o) → (K ⟨putL σ.tmps o.dst av, setH σ.H us⟩).holds F J Q → (K' ⟨putL σ'.tmps o.dst av, setH σ'.H us⟩).holds F J Q) :
    (execWD P o σ' K' f args s).holds F J Q := by
  obtain ⟨ht, hre⟩ := touch_same he hr
  unfold execWD at h ⊢
  rw [he, hre, hl]
  split at h <;> try (exact h.elim)
  rename_i as t pk rk has hpk hrk
  split at h <;> try (exact h.elim)
  rename_i id ds len ns xs hwr hsc
  split at h <;> try (exact h.elim)
  rename_i hf
  simp only [if_pos hf]
  refine needs_mono _ _ _ h (fun h => ?_)
  unfold Tree.holds at h ⊢
  rw [hs] at h ⊢
  refine ⟨h.1, fun ys hy => ?_⟩
  have := h.2 ys hy
  simp only at this ⊢
  split at this <;> try (exact this.elim)
  refine needs_mono _ _ _ this (fun h => hK _ _ (fun p hp => .inl ⟨?_, by unfold isWrF; rw [hcf]; simp only; rw [hs]; simp only; rw [hmd]; simp [mdWr]⟩) h)
  obtain rfl : p = _ := by simpa using hp
  unfold wrDA at hwr
  split at hwr <;> try (cases hwr; done)
  split at hwr <;> try (cases hwr; done)
  rename_i hrow
  split at hwr <;> try (cases hwr; done)
  injection hwr with hwr; injection hwr with e1 e2
  subst e1
  exact restr_mem hrow
theorem execI_else {nb : Nat} {o : Oper} {σ σ' : St} {K K' : St → Tree} {f : Nat} {args : Array Operand} {s : Sig} (hcf : isCallF o.op = some (f, args)) (hs : F f = some s) (hmd : s.md = .wr) (h : (execI P o σ K f args s).holds F J Q) (he : evalR (opTmps o.op) σ'.tmps = evalR (opTmps o.op) σ.tmps) (hr : ∀ id ∈ touch o.op σ, cs σ'.H id = cs σ.H id) (hl : σ'.H.length = σ.H.length)
    (hK : ∀ av us, (∀ p ∈ us, p.1 ∈ touch o.op σ ∧ isWrF F o = true ∨ nb ≤ p.1 ∧ p.1 < nb + nNew P F o) → (K ⟨putL σ.tmps o.dst av, setH σ.H us⟩).holds F J Q → (K' ⟨putL σ'.tmps o.dst av, setH σ'.H us⟩).holds F J Q) :
    (execI P o σ' K' f args s).holds F J Q := by
  obtain ⟨ht, hre⟩ := touch_same he hr
  unfold execI at h ⊢
  rw [he, hre, hl]
  split at h <;> try (exact h.elim)
  rename_i as t pk rk has hpk hrk
  split at h <;> try (exact h.elim)
  rename_i id v ds p n xs hwr hsc
  split at h <;> try (exact h.elim)
  rename_i hf
  simp only [if_pos hf]
  refine needs_mono _ _ _ h (fun h => ?_)
  unfold Tree.holds at h ⊢
  rw [hs] at h ⊢
  refine ⟨h.1, fun ys hy => ?_⟩
  have := h.2 ys hy
  simp only at this ⊢
  split at this <;> try (exact this.elim)
  refine hK _ _ (fun p hp => .inl ⟨?_, by unfold isWrF; rw [hcf]; simp only; rw [hs]; simp only; rw [hmd]; simp [mdWr]⟩) this
  obtain rfl : p = _ := by simpa using hp
  unfold wrIA at hwr
  split at hwr <;> try (cases hwr; done)
  split at hwr <;> try (cases hwr; done)
  rename_i hrow
  split at hwr <;> try (cases hwr; done)
  injection hwr with hwr; injection hwr with e1 e2
  subst e1
  exact restr_mem hrow
theorem execF_else {nb : Nat} {o : Oper} {σ σ' : St} {K K' : St → Tree} {f : Nat} {args : Array Operand} {s : Sig} (hcf : isCallF o.op = some (f, args)) (hs : F f = some s) (h : (execF P nb o σ K f args s).holds F J Q) (he : evalR (opTmps o.op) σ'.tmps = evalR (opTmps o.op) σ.tmps) (hr : ∀ id ∈ touch o.op σ, cs σ'.H id = cs σ.H id) (hl : σ'.H.length = σ.H.length)
    (hK : ∀ av us, (∀ p ∈ us, p.1 ∈ touch o.op σ ∧ isWrF F o = true ∨ nb ≤ p.1 ∧ p.1 < nb + nNew P F o) → (K ⟨putL σ.tmps o.dst av, setH σ.H us⟩).holds F J Q → (K' ⟨putL σ'.tmps o.dst av, setH σ'.H us⟩).holds F J Q) :
    (execF P nb o σ' K' f args s).holds F J Q := by
  unfold execF at h ⊢
  split at h
  · rename_i z hm; exact execR_else hcf hs hm h he hr hl hK
  · rename_i hm; exact execO_else hcf hs hm h he hr hl hK
  · rename_i hm; exact execOD_else hcf hs hm h he hr hl hK
  · rename_i hm; exact execWD_else hcf hs hm h he hr hl hK
  · rename_i hm
    rw [he]
    split at h
    · rename_i hi; rw [if_pos hi]; exact execI_else hcf hs hm h he hr hl hK
    · rename_i hi; rw [if_neg hi]; exact execC_else hcf hs (by rw [hm]; simp) h he hr hl hK
  · rename_i h1 h2 h3 h4 h5
    exact execC_else hcf hs h2 h he hr hl hK
/-- An operation elsewhere: the same but for what else was changed. -/
theorem exec_else {nb : Nat} {o : Oper} {σ σ' : St} {K K' : St → Tree} (h : (exec P F nb o σ K).holds F J Q) (he : evalR (opTmps o.op) σ'.tmps = evalR (opTmps o.op) σ.tmps) (hr : ∀ id ∈ touch o.op σ, cs σ'.H id = cs σ.H id) (hl : σ'.H.length = σ.H.length)
    (hK : ∀ av us, (∀ p ∈ us, p.1 ∈ touch o.op σ ∧ isWrF F o = true ∨ nb ≤ p.1 ∧ p.1 < nb + nNew P F o) → (K ⟨putL σ.tmps o.dst av, setH σ.H us⟩).holds F J Q → (K' ⟨putL σ'.tmps o.dst av, setH σ'.H us⟩).holds F J Q) :
    (exec P F nb o σ' K').holds F J Q := by
  obtain ⟨ht, hre⟩ := touch_same he hr
  unfold exec at h ⊢
  rw [hl]
  split at h <;> try (exact h.elim)
  rename_i hb
  rw [if_pos hb]
  split at h
  · rename_i f args hcf
    split at h <;> try (exact h.elim)
    rename_i s hs
    exact execF_else hcf hs h he hr hl hK
  · rename_i hcf
    rw [he, hre]
    split at h <;> try (exact h.elim)
    rename_i ns av us hm
    split at h <;> try (exact h.elim)
    rename_i hf
    simp only [if_pos hf]
    refine needs_mono _ _ _ h (fun h => hK _ _ (fun p hp => ?_) h)
    rcases mOpX_ids hm p hp with ⟨⟨row, h1⟩, h2⟩ | ⟨h1, h2⟩
    · exact .inl ⟨restr_mem h1, by unfold isWrF; rw [h2]; rfl⟩
    · have hnn : nNew P F o = 1 := by unfold nNew; rw [hcf]; simp [h2]
      exact .inr ⟨by omega, by omega⟩
theorem opW_call {op : Op} {x : Nat × Array Operand} (h : isCallF op = some x) (e : Operand → AV) (g : Cs) : opW P op e g = none := by
  unfold isCallF at h
  split at h <;> first | rfl | cases h
theorem wset_same {o : Oper} {σ σ' : St} (he : evalR (opTmps o.op) σ'.tmps = evalR (opTmps o.op) σ.tmps) (hr : ∀ id ∈ touch o.op σ, cs σ'.H id = cs σ.H id) : wset P F o σ' = wset P F o σ := by
  obtain ⟨h1, h2⟩ := touch_same he hr
  unfold wset
  rw [he, h2, h1]
theorem mOp_idsW {o : Oper} {σ : St} {nb : Nat} {ns : List Prop} {av : AV} {us : Us} (hcf : isCallF o.op = none) (h : mOpX P o.op (unlE o.op (evalR (opTmps o.op) σ.tmps)) (restr σ.H (touch o.op σ)) nb = some (ns, av, us)) : ∀ p ∈ us, p.1 ∈ wset P F o σ ∨ nb ≤ p.1 ∧ p.1 < nb + nNew P F o := by
  intro p hp
  rcases mOpX_ids h p hp with ⟨⟨row, g1⟩, g2⟩ | ⟨g1, g2⟩
  · have hw : isWrF F o = true := by unfold isWrF; rw [g2]; rfl
    unfold wset
    rw [if_pos hw]
    cases ha : opW P o.op (unlE o.op (evalR (opTmps o.op) σ.tmps)) (nd (restr σ.H (touch o.op σ))) with
    | none => exact .inl (restr_mem g1)
    | some l =>
      rcases mOpX_opW ha h p hp with h1 | ⟨h1, h2⟩
      · exact .inl h1
      · have hnn : nNew P F o = 1 := by unfold nNew; rw [hcf]; simp [h2]
        exact .inr ⟨by omega, by omega⟩
  · have hnn : nNew P F o = 1 := by unfold nNew; rw [hcf]; simp [g2]
    exact .inr ⟨by omega, by omega⟩
/-- As exec_else, with what may change told finer. -/
theorem exec_elseW {nb : Nat} {o : Oper} {σ σ' : St} {K K' : St → Tree} (h : (exec P F nb o σ K).holds F J Q) (he : evalR (opTmps o.op) σ'.tmps = evalR (opTmps o.op) σ.tmps) (hr : ∀ id ∈ touch o.op σ, cs σ'.H id = cs σ.H id) (hl : σ'.H.length = σ.H.length)
    (hK : ∀ av us, (∀ p ∈ us, p.1 ∈ wset P F o σ ∨ nb ≤ p.1 ∧ p.1 < nb + nNew P F o) → (K ⟨putL σ.tmps o.dst av, setH σ.H us⟩).holds F J Q → (K' ⟨putL σ'.tmps o.dst av, setH σ'.H us⟩).holds F J Q) :
    (exec P F nb o σ' K').holds F J Q := by
  cases hcf : isCallF o.op with
  | some x =>
    refine exec_else h he hr hl (fun av us hus h => hK av us (fun p hp => ?_) h)
    rcases hus p hp with ⟨h1, h2⟩ | h1
    · left
      unfold wset
      rw [if_pos h2, opW_call hcf]
      exact h1
    · exact .inr h1
  | none =>
    obtain ⟨ht, hre⟩ := touch_same he hr
    unfold exec at h ⊢
    rw [hl]
    split at h <;> try (exact h.elim)
    rename_i hb
    rw [if_pos hb]
    rw [hcf] at h ⊢
    simp only at h ⊢
    rw [he, hre]
    split at h <;> try (exact h.elim)
    rename_i ns av us hm
    split at h <;> try (exact h.elim)
    rename_i hf
    simp only [if_pos hf]
    exact needs_mono _ _ _ h (fun h => hK _ _ (mOp_idsW hcf hm) h)
theorem liveG_same {ops : List Oper} {o : Oper} {t t' : List AV} (h : ∀ d ∈ gTmps ops o, t'[d]? = t[d]?) : liveG ops t' o = liveG ops t o := by
  unfold liveG
  cases hg : o.guard with
  | none => rfl
  | some x =>
    obtain ⟨j, b⟩ := x
    simp only
    have key : guardAt ops t' j = guardAt ops t j ∧ guardNo ops t' j = guardNo ops t j := by
      unfold guardAt guardNo
      cases ho : ops[j]? with
      | none => exact ⟨rfl, rfl⟩
      | some oj =>
        simp only
        cases hd : oj.dst with
        | none => exact ⟨rfl, rfl⟩
        | some d =>
          simp only
          have := h d (by unfold gTmps; rw [hg]; simp only; rw [ho]; simp only; rw [hd]; simp)
          rw [List.getD_eq_getElem?_getD, List.getD_eq_getElem?_getD, this]
          exact ⟨rfl, rfl⟩
    rw [key.1, key.2]
theorem putL_get {t : List AV} {dst : Option Nat} {av : AV} {d : Nat} (h : ∀ x, dst = some x → x ≠ d) : (putL t dst av)[d]? = t[d]? := by
  cases dst with
  | none => rfl
  | some x => exact List.getElem?_set_ne (h x rfl)
theorem putL_len {t : List AV} {dst : Option Nat} {av : AV} : (putL t dst av).length = t.length := by
  cases dst with
  | none => rfl
  | some x => exact List.length_set
theorem putL_twice {t : List AV} {d : Nat} {av av' : AV} : (putL t (some d) av).set d av' = putL t (some d) av' := List.set_set _
theorem getD_putL {t : List AV} {d : Nat} {av : AV} : (putL t (some d) av).getD d anyV = if d < t.length then av else anyV := by
  unfold putL
  rw [List.getD_eq_getElem?_getD, List.getElem?_set]
  simp only [if_true]
  split <;> rfl
/-- What comes behind a step sees one more temporary and some rows changed. -/
theorem srcT_else {src : Bool} {dst : Option Nat} {t t' : List AV} {H H' : List (Option Row)} {av : AV} {K K' : St → Tree} (hl : t'.length = t.length) (h : (srcT src dst ⟨putL t dst av, H⟩ K).holds F J Q)
    (hK : ∀ av', (K ⟨putL t dst av', H⟩).holds F J Q → (K' ⟨putL t' dst av', H'⟩).holds F J Q) : (srcT src dst ⟨putL t' dst av, H'⟩ K').holds F J Q := by
  unfold srcT at h ⊢
  cases src with
  | false => simp only [Bool.false_eq_true, if_false] at h ⊢; exact hK _ h
  | true =>
    simp only [if_true] at h ⊢
    cases dst with
    | none => exact hK av h
    | some d =>
      simp only [getD_putL, hl, putL_twice] at h ⊢
      split at h
      · exact ⟨fun e => hK _ (h.1 e), fun e => hK _ (h.2 e)⟩
      · exact hK _ h
/-- A step elsewhere: the same but for what else was changed. -/
theorem stepG_else {ops : List Oper} {nb : Nat} {tc : List Nat × List Nat} {i : Nat} {o : Oper} {σ σ' : St} {K K' : St → Tree} (h : (stepG P F ops nb tc i o σ K).holds F J Q) (hg : liveG ops σ'.tmps o = liveG ops σ.tmps o) (he : evalR (opTmps o.op) σ'.tmps = evalR (opTmps o.op) σ.tmps) (hr : ∀ id ∈ tc.1, cs σ'.H id = cs σ.H id) (hl : σ'.H.length = σ.H.length) (ht : σ'.tmps.length = σ.tmps.length)
    (hK : ∀ av us, (∀ p ∈ us, p.1 ∈ tc.2 ∨ nb ≤ p.1 ∧ p.1 < nb + nNew P F o) → (K ⟨putL σ.tmps o.dst av, setH σ.H us⟩).holds F J Q → (K' ⟨putL σ'.tmps o.dst av, setH σ'.H us⟩).holds F J Q) :
    (stepG P F ops nb tc i o σ' K').holds F J Q := by
  unfold stepG at h ⊢
  rw [hg]
  split at h
  · split at h <;> try (exact h.elim)
    rename_i htc
    obtain ⟨htc, hwc⟩ := htc
    rw [← htc] at hr
    rw [if_pos ⟨(touch_same he hr).1.trans htc, (wset_same he hr).trans hwc⟩]
    exact exec_elseW h he hr hl (fun av us hus h => srcT_else ht h (fun av' h => hK av' us (by rw [← hwc]; exact hus) h))
  · exact hK (.tup []) [] (fun p hp => by cases hp) h
  · exact h.elim
/-- A step that calls nothing does one thing. -/
theorem stepG_det {ops : List Oper} {nb : Nat} {tc : List Nat × List Nat} {j : Nat} {o : Oper} {σ : St} {K : St → Tree} (hc : isCallO o = false) (h : (stepG P F ops nb tc j o σ K).holds F J Q) : ∃ av us, (∀ p ∈ us, p.1 ∈ tc.2 ∨ nb ≤ p.1 ∧ p.1 < nb + nNew P F o) ∧ (K ⟨putL σ.tmps o.dst av, setH σ.H us⟩).holds F J Q ∧
    ∀ (σ' : St) (K' : St → Tree), liveG ops σ'.tmps o = liveG ops σ.tmps o → evalR (opTmps o.op) σ'.tmps = evalR (opTmps o.op) σ.tmps → (∀ id ∈ tc.1, cs σ'.H id = cs σ.H id) → σ'.H.length = σ.H.length → σ'.tmps.length = σ.tmps.length → (K' ⟨putL σ'.tmps o.dst av, setH σ'.H us⟩).holds F J Q → (stepG P F ops nb tc j o σ' K').holds F J Q := by
  unfold stepG at h
  split at h
  · rename_i hlive
    split at h <;> try (exact h.elim)
    rename_i htc
    obtain ⟨htc, hwc⟩ := htc
    unfold exec at h
    split at h <;> try (exact h.elim)
    rename_i hbg
    have hcf : isCallF o.op = none := by unfold isCallO at hc; simpa using hc
    rw [hcf] at h
    simp only at h
    split at h <;> try (exact h.elim)
    rename_i ns av us hm
    split at h <;> try (exact h.elim)
    rename_i hok
    obtain ⟨hn, h⟩ := Tree.holds_needs h
    have ids : ∀ p ∈ us, p.1 ∈ tc.2 ∨ nb ≤ p.1 ∧ p.1 < nb + nNew P F o := by rw [← hwc]; exact mOp_idsW hcf hm
    -- what lies behind it, for a value that is put there
    have back : ∀ (av' : AV) (good : ∀ (t : List AV) (H : List (Option Row)) (K' : St → Tree), t.length = σ.tmps.length → (K' ⟨putL t o.dst av', H⟩).holds F J Q → (srcT (Typ.isSource ops j) o.dst ⟨putL t o.dst av, H⟩ K').holds F J Q) (σ' : St) (K' : St → Tree), liveG ops σ'.tmps o = liveG ops σ.tmps o → evalR (opTmps o.op) σ'.tmps = evalR (opTmps o.op) σ.tmps → (∀ id ∈ tc.1, cs σ'.H id = cs σ.H id) → σ'.H.length = σ.H.length → σ'.tmps.length = σ.tmps.length → (K' ⟨putL σ'.tmps o.dst av', setH σ'.H us⟩).holds F J Q → (stepG P F ops nb tc j o σ' K').holds F J Q := by
      intro av' good σ' K' q1 q2 q3 q4 q5 q6
      rw [← htc] at q3
      obtain ⟨ht, hre⟩ := touch_same q2 q3
      unfold stepG
      rw [q1, hlive]
      simp only
      rw [if_pos ⟨ht.trans htc, (wset_same q2 q3).trans hwc⟩]
      unfold exec
      rw [q4, if_pos hbg, hcf]
      simp only
      rw [q2, hre, hm]
      simp only
      rw [if_pos hok]
      exact needs_holds hn (good _ _ _ q5 q6)
    have plain : (if Typ.isSource ops j = true then o.dst else none) = none ∨ (∃ d, o.dst = some d ∧ Typ.isSource ops j = true) := by
      cases Typ.isSource ops j with
      | false => exact .inl rfl
      | true => cases hd : o.dst with
        | none => exact .inl rfl
        | some d => exact .inr ⟨d, rfl, rfl⟩
    rcases plain with hp | ⟨d, hd, hsrc⟩
    · refine ⟨av, us, ids, ?_, back av (fun t H K' _ hk => ?_)⟩
      · unfold srcT at h; rw [hp] at h; exact h
      · unfold srcT; rw [hp]; exact hk
    · unfold srcT at h back
      simp only [hsrc, if_true, hd, getD_putL, putL_twice] at h back
      split at h
      · rename_i b hb
        cases b with
        | true =>
          refine ⟨lit true, us, ids, by rw [hd]; exact h.1 rfl, ?_⟩
          rw [hd]
          refine back (lit true) (fun t H K' hl hk => ?_)
          rw [hl, hb]
          exact ⟨fun _ => hk, fun e => (by cases e)⟩
        | false =>
          refine ⟨lit false, us, ids, by rw [hd]; exact h.2 rfl, ?_⟩
          rw [hd]
          refine back (lit false) (fun t H K' hl hk => ?_)
          rw [hl, hb]
          exact ⟨fun e => (by cases e), fun _ => hk⟩
      · rename_i hb
        refine ⟨av, us, ids, by rw [hd]; exact h, ?_⟩
        rw [hd]
        refine back av (fun t H K' hl hk => ?_)
        rw [hl, hb]
        exact hk
  · rename_i hlive
    refine ⟨.tup [], [], fun p hp => (by cases hp), h, fun σ' K' q1 q2 q3 q4 q5 q6 => ?_⟩
    unfold stepG
    rw [q1, hlive]
    exact q6
  · exact h.elim
theorem set_far {H : List (Option Row)} {us : Us} {id : Nat} (h : ∀ p ∈ us, p.1 ≠ id) : cs (setH H us) id = cs H id := by
  induction us generalizing H with
  | nil => rfl
  | cons p us ih =>
    show cs (setH (H.set p.1 p.2) us) id = _
    rw [ih (fun q hq => h q (by simp [hq]))]
    by_cases hp : p.1 < H.length
    · rw [cs_set hp, if_neg (fun e => h p (by simp) e.symm)]
    · unfold cs
      rw [List.getElem?_set_ne (h p (by simp))]
theorem setH_comm : ∀ (us vs : Us) (H : List (Option Row)), (∀ p ∈ us, ∀ q ∈ vs, p.1 ≠ q.1) → setH (setH H us) vs = setH (setH H vs) us := by
  have one : ∀ (vs : Us) (H : List (Option Row)) (p : Nat × Option Row), (∀ q ∈ vs, p.1 ≠ q.1) → setH (H.set p.1 p.2) vs = (setH H vs).set p.1 p.2 := by
    intro vs
    induction vs with
    | nil => intro H p _; rfl
    | cons q vs ih =>
      intro H p h
      show setH ((H.set p.1 p.2).set q.1 q.2) vs = (setH (H.set q.1 q.2) vs).set p.1 p.2
      rw [List.set_comm _ _ (h q (by simp)), ih (H.set q.1 q.2) p (fun q hq => h q (by simp [hq]))]
  intro us
  induction us with
  | nil => intro vs H _; rfl
  | cons p us ih =>
    intro vs H h
    show setH (setH (H.set p.1 p.2) us) vs = setH ((setH H vs).set p.1 p.2) us
    rw [ih vs (H.set p.1 p.2) (fun p' hp q hq => h p' (by simp [hp]) q hq), one vs H p (fun q hq => h p (by simp) q hq)]
theorem putL_comm {l : List AV} {d d' : Option Nat} {x y : AV} (h : ∀ a b, d = some a → d' = some b → a ≠ b) : putL (putL l d x) d' y = putL (putL l d' y) d x := by
  cases d <;> cases d' <;> try rfl
  exact List.set_comm _ _ (h _ _ rfl rfl)
theorem disj_spec {x y : List Nat} (h : disj x y = true) {k : Nat} (hx : k ∈ x) (hy : k ∈ y) : False := by
  have := List.all_eq_true.mp h k hx
  simp at this
  exact this hy
theorem indep_spec {ops : List Oper} {nb : Nat → Nat} {tc : Nat → List Nat × List Nat} {i j : Nat} (h : indep P F ops nb tc i j = true) : ∃ oi oj, ops[i]? = some oi ∧ ops[j]? = some oj ∧
    (∀ d, oj.dst = some d → (rdTmps ops oi).contains d = false) ∧ (∀ d, oi.dst = some d → (rdTmps ops oj).contains d = false) ∧ (∀ a b, oi.dst = some a → oj.dst = some b → a ≠ b) ∧
    ((∀ k, k ∈ (tc i).2 → k ∈ (tc j).1 → False) ∧ (∀ k, k ∈ (tc j).2 → k ∈ (tc i).1 → False) ∧ (∀ k, k ∈ (tc i).2 → k ∈ (tc j).2 → False)) ∧ (∀ k ∈ (tc i).1, ¬ (nb j ≤ k ∧ k < nb j + nNew P F oj)) ∧ (∀ k ∈ (tc j).1, ¬ (nb i ≤ k ∧ k < nb i + nNew P F oi)) ∧ (∀ k ∈ (tc i).2, ¬ (nb j ≤ k ∧ k < nb j + nNew P F oj)) ∧ (∀ k ∈ (tc j).2, ¬ (nb i ≤ k ∧ k < nb i + nNew P F oi)) ∧ (nb i + nNew P F oi ≤ nb j ∨ nb j + nNew P F oj ≤ nb i) := by
  unfold indep at h
  split at h <;> try (cases h; done)
  rename_i oi oj h1 h2
  simp only [Bool.and_eq_true, Bool.or_eq_true, decide_eq_true_eq] at h
  obtain ⟨⟨⟨⟨⟨⟨⟨⟨a1, a2⟩, a3⟩, a4⟩, a5⟩, a6⟩, a8⟩, a9⟩, a7⟩ := h
  have out : ∀ {l : List Nat} {n m : Nat}, (l.all fun id => !inNew n m id) = true → ∀ k ∈ l, ¬ (n ≤ k ∧ k < n + m) := fun h k hk => by
    have := List.all_eq_true.mp h k hk
    simp [inNew] at this
    omega
  refine ⟨oi, oj, h1, h2, fun d hd => ?_, fun d hd => ?_, fun a b ha hb => ?_, ⟨fun k k1 k2 => disj_spec a4.1.1 k1 k2, fun k k1 k2 => disj_spec a4.1.2 k1 k2, fun k k1 k2 => disj_spec a4.2 k1 k2⟩, out a5, out a6, out a8, out a9, a7⟩
  · rw [hd] at a1; simpa using a1
  · rw [hd] at a2; simpa using a2
  · rw [ha, hb] at a3; simpa using a3
theorem rd_spec {ops : List Oper} {o : Oper} {dst : Option Nat} {t : List AV} {av : AV} (h : ∀ d, dst = some d → (rdTmps ops o).contains d = false) : evalR (opTmps o.op) (putL t dst av) = evalR (opTmps o.op) t ∧ liveG ops (putL t dst av) o = liveG ops t o := by
  have h1 : ∀ d, dst = some d → d ∉ opTmps o.op ∧ d ∉ gTmps ops o := fun d hd => by
    have := h d hd
    unfold rdTmps at this
    simpa using this
  refine ⟨evalR_put (fun d hd => by simpa using (h1 d hd).1), liveG_same (fun d hd => putL_get (fun x hx e => (h1 x hx).2 (e ▸ hd)))⟩
/-- Two that have nothing to do with each other change places. -/
theorem swap {ops : List Oper} {nb : Nat → Nat} {tc : Nat → List Nat × List Nat} {i j : Nat} {l : List Nat} {σ : St} {K : St → Tree} (hi : indep P F ops nb tc i j = true) (hc : ∀ o, ops[j]? = some o → isCallO o = false)
    (h : (sxOrd P F ops nb tc (j :: i :: l) σ K).holds F J Q) : (sxOrd P F ops nb tc (i :: j :: l) σ K).holds F J Q := by
  obtain ⟨oi, oj, h1, h2, a1, a2, a3, a4, a5, a6, a8, a9, a7⟩ := indep_spec hi
  have hcj := hc oj h2
  unfold sxOrd at h
  rw [h2] at h
  simp only at h
  obtain ⟨avj, usj, idj, h, back⟩ := stepG_det hcj h
  unfold sxOrd at h
  rw [h1] at h
  simp only at h
  have hr1 := rd_spec (t := σ.tmps) (av := avj) a1
  have hrow : ∀ id ∈ (tc i).1, cs σ.H id = cs (setH σ.H usj) id := fun id hid => by
    refine (set_far (fun p hp e => ?_)).symm
    rcases idj p hp with g1 | g1
    · exact a4.2.1 id (e ▸ g1) hid
    · exact a5 id hid (e ▸ g1)
  unfold sxOrd
  rw [h1]
  simp only
  refine stepG_else h hr1.2.symm hr1.1.symm hrow (setH_len _ _).symm putL_len.symm (fun avi usi idi h => ?_)
  unfold sxOrd
  rw [h2]
  simp only
  have hr2 := rd_spec (t := σ.tmps) (av := avi) a2
  have hrowj : ∀ id ∈ (tc j).1, cs (setH σ.H usi) id = cs σ.H id := fun id hid => by
    refine set_far (fun p hp e => ?_)
    rcases idi p hp with g1 | g1
    · exact a4.1 id (e ▸ g1) hid
    · exact a6 id hid (e ▸ g1)
  refine back ⟨putL σ.tmps oi.dst avi, setH σ.H usi⟩ _ hr2.2 hr2.1 hrowj (setH_len _ _) putL_len ?_
  have e1 : putL (putL σ.tmps oi.dst avi) oj.dst avj = putL (putL σ.tmps oj.dst avj) oi.dst avi := putL_comm a3
  have e2 : setH (setH σ.H usi) usj = setH (setH σ.H usj) usi := setH_comm _ _ _ (fun p hp q hq e => by
    rcases idi p hp with g1 | g1 <;> rcases idj q hq with g3 | g3
    · exact a4.2.2 p.1 g1 (e ▸ g3)
    · exact a8 p.1 g1 (e ▸ g3)
    · exact a9 q.1 g3 (e ▸ g1)
    · omega)
  simp only [e1, e2]
  exact h
/-- One that has nothing to do with those ahead of it comes first. -/
theorem first_ {ops : List Oper} {nb : Nat → Nat} {tc : Nat → List Nat × List Nat} {i : Nat} {K : St → Tree} : ∀ (pre post : List Nat) (σ : St), (∀ j ∈ pre, indep P F ops nb tc i j = true) → (∀ j ∈ pre, ∀ o, ops[j]? = some o → isCallO o = false) →
    (sxOrd P F ops nb tc (pre ++ i :: post) σ K).holds F J Q → (sxOrd P F ops nb tc (i :: (pre ++ post)) σ K).holds F J Q
  | [], post, σ, _, _, h => h
  | j :: pre, post, σ, h1, h2, h => by
    refine swap (h1 j (by simp)) (h2 j (by simp)) ?_
    have h' : (sxOrd P F ops nb tc (j :: (pre ++ i :: post)) σ K).holds F J Q := h
    unfold sxOrd at h' ⊢
    split at h' <;> try (exact h'.elim)
    exact stepG_mono h' (fun σ' h => first_ pre post σ' (fun j hj => h1 j (by simp [hj])) (fun j hj => h2 j (by simp [hj])) h)
end
end Go.Proofs.Ytjleempapphlhab.Mini
end
