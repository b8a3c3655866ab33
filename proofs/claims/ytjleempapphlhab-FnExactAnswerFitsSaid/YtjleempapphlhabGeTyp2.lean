/- Parts of the proof: Typ2. -/
import Derived.Orders
import Derived.Test.YtjleempapphlhabGeTyp1
section
namespace Go.Proofs.Ytjleempapphlhab.Typ
open Go Go.RowKit
set_option linter.unusedVariables false
/-- What is known of the temporaries; how many numbers were drawn at most. -/
structure St where
  tmps : List AV
  q : Nat
def anyV : AV := .v (.one .any)
def opTmps (op : Op) : List Nat := op.operands.toList.filterMap fun x => match x with | .tmp t => some t | _ => none
/-- What an operation may look at. -/
def evalR (ts : List Nat) (tmps : List AV) : Operand → AV
  | .tmp t => if ts.contains t then tmps.getD t anyV else anyV
  | .const v => absC v
  | _ => anyV
/-- Functions with known answers: what they yield, how many numbers they draw. -/
abbrev Fns := Nat → List AV → Option (AV × Nat)
def isCallF : Op → Option (Nat × Array Operand)
  | .call ⟨.value (.func f), args, _⟩ => some (f, args)
  | _ => none
/-- A list that may lie in a row, and how many numbers that costs. -/
def At.prom : At → At
  | .slice t _ _ => .sliceQ t 0
  | .sliceQ t _ => .sliceQ t 0
  | a => a
def At.cost : At → Nat
  | .slice _ _ hi => hi
  | .sliceQ _ d => d
  | _ => 0
def V1.prom : V1 → V1
  | .one a => .one a.prom
  | .agg l => .agg (l.map At.prom)
def V1.cost : V1 → Nat
  | .one a => a.cost
  | .agg l => l.foldr (fun a n => max a.cost n) 0
def AV.prom : AV → AV
  | .v x => .v x.prom
  | .tup l => .tup (l.map V1.prom)
def AV.cost : AV → Nat
  | .v x => x.cost
  | .tup l => l.foldr (fun a n => max a.cost n) 0
def costOf (ts : List Nat) (tmps : List AV) : Nat := ts.foldr (fun t n => max (tmps.getD t anyV).cost n) 0
def stepOp (T : Tab) (F : Fns) (o : Oper) (tmps : List AV) : Option (AV × Nat) :=
  match o.guard with
  | some _ => none
  | none => match isCallF o.op with
    | some (f, args) => F f (args.toList.map (evalR (opTmps o.op) tmps))
    | none => match absOp T o.op (evalR (opTmps o.op) tmps) with
      | some av => some (av, 0)
      | none => match absOp T o.op (fun x => (evalR (opTmps o.op) tmps x).prom) with
        | some av => some (av, costOf (opTmps o.op) tmps)
        | none => none
def putL (tmps : List AV) (dst : Option Nat) (av : AV) : List AV :=
  match dst with
  | some d => tmps.set d av
  | none => tmps
def qMax : Nat := 900000
def stepSt (T : Tab) (F : Fns) (o : Oper) (σ : St) : Option St :=
  match stepOp T F o σ.tmps with
  | some (av, c) => some ⟨putL σ.tmps o.dst av, σ.q + c⟩
  | none => none
def stepAll (T : Tab) (F : Fns) : List Oper → St → Option St
  | [], σ => some σ
  | o :: l, σ => match stepSt T F o σ with | some σ' => stepAll T F l σ' | none => none
/-- The temporaries are as said. -/
structure Tmps (E : Env) (κ : Kr) (l : List AV) (a : Act) : Prop where
  defers : a.defers = []
  size : a.tmps.size = l.length
  vals : ∀ (i : Nat) (av : AV), l[i]? = some av → ∃ v, a.tmps[i]? = some v ∧ gAV E κ av v
/-- The functions are so. -/
def FnsOk (E : Env) (F : Fns) : Prop := ∀ f args av c, F f args = some (av, c) →
  (∃ fn, E.P.funcs[f]? = some fn ∧ (fn.name == "runtime.NumGoroutine") = false ∧ fn.body.isNone = false) ∧
  ∀ κ q w (vs : Array Value), q + c ≤ qMax → Inv E κ q w → vs.size = args.length → (∀ (i : Nat) (a : AV), args[i]? = some a → ∃ v, vs[i]? = some v ∧ gAV E κ a v) →
    Calls E.P f vs w fun e w' => ∃ κ' v, e = .returned v ∧ κ.le κ' ∧ Inv E κ' (q + c) w' ∧ gAV E κ' av v
section
variable {E : Env} {F : Fns} {κ : Kr} {q : Nat} {w : World} {a : Act}
theorem Tmps.mono {κ' : Kr} {l : List AV} (hle : κ.le κ') (h : Tmps E κ l a) : Tmps E κ' l a :=
  ⟨h.defers, h.size, fun i av hi => by obtain ⟨v, h1, h2⟩ := h.vals i av hi; exact ⟨v, h1, h2.mono hle⟩⟩
theorem evalR_sound {ts : List Nat} {l : List AV} (h : ∀ t, t ∈ ts → ∀ av, l[t]? = some av → gAV E κ av (a.tmps.getD t undef)) : ∀ x, gAV E κ (evalR ts l x) (a.eval x) := by
  intro x
  cases x with
  | tmp t =>
    simp only [evalR]
    by_cases hc : ts.contains t = true
    · rw [if_pos hc, List.getD_eq_getElem?_getD]
      cases hl : l[t]? with
      | none => exact trivial
      | some av => exact h t (by simpa using hc) av hl
    · rw [if_neg hc]; exact trivial
  | const v => exact absC_sound v
  | global g => trivial
  | func f => trivial
theorem Tmps.getD {l : List AV} (h : Tmps E κ l a) (t : Nat) (av : AV) (hl : l[t]? = some av) : gAV E κ av (a.tmps.getD t undef) := by
  obtain ⟨v, h1, h2⟩ := h.vals t av hl
  have : a.tmps.getD t undef = v := by
    rw [Array.getD_eq_getD_getElem?, h1]; rfl
  rw [this]; exact h2
theorem gAt.prom {x : At} {v : Value} {d : Nat} (h : gAt E κ x v) (hd : x.cost ≤ d) : gAt E (κ.bump d) x.prom v := by
  cases x with
  | slice t lo hi =>
    obtain ⟨A, n, c, rfl, h1, h2, h3, h4⟩ := h
    have hd' : hi ≤ d := hd
    exact ⟨A, n, c, rfl, by show n ≤ κ.c + d + 0; omega, h3, h4⟩
  | sliceQ t k =>
    obtain ⟨A, n, c, rfl, h1, h3, h4⟩ := h
    have hd' : k ≤ d := hd
    exact ⟨A, n, c, rfl, by show n ≤ κ.c + d + 0; omega, h3, h4⟩
  | _ => exact h.mono (Kr.le_bump κ d)
theorem gList.prom : ∀ {l : List At} {vs : List Value} {d : Nat}, gList E κ l vs → l.foldr (fun a n => max a.cost n) 0 ≤ d → gList E (κ.bump d) (l.map At.prom) vs
  | [], [], _, _, _ => trivial
  | a :: l, v :: vs, d, ⟨h1, h2⟩, hd => by
    simp only [List.foldr_cons] at hd
    exact ⟨h1.prom (by omega), gList.prom h2 (by omega)⟩
theorem gV1.prom {x : V1} {v : Value} {d : Nat} (h : gV1 E κ x v) (hd : x.cost ≤ d) : gV1 E (κ.bump d) x.prom v := by
  cases x with
  | one a => exact gAt.prom h hd
  | agg l =>
    obtain ⟨cs, rfl, h1⟩ := h
    exact ⟨cs, rfl, h1.prom hd⟩
theorem gV1s.prom : ∀ {l : List V1} {vs : List Value} {d : Nat}, gV1s E κ l vs → l.foldr (fun a n => max a.cost n) 0 ≤ d → gV1s E (κ.bump d) (l.map V1.prom) vs
  | [], [], _, _, _ => trivial
  | a :: l, v :: vs, d, ⟨h1, h2⟩, hd => by
    simp only [List.foldr_cons] at hd
    exact ⟨h1.prom (by omega), gV1s.prom h2 (by omega)⟩
theorem gAV.prom {x : AV} {v : Value} {d : Nat} (h : gAV E κ x v) (hd : x.cost ≤ d) : gAV E (κ.bump d) x.prom v := by
  cases x with
  | v x => exact gV1.prom h hd
  | tup l =>
    obtain ⟨vs, rfl, h1⟩ := h
    exact ⟨vs, rfl, h1.prom hd⟩
theorem costOf_le {tmps : List AV} : ∀ {ts : List Nat} {t : Nat}, t ∈ ts → (tmps.getD t anyV).cost ≤ costOf ts tmps
  | u :: ts, t, h => by
    unfold costOf
    rw [List.foldr_cons]
    rcases List.mem_cons.mp h with rfl | h
    · exact Nat.le_max_left _ _
    · exact Nat.le_trans (costOf_le h) (Nat.le_max_right _ _)
theorem absV_cost (v : Value) : (absV v).cost = 0 := by
  unfold absV
  split <;> rfl
theorem absC_cost (v : Value) : (absC v).cost = 0 := by
  unfold absC
  split
  · rename_i cs
    show List.foldr _ 0 (cs.toList.map absV) = 0
    generalize cs.toList = l
    induction l with
    | nil => rfl
    | cons a l ih => rw [List.map_cons, List.foldr_cons, ih, absV_cost]; rfl
  · exact absV_cost v
theorem evalR_cost {ts : List Nat} {tmps : List AV} (x : Operand) : (evalR ts tmps x).cost ≤ costOf ts tmps := by
  cases x with
  | tmp t =>
    unfold evalR
    simp only
    split
    · rename_i h
      exact costOf_le (by simpa using h)
    · exact Nat.zero_le _
  | const v => show (absC v).cost ≤ _; rw [absC_cost]; exact Nat.zero_le _
  | global g => exact Nat.zero_le _
  | func f => exact Nat.zero_le _
/-- One operation, whatever else is known. -/
theorem stepOp_sound (hE : EnvOk E) (hF : FnsOk E F) {o : Oper} {l : List AV} {av : AV} {c : Nat} (hi : Inv E κ q w) (hq : q + c ≤ qMax) (hs : stepOp E.T F o l = some (av, c))
    (he : ∀ x, gAV E κ (evalR (opTmps o.op) l x) (a.eval x)) {K : Act → World → Prop} {Q : Exit → Act → World → Prop}
    (hK : ∀ κ' v w', κ.le κ' → Inv E κ' (q + c) w' → gAV E κ' av v → K (a.put o.dst v) w') : o.guard = none ∧ o.wp E.P a w K Q := by
  unfold stepOp at hs
  split at hs <;> try (cases hs; done)
  rename_i hg
  refine ⟨hg, ?_⟩
  split at hs
  · rename_i f args hcf
    obtain ⟨⟨fn, f1, f2, f3⟩, hcall⟩ := hF f _ av c hs
    have hop : ∃ ts, o.op = .call ⟨.value (.func f), args, ts⟩ := by
      unfold isCallF at hcf
      split at hcf <;> try (cases hcf; done)
      rename_i f' args' ts hop
      injection hcf with hcf
      injection hcf with h1 h2
      subst h1; subst h2
      exact ⟨ts, hop⟩
    obtain ⟨ts, hop⟩ := hop
    unfold Oper.wp
    have f2' : ¬ fn.name = "runtime.NumGoroutine" := by simpa using f2
    have f3' : ¬ fn.body = none := by intro e; rw [e] at f3; cases f3
    have hex : (execOp a.eval o).run E.P w = .ok (.enter f (args.map a.eval)) w := by
      unfold execOp
      rw [hop]
      simp [resolve, Act.eval, Deferred.ofValue, invoke, callFunc, f1, f2', f3']
    rw [hex, Oper.upon_enter]
    have := hcall κ q w (args.map a.eval) hq hi (by simp) (args_map he args)
    refine this.mono ?_
    rintro e w' ⟨κ', v, rfl, h1, h2, h3⟩
    exact hK κ' v w' h1 h2 h3
  · split at hs
    · rename_i av' hab
      injection hs with hs
      injection hs with h1 h2
      subst h1; subst h2
      obtain ⟨n, κ', w', r1, r2, r3, r4⟩ := absOp_sound hE hi he hab
      unfold Oper.wp
      rw [r1]
      rcases r4 with ⟨v, rfl, hv⟩ | ⟨rfl, rfl⟩
      · exact hK κ' v w' r2 r3 hv
      · exact hK κ' undef w' r2 r3 trivial
    · split at hs <;> try (cases hs; done)
      rename_i av' hab
      injection hs with hs
      injection hs with h1 h2
      subst h1; subst h2
      obtain ⟨n, κ', w', r1, r2, r3, r4⟩ := absOp_sound hE (hi.bump (costOf (opTmps o.op) l) hq hE.rdMono) (fun x => (he x).prom (evalR_cost x)) hab
      have r2 := (Kr.le_bump κ _).trans r2
      unfold Oper.wp
      rw [r1]
      rcases r4 with ⟨v, rfl, hv⟩ | ⟨rfl, rfl⟩
      · exact hK κ' v w' r2 r3 hv
      · exact hK κ' undef w' r2 r3 trivial
theorem Tmps.put {l : List AV} (h : Tmps E κ l a) {dst : Option Nat} {av : AV} {v : Value} (hv : gAV E κ av v) : Tmps E κ (putL l dst av) (a.put dst v) := by
  cases dst with
  | none => exact h
  | some d =>
    refine ⟨h.defers, by simp [Act.put, putL, h.size], fun i x hx => ?_⟩
    simp only [putL, List.getElem?_set] at hx
    simp only [Act.put, Array.getElem?_setIfInBounds]
    split at hx
    · rename_i hd
      subst hd
      split at hx <;> try (cases hx; done)
      rename_i hlt
      injection hx with hx; subst hx
      rw [if_pos rfl, if_pos (by rw [h.size]; exact hlt)]
      exact ⟨v, rfl, hv⟩
    · rename_i hd
      rw [if_neg hd]
      exact h.vals i x hx
/-- A region in the order of the text. -/
theorem ops_sound (hE : EnvOk E) (hF : FnsOk E F) {ops : Array Oper} {Q : Exit → Act → World → Prop} : ∀ (n k : Nat) (σ σ' : St) (κ : Kr) (a : Act) (w : World), n + k = ops.size →
    stepAll E.T F (ops.toList.drop k) σ = some σ' → σ'.q ≤ qMax → Tmps E κ σ.tmps a → Inv E κ σ.q w → (∀ κ' a' w', κ.le κ' → Tmps E κ' σ'.tmps a' → Inv E κ' σ'.q w' → Q .normal a' w') →
    wpOps E.P ops Q (List.range' k n) a w
  | 0, k, σ, σ', κ, a, w, hn, hs, _, ht, hi, hQ => by
    rw [List.drop_eq_nil_of_le (by simp; omega)] at hs
    injection hs with hs; subst hs
    exact hQ κ a w (Kr.le.refl κ) ht hi
  | n + 1, k, σ, σ', κ, a, w, hn, hs, hq, ht, hi, hQ => by
    have hk : k < ops.toList.length := by simp; omega
    rw [List.drop_eq_getElem_cons hk] at hs
    unfold stepAll at hs
    split at hs <;> try (cases hs; done)
    rename_i σ1 h1
    have hmono : ∀ (l : List Oper) (σ σ' : St), stepAll E.T F l σ = some σ' → σ.q ≤ σ'.q := by
      intro l
      induction l with
      | nil => intro σ σ' h; injection h with h; subst h; exact Nat.le_refl _
      | cons o l ih =>
        intro σ σ' h
        unfold stepAll at h
        split at h <;> try (cases h; done)
        rename_i σ2 h2
        unfold stepSt at h2
        split at h2 <;> try (cases h2; done)
        injection h2 with h2
        have := ih _ _ h
        rw [← h2] at this
        simp at this; omega
    have hq1 := hmono _ _ _ hs
    unfold stepSt at h1
    split at h1 <;> try (cases h1; done)
    rename_i av c hst
    injection h1 with h1
    subst h1
    rw [List.range'_succ]
    show wpOps E.P ops Q (k :: _) a w
    have ho : ops[k]? = some ops.toList[k] := by rw [← Array.getElem?_toList]; exact List.getElem?_eq_getElem hk
    have hx := stepOp_sound (a := a) hE hF (K := wpOps E.P ops Q (List.range' (k + 1) n)) (Q := Q) hi (by simp at hq1; omega) hst (evalR_sound (fun t _ av hl => ht.getD t av hl)) (fun κ' v w' h1 h2 h3 =>
      ops_sound hE hF n (k + 1) _ σ' κ' _ w' (by omega) hs hq ((ht.mono h1).put h3) h2 (fun κ'' a' w'' g1 g2 g3 => hQ κ'' a' w'' (h1.trans g1) g2 g3))
    unfold wpOps
    rw [ho]
    simp only
    rw [if_pos (by unfold Region.wanted; rw [hx.1])]
    exact .inl hx.2
end
end Go.Proofs.Ytjleempapphlhab.Typ
namespace Go.Proofs.Ytjleempapphlhab.Typ
open Go Go.RowKit
set_option linter.unusedVariables false
def hasEdge (o : Oper) (j : Nat) : Bool := o.after.toList.any fun e => Region.binds .any e && e.on == j
def drawOk (ops : Array Oper) : Bool :=
  ops.toList.zipIdx.all fun p =>
    ((opTmps p.1.op).all fun t => ops.toList.zipIdx.all fun p' => p'.1.dst != some t || hasEdge p.1 p'.2 || hasEdge p'.1 p.2) &&
    (p.1.after.toList.all fun e => !Region.binds .any e || decide (e.on < p.2)) &&
    (ops.toList.zipIdx.all fun p' => p.1.dst == none || p.1.dst != p'.1.dst || p.2 == p'.2)
theorem drawOk_spec {ops : Array Oper} (h : drawOk ops = true) :
    (∀ (i j : Nat) (o o' : Oper) (t : Nat), ops[i]? = some o → ops[j]? = some o' → t ∈ opTmps o.op → o'.dst = some t → (∃ e ∈ o.after, Region.binds .any e = true ∧ e.on = j) ∨ ∃ e ∈ o'.after, Region.binds .any e = true ∧ e.on = i) ∧
    (∀ (i : Nat) (o : Oper), ops[i]? = some o → ∀ e ∈ o.after, Region.binds .any e = true → e.on < i) ∧
    (∀ (i j : Nat) (o o' : Oper) (t : Nat), ops[i]? = some o → ops[j]? = some o' → o.dst = some t → o'.dst = some t → i = j) := by
  have hm : ∀ (i : Nat) (o : Oper), ops[i]? = some o → (o, i) ∈ ops.toList.zipIdx := fun i o ho => by
    rw [List.mem_zipIdx_iff_getElem?]
    rw [← Array.getElem?_toList] at ho
    exact ho
  unfold drawOk at h
  rw [List.all_eq_true] at h
  refine ⟨fun i j o o' t ho ho' ht hd => ?_, fun i o ho e he hb => ?_, fun i j o o' t ho ho' hd hd' => ?_⟩
  · have h1 := h _ (hm i o ho)
    simp only [Bool.and_eq_true] at h1
    have h2 := List.all_eq_true.mp h1.1.1 t ht
    have h3 := List.all_eq_true.mp h2 _ (hm j o' ho')
    simp only [hd, bne_self_eq_false, Bool.false_or, Bool.or_eq_true] at h3
    unfold hasEdge at h3
    rw [List.any_eq_true, List.any_eq_true] at h3
    rcases h3 with h3 | h3
    · obtain ⟨e, he, h4⟩ := h3
      simp only [Bool.and_eq_true, beq_iff_eq] at h4
      exact .inl ⟨e, by simpa using he, h4.1, h4.2⟩
    · obtain ⟨e, he, h4⟩ := h3
      simp only [Bool.and_eq_true, beq_iff_eq] at h4
      exact .inr ⟨e, by simpa using he, h4.1, h4.2⟩
  · have h1 := h _ (hm i o ho)
    simp only [Bool.and_eq_true] at h1
    have h2 := List.all_eq_true.mp h1.1.2 e (by simpa using he)
    simp only [hb, Bool.not_true, Bool.false_or, decide_eq_true_eq] at h2
    exact h2
  · have h1 := h _ (hm i o ho)
    simp only [Bool.and_eq_true] at h1
    have h2 := List.all_eq_true.mp h1.2 _ (hm j o' ho')
    simp only [hd, hd', bne_self_eq_false, Bool.or_false, Bool.or_eq_true, beq_iff_eq] at h2
    rcases h2 with h2 | h2
    · cases h2
    · exact h2
/-- What is summed over those that came up. -/
def Sm (c : Nat → Nat) (L : Array Bool) : Nat → Nat
  | 0 => 0
  | k + 1 => Sm c L k + (if L.getD k false = true then c k else 0)
def Tm (c : Nat → Nat) : Nat → Nat
  | 0 => 0
  | k + 1 => Tm c k + c k
theorem Sm_le (c : Nat → Nat) (L : Array Bool) : ∀ n, Sm c L n ≤ Tm c n
  | 0 => Nat.le_refl _
  | k + 1 => by
    have := Sm_le c L k
    unfold Sm Tm
    split <;> omega
theorem getD_set (L : Array Bool) (i j : Nat) (hi : i < L.size) (d : Bool) : (L.setIfInBounds i true).getD j d = if j = i then true else L.getD j d := by
  rw [Array.getD_eq_getD_getElem?, Array.getD_eq_getD_getElem?, Array.getElem?_setIfInBounds]
  by_cases h : j = i
  · subst h; simp [hi]
  · rw [if_neg (fun e => h e.symm), if_neg h]
theorem Sm_set (c : Nat → Nat) (L : Array Bool) (i : Nat) (hi : i < L.size) (hl : L.getD i false = false) : ∀ n, Sm c (L.setIfInBounds i true) n = Sm c L n + if i < n then c i else 0
  | 0 => by simp [Sm]
  | k + 1 => by
    have ih := Sm_set c L i hi hl k
    unfold Sm
    rw [ih, getD_set L i k hi]
    by_cases h1 : k = i
    · subst h1
      rw [if_pos rfl, if_pos rfl, hl]
      simp
    · rw [if_neg h1]
      by_cases h2 : i < k
      · rw [if_pos h2, if_pos (show i < k + 1 by omega)]; omega
      · rw [if_neg h2, if_neg (show ¬ i < k + 1 by omega)]; omega
theorem getD_all {L : Array Bool} {i : Nat} (hi : i < L.size) (d d' : Bool) : L.getD i d = L.getD i d' := by
  rw [Array.getD_eq_getD_getElem?, Array.getD_eq_getD_getElem?, Array.getElem?_eq_getElem hi]; rfl
theorem Tm_one : ∀ n, Tm (fun _ => 1) n = n
  | 0 => rfl
  | k + 1 => by unfold Tm; rw [Tm_one k]
section
variable {E : Env} {F : Fns}
theorem trace_of : ∀ (l : List Oper) (σ σn : St), stepAll E.T F l σ = some σn → ∃ st : Nat → St, st 0 = σ ∧ (∀ i o, l[i]? = some o → stepSt E.T F o (st i) = some (st (i + 1))) ∧ st l.length = σn
  | [], σ, σn, h => by injection h with h; subst h; exact ⟨fun _ => σ, rfl, fun i o ho => by simp at ho, rfl⟩
  | o :: l, σ, σn, h => by
    unfold stepAll at h
    split at h <;> try (cases h; done)
    rename_i σ1 h1
    obtain ⟨st, s0, s1, s2⟩ := trace_of l σ1 σn h
    refine ⟨fun k => match k with | 0 => σ | k + 1 => st k, rfl, fun i o' ho => ?_, s2⟩
    cases i with
    | zero =>
      simp at ho
      subst ho
      show stepSt E.T F o σ = some (st 0)
      rw [s0, h1]
    | succ i => exact s1 i o' (by simpa using ho)
theorem stepSt_spec {o : Oper} {σ σ' : St} (h : stepSt E.T F o σ = some σ') : ∃ av c, stepOp E.T F o σ.tmps = some (av, c) ∧ σ'.tmps = putL σ.tmps o.dst av ∧ σ'.q = σ.q + c := by
  unfold stepSt at h
  split at h <;> try (cases h; done)
  rename_i av c hs
  injection h with h; subst h
  exact ⟨av, c, hs, rfl, rfl⟩
theorem putL_other {l : List AV} {dst : Option Nat} {av : AV} {t : Nat} (h : dst ≠ some t) : (putL l dst av)[t]? = l[t]? := by
  cases dst with
  | none => rfl
  | some d =>
    simp only [putL, List.getElem?_set]
    rw [if_neg (fun e => h (by rw [e]))]
theorem putL_len {l : List AV} {dst : Option Nat} {av : AV} : (putL l dst av).length = l.length := by cases dst <;> simp [putL]
theorem trace_same {ops : Array Oper} {st : Nat → St} (hst : ∀ i o, ops[i]? = some o → stepSt E.T F o (st i) = some (st (i + 1))) (t : Nat) : ∀ (n i : Nat), i + n ≤ ops.size →
    (∀ j o, i ≤ j → j < i + n → ops[j]? = some o → o.dst ≠ some t) → (st (i + n)).tmps[t]? = (st i).tmps[t]?
  | 0, i, _, _ => rfl
  | n + 1, i, hn, h => by
    have ho : ops[i + n]? = some (ops[i + n]'(by omega)) := Array.getElem?_eq_getElem (by omega)
    obtain ⟨av, c, _, h2, _⟩ := stepSt_spec (hst (i + n) _ ho)
    rw [show i + (n + 1) = i + n + 1 by omega, h2, putL_other (h (i + n) _ (by omega) (by omega) ho)]
    exact trace_same hst t n i (by omega) (fun j o h1 h2 h3 => h j o h1 (by omega) h3)
theorem trace_len {ops : Array Oper} {st : Nat → St} (hst : ∀ i o, ops[i]? = some o → stepSt E.T F o (st i) = some (st (i + 1))) : ∀ (i : Nat), i ≤ ops.size → (st i).tmps.length = (st 0).tmps.length
  | 0, _ => rfl
  | i + 1, hi => by
    have ho : ops[i]? = some (ops[i]'(by omega)) := Array.getElem?_eq_getElem (by omega)
    obtain ⟨av, c, _, h2, _⟩ := stepSt_spec (hst i _ ho)
    rw [h2, putL_len]
    exact trace_len hst i (by omega)
theorem trace_q {ops : Array Oper} {st : Nat → St} (hst : ∀ i o, ops[i]? = some o → stepSt E.T F o (st i) = some (st (i + 1))) : ∀ (i : Nat), i ≤ ops.size → (st i).q = (st 0).q + Tm (fun k => (st (k + 1)).q - (st k).q) i
  | 0, _ => rfl
  | i + 1, hi => by
    have ho : ops[i]? = some (ops[i]'(by omega)) := Array.getElem?_eq_getElem (by omega)
    obtain ⟨av, c, _, _, h3⟩ := stepSt_spec (hst i _ ho)
    have ih := trace_q hst i (by omega)
    unfold Tm
    omega
/-- Some operations have come up: what is known then. -/
structure Some' (E : Env) (ops : Array Oper) (st : Nat → St) (κ : Kr) (L : Array Bool) (a : Act) (w : World) : Prop where
  size : L.size = ops.size
  closed : ∀ (j : Nat) (o : Oper), ops[j]? = some o → L.getD j false = true → ∀ e ∈ o.after, Region.binds .any e = true → L.getD e.on false = true
  defers : a.defers = []
  tsize : a.tmps.size = (st 0).tmps.length
  inv : Inv E κ ((st 0).q + Sm (fun k => (st (k + 1)).q - (st k).q) L ops.size) w
  old : ∀ t av, (st 0).tmps[t]? = some av → (∀ j o, ops[j]? = some o → o.dst = some t → L.getD j true = false) → ∃ v, a.tmps[t]? = some v ∧ gAV E κ av v
  new : ∀ t av j o, ops[j]? = some o → o.dst = some t → L.getD j false = true → (st ops.size).tmps[t]? = some av → ∃ v, a.tmps[t]? = some v ∧ gAV E κ av v
theorem some_step (hE : EnvOk E) (hF : FnsOk E F) {ops : Array Oper} {st : Nat → St} (hst : ∀ i o, ops[i]? = some o → stepSt E.T F o (st i) = some (st (i + 1))) (hd : drawOk ops = true) (hq : (st ops.size).q ≤ qMax)
    {κ : Kr} {L : Array Bool} {a : Act} {w : World} (h : Some' E ops st κ L a w) {i : Nat} (hi : i ∈ Region.ready .any ops L) {K : Act → World → Prop} {Q : Exit → Act → World → Prop}
    (hK : ∀ κ' a' w', κ.le κ' → Some' E ops st κ' (L.setIfInBounds i true) a' w' → K a' w') : wpOp E.P ops Q i K a w := by
  obtain ⟨d1, d2, d3⟩ := drawOk_spec hd
  obtain ⟨hl, o, ho, hall⟩ := mem_ready.mp hi
  have hin : i < ops.size := (Array.getElem?_eq_some_iff.mp ho).1
  have hiL : i < L.size := by rw [h.size]; exact hin
  have hl' : L.getD i false = false := by rw [getD_all hiL false true]; exact hl
  obtain ⟨av, c, hs, ht, hc⟩ := stepSt_spec (hst i o ho)
  have hsum := Sm_set (fun k => (st (k + 1)).q - (st k).q) L i hiL hl' ops.size
  rw [if_pos hin] at hsum
  have hcc : (st (i + 1)).q - (st i).q = c := by omega
  simp only [hcc] at hsum
  have hle := Sm_le (fun k => (st (k + 1)).q - (st k).q) (L.setIfInBounds i true) ops.size
  have htq := trace_q hst ops.size (Nat.le_refl _)
  have hev : ∀ x, gAV E κ (evalR (opTmps o.op) (st i).tmps x) (a.eval x) := by
    refine evalR_sound (fun t htm av' hav => ?_)
    have key : ∃ v, a.tmps[t]? = some v ∧ gAV E κ av' v := by
      by_cases hw : ∃ (j : Nat) (o' : Oper), ops[j]? = some o' ∧ o'.dst = some t
      · obtain ⟨j, o', hj, hdst⟩ := hw
        rcases d1 i j o o' t ho hj htm hdst with ⟨e, he, hb, rfl⟩ | ⟨e, he, hb, hei⟩
        · have hji := d2 i o ho e he hb
          have hjl := hall e he hb
          refine h.new t av' e.on o' hj hdst hjl ?_
          have := trace_same hst t (ops.size - i) i (by omega) (fun k o'' h1 h2 h3 h4 => by
            have := d3 k e.on o'' o' t h3 hj h4 hdst
            omega)
          rw [show i + (ops.size - i) = ops.size by omega] at this
          rw [this, hav]
        · have hji := d2 j o' hj e he hb
          refine h.old t av' ?_ (fun j' o'' hj' hdst' => ?_)
          · have := trace_same hst t i 0 (by omega) (fun k o'' _ h2 h3 h4 => by
              have := d3 k j o'' o' t h3 hj h4 hdst
              omega)
            rw [Nat.zero_add] at this
            rw [← this, hav]
          · obtain rfl := d3 j' j o'' o' t hj' hj hdst' hdst
            have hjs := (Array.getElem?_eq_some_iff.mp hj').1
            cases hlj : L.getD j' false with
            | false => rw [getD_all (by rw [h.size]; exact hjs) true false]; exact hlj
            | true =>
              have := h.closed j' o' hj hlj e he hb
              rw [hei, hl'] at this
              cases this
      · refine h.old t av' ?_ (fun j o' hj hdst => absurd ⟨j, o', hj, hdst⟩ hw)
        have := trace_same hst t i 0 (by omega) (fun k o'' _ _ h3 h4 => hw ⟨k, o'', h3, h4⟩)
        rw [Nat.zero_add] at this
        rw [← this, hav]
    obtain ⟨v, h1, h2⟩ := key
    rw [Array.getD_eq_getD_getElem?, h1]
    exact h2
  obtain ⟨hg, hwp⟩ := stepOp_sound (a := a) (K := K) (Q := Q) hE hF h.inv (by omega) hs hev (fun κ' v w' hle' hinv' hv => hK κ' _ w' hle' ⟨by simp [h.size], (fun j oj hj hlj e he hb => by
      have hset : ∀ m, L.getD m false = true → (L.setIfInBounds i true).getD m false = true := fun m hm => by
        rw [getD_set L i m hiL]
        split
        · rfl
        · exact hm
      rw [getD_set L i j hiL] at hlj
      split at hlj
      · rename_i hji
        subst hji
        rw [ho] at hj
        injection hj with hj
        subst hj
        exact hset _ (hall e he hb)
      · exact hset _ (h.closed j oj hj hlj e he hb)), (by cases o.dst <;> exact h.defers), (by rw [← h.tsize]; cases o.dst <;> simp [Act.put]), (by
      have e : (st 0).q + Sm (fun k => (st (k + 1)).q - (st k).q) (L.setIfInBounds i true) ops.size = (st 0).q + Sm (fun k => (st (k + 1)).q - (st k).q) L ops.size + c := by rw [hsum]; omega
      rw [e]; exact hinv'), (fun t av0 h0 hun => by
      have hne : o.dst ≠ some t := fun e => by
        have := hun i o ho e
        rw [getD_set L i i hiL, if_pos rfl] at this
        cases this
      obtain ⟨u, g1, g2⟩ := h.old t av0 h0 (fun j o' hj hdst => by
        have := hun j o' hj hdst
        rw [getD_set L i j hiL] at this
        split at this
        · cases this
        · exact this)
      refine ⟨u, ?_, g2.mono hle'⟩
      cases hdd : o.dst with
      | none => exact g1
      | some d =>
        simp only [Act.put, Array.getElem?_setIfInBounds]
        rw [if_neg (fun e => hne (by rw [hdd, e]))]
        exact g1), (fun t av1 j o' hj hdst hlj h1 => by
      by_cases hji : j = i
      · subst hji
        rw [ho] at hj
        injection hj with hj
        subst hj
        have := trace_same hst t (ops.size - (j + 1)) (j + 1) (by omega) (fun k o'' g1 g2 g3 g4 => by
          have := d3 k j o'' o t g3 ho g4 hdst
          omega)
        rw [show j + 1 + (ops.size - (j + 1)) = ops.size by omega, h1, ht, hdst] at this
        simp only [putL, List.getElem?_set, if_true] at this
        split at this <;> try (cases this; done)
        rename_i hlt
        injection this with this
        subst this
        rw [hdst]
        simp only [Act.put, Array.getElem?_setIfInBounds, if_true]
        rw [if_pos (by rw [h.tsize, ← trace_len hst j (by omega)]; exact hlt)]
        exact ⟨v, rfl, hv⟩
      · rw [getD_set L i j hiL, if_neg hji] at hlj
        obtain ⟨u, g1, g2⟩ := h.new t av1 j o' hj hdst hlj h1
        have hne : o.dst ≠ some t := fun e => hji (d3 j i o' o t hj ho hdst e)
        refine ⟨u, ?_, g2.mono hle'⟩
        cases hdd : o.dst with
        | none => exact g1
        | some d =>
          simp only [Act.put, Array.getElem?_setIfInBounds]
          rw [if_neg (fun e => hne (by rw [hdd, e]))]
          exact g1)⟩)
  unfold wpOp
  rw [ho]
  simp only
  rw [if_pos (by unfold Region.wanted; rw [hg])]
  exact .inl hwp
theorem any_sound (hE : EnvOk E) (hF : FnsOk E F) {ops : Array Oper} {st : Nat → St} (hst : ∀ i o, ops[i]? = some o → stepSt E.T F o (st i) = some (st (i + 1))) (hd : drawOk ops = true) (hq : (st ops.size).q ≤ qMax)
    {Q : Exit → Act → World → Prop} : ∀ (fuel : Nat) (κ : Kr) (L : Array Bool) (a : Act) (w : World), Some' E ops st κ L a w → ops.size ≤ Sm (fun _ => 1) L ops.size + fuel →
    (∀ κ' a' w', κ.le κ' → Tmps E κ' (st ops.size).tmps a' → Inv E κ' (st ops.size).q w' → Q .normal a' w') → wpAny E.P .any ops Q fuel L a w := by
  have done : ∀ (κ : Kr) (L : Array Bool) (a : Act) (w : World), Some' E ops st κ L a w → (∀ i, i < ops.size → L.getD i false = true) →
      (∀ κ' a' w', κ.le κ' → Tmps E κ' (st ops.size).tmps a' → Inv E κ' (st ops.size).q w' → Q .normal a' w') → Q .normal a w := by
    intro κ L a w h hall hQ
    refine hQ κ a w (Kr.le.refl κ) ⟨h.defers, by rw [h.tsize, trace_len hst ops.size (Nat.le_refl _)], fun t av hav => ?_⟩ ?_
    · by_cases hw : ∃ (j : Nat) (o' : Oper), ops[j]? = some o' ∧ o'.dst = some t
      · obtain ⟨j, o', hj, hdst⟩ := hw
        exact h.new t av j o' hj hdst (hall j (Array.getElem?_eq_some_iff.mp hj).1) hav
      · refine h.old t av ?_ (fun j o' hj hdst => absurd ⟨j, o', hj, hdst⟩ hw)
        have := trace_same hst t ops.size 0 (by omega) (fun k o'' _ _ h3 h4 => hw ⟨k, o'', h3, h4⟩)
        rw [Nat.zero_add] at this
        rw [← this, hav]
    · have h1 := h.inv
      have h2 : ∀ n, n ≤ ops.size → Sm (fun k => (st (k + 1)).q - (st k).q) L n = Tm (fun k => (st (k + 1)).q - (st k).q) n := by
        intro n
        induction n with
        | zero => intro _; rfl
        | succ n ih =>
          intro hn
          unfold Sm Tm
          rw [ih (by omega), if_pos (hall n (by omega))]
      rw [h2 _ (Nat.le_refl _), ← trace_q hst ops.size (Nat.le_refl _)] at h1
      exact h1
  obtain ⟨_, d2, _⟩ := drawOk_spec hd
  intro fuel
  induction fuel with
  | zero =>
    intro κ L a w h hn hQ
    have hall : ∀ i, i < ops.size → L.getD i false = true := by
      intro i hi
      by_cases hl : L.getD i false = true
      · exact hl
      · have hl : L.getD i false = false := by simpa using hl
        have h1 := Sm_set (fun _ => 1) L i (by rw [h.size]; exact hi) hl ops.size
        have h2 := Sm_le (fun _ => 1) (L.setIfInBounds i true) ops.size
        rw [Tm_one] at h2
        rw [if_pos hi] at h1
        omega
    refine ⟨?_, done κ L a w h hall hQ⟩
    rw [List.eq_nil_iff_forall_not_mem]
    intro j hj
    obtain ⟨h1, o, h2, _⟩ := mem_ready.mp hj
    have hjn := (Array.getElem?_eq_some_iff.mp h2).1
    have := hall j hjn
    rw [getD_all (by rw [h.size]; exact hjn) false true, h1] at this
    cases this
  | succ fuel ih =>
    intro κ L a w h hn hQ
    refine ⟨fun hr => done κ L a w h (fun i hi => ?_) hQ, fun i hi => ?_⟩
    · have : ∀ i, i < ops.size → L.getD i false = true := by
        intro i
        induction i using Nat.strongRecOn with
        | _ i ih2 =>
          intro hi
          by_cases hl : L.getD i false = true
          · exact hl
          · exfalso
            have hl : L.getD i false = false := by simpa using hl
            have ho : ops[i]? = some (ops[i]'hi) := Array.getElem?_eq_getElem hi
            have hm : i ∈ Region.ready .any ops L := mem_ready.mpr ⟨by rw [getD_all (by rw [h.size]; exact hi) true false]; exact hl, _, ho, fun e he hb => by
              have := d2 i _ ho e he hb
              exact ih2 e.on this (by omega)⟩
            rw [hr] at hm
            cases hm
      exact this i hi
    · refine some_step hE hF hst hd hq h hi (fun κ' a' w' hle h' => ih κ' _ a' w' h' ?_ (fun κ'' a'' w'' g1 g2 g3 => hQ κ'' a'' w'' (hle.trans g1) g2 g3))
      obtain ⟨h1, o, h2, _⟩ := mem_ready.mp hi
      have hin := (Array.getElem?_eq_some_iff.mp h2).1
      have h3 := Sm_set (fun _ => 1) L i (by rw [h.size]; exact hin) (by rw [getD_all (by rw [h.size]; exact hin) false true]; exact h1) ops.size
      rw [if_pos hin] at h3
      omega
/-- A region, whatever its order. -/
theorem region_sound (hE : EnvOk E) (hm : E.P.follows .mixedOrders = true) (hF : FnsOk E F) {id : Nat} {ops : Array Oper} {draw : Bool} {Q : Exit → Act → World → Prop} {σ σ' : St} {κ : Kr} {a : Act} {w : World}
    (hs : stepAll E.T F ops.toList σ = some σ') (hd : draw = false ∨ drawOk ops = true) (hq : σ'.q ≤ qMax) (ht : Tmps E κ σ.tmps a) (hi : Inv E κ σ.q w)
    (hQ : ∀ κ' a' w', κ.le κ' → Tmps E κ' σ'.tmps a' → Inv E κ' σ'.q w' → Q .normal a' w') : (Code.region id ops draw).wp E.P Q a w := by
  cases draw with
  | false =>
    apply wp_region
    rw [List.range_eq_range']
    exact ops_sound hE hF ops.size 0 σ σ' κ a w (by omega) (by simpa using hs) hq ht hi hQ
  | true =>
    have hd : drawOk ops = true := hd.resolve_left (by simp)
    apply wp_region_any hm
    obtain ⟨st, s0, s1, s2⟩ := trace_of ops.toList σ σ' hs
    have hst : ∀ i o, ops[i]? = some o → stepSt E.T F o (st i) = some (st (i + 1)) := fun i o ho => s1 i o (by rw [Array.getElem?_toList]; exact ho)
    rw [show ops.toList.length = ops.size by simp] at s2
    subst s0
    subst s2
    have hz : ∀ n, Sm (fun k => (st (k + 1)).q - (st k).q) (Array.replicate ops.size false) n = 0 := by
      intro n
      induction n with
      | zero => rfl
      | succ n ih =>
        unfold Sm
        rw [ih, if_neg]
        rw [Array.getD_eq_getD_getElem?, Array.getElem?_replicate]
        split <;> simp
    refine any_sound hE hF hst hd hq ops.size κ _ a _ ⟨by simp, (fun j o hj hl => by
      rw [Array.getD_eq_getD_getElem?, Array.getElem?_replicate] at hl
      split at hl <;> simp at hl), ht.defers, ht.size, by rw [hz]; exact hi.drew hE, fun t av h _ => ht.vals t av h, fun t av j o hj _ hl _ => ?_⟩ (by omega) hQ
    rw [Array.getD_eq_getD_getElem?, Array.getElem?_replicate] at hl
    split at hl <;> simp at hl
end
end Go.Proofs.Ytjleempapphlhab.Typ
namespace Go.Proofs.Ytjleempapphlhab.Typ
open Go Go.RowKit
set_option linter.unusedVariables false
/-- The states in which code may end. -/
structure Res where
  norm : Option St
  exits : List (Nat × St)
  ret : Option St
def joinSt (x y : St) : Option St := if x.tmps.length = y.tmps.length then some ⟨x.tmps.zipWith AV.join y.tmps, max x.q y.q⟩ else none
def joinO : Option St → Option St → Option (Option St)
  | none, y => some y
  | x, none => some x
  | some x, some y => match joinSt x y with | some z => some (some z) | none => none
def joinExits (id : Nat) : List (Nat × St) → Option St → Option (Option St)
  | [], n => some n
  | (i, σ) :: l, n => if i = id then match joinO (some σ) n with | some n' => joinExits id l n' | none => none else joinExits id l n
def evalC (tmps : List AV) : Operand → AV
  | .tmp t => tmps.getD t anyV
  | .const v => absC v
  | _ => anyV
/-- Operations that hang on others: 'and', 'or'. -/
def guardAt (ops : List Oper) (tmps : List AV) (j : Nat) : Option Bool :=
  match ops[j]? with
  | some o => match o.dst with
    | some d => match tmps.getD d anyV with
      | .v (.one (.bool (some b))) => some b
      | _ => none
    | none => none
  | none => none
def isSource (ops : List Oper) (k : Nat) : Bool := ops.any fun o => match o.guard with | some (j, _) => j == k | none => false
def gStep (T : Tab) (F : Fns) (ops : List Oper) (o : Oper) (σ : St) : Option St :=
  match o.guard with
  | none => stepSt T F o σ
  | some (j, b) => match guardAt ops σ.tmps j with
    | some v => if v = b then stepSt T F ⟨o.dst, o.op, o.type, o.pos, o.after, none⟩ σ else some ⟨putL σ.tmps o.dst anyV, σ.q⟩
    | none => none
def boolV (b : Bool) : AV := .v (.one (.bool (some b)))
def stepG (T : Tab) (F : Fns) (ops : List Oper) : Nat → List Oper → St → Option St
  | _, [], σ => some σ
  | k, o :: l, σ => match gStep T F ops o σ with
    | none => none
    | some σ1 => match (if isSource ops k = true then o.dst else none) with
      | none => stepG T F ops (k + 1) l σ1
      | some d => match σ1.tmps.getD d anyV with
        | .v (.one (.bool none)) => match stepG T F ops (k + 1) l ⟨σ1.tmps.set d (boolV true), σ1.q⟩, stepG T F ops (k + 1) l ⟨σ1.tmps.set d (boolV false), σ1.q⟩ with
          | some x, some y => joinSt x y
          | _, _ => none
        | _ => stepG T F ops (k + 1) l σ1
def hasGuard (ops : List Oper) : Bool := ops.any fun o => o.guard.isSome
def thenR (r r2 : Res) : Option Res :=
  match joinO r.ret r2.ret with
  | some ret => some ⟨r2.norm, r.exits ++ r2.exits, ret⟩
  | none => none
def absCode (T : Tab) (F : Fns) (M : Nat) : Nat → Code → St → Option Res
  | 0, _, _ => none
  | fuel + 1, c, σ =>
    match c with
    | .skip => some ⟨some σ, [], none⟩
    | .label _ => some ⟨some σ, [], none⟩
    | .exit id => some ⟨none, [(id, σ)], none⟩
    | .ret => some ⟨none, [], some σ⟩
    | .region _ ops draw =>
      if draw = false ∧ hasGuard ops.toList = true then
        match stepG T F ops.toList 0 ops.toList σ with
        | some σ' => if σ'.q ≤ M then some ⟨some σ', [], none⟩ else none
        | none => none
      else if draw = false ∨ drawOk ops = true then
        match stepAll T F ops.toList σ with
        | some σ' => if σ'.q ≤ M then some ⟨some σ', [], none⟩ else none
        | none => none
      else none
    | .seq x y =>
      match absCode T F M fuel x σ with
      | some r => match r.norm with
        | some σ1 => match absCode T F M fuel y σ1 with
          | some r2 => thenR r r2
          | none => none
        | none => some r
      | none => none
    | .cond c x y =>
      match evalC σ.tmps c with
      | .v (.one (.bool (some true))) => absCode T F M fuel x σ
      | .v (.one (.bool (some false))) => absCode T F M fuel y σ
      | .v (.one (.bool none)) =>
        match absCode T F M fuel x σ, absCode T F M fuel y σ with
        | some r, some r2 => match joinO r.norm r2.norm, joinO r.ret r2.ret with
          | some n, some t => some ⟨n, r.exits ++ r2.exits, t⟩
          | _, _ => none
        | _, _ => none
      | _ => none
    | .block id x =>
      match absCode T F M fuel x σ with
      | some r => match joinExits id r.exits r.norm with
        | some n => some ⟨n, r.exits.filter (fun p => p.1 != id), r.ret⟩
        | none => none
      | none => none
    | .loop x =>
      match absCode T F M fuel x σ with
      | some r => match r.norm with
        | some σ1 => match absCode T F M fuel (.loop x) σ1 with
          | some r2 => thenR r r2
          | none => none
        | none => some r
      | none => none
    | _ => none
/-- One of the states. -/
def At1 (E : Env) (b : Nat) (κ0 : Kr) (σ : St) (a : Act) (w : World) : Prop := ∃ κ, κ0.le κ ∧ Tmps E κ σ.tmps a ∧ Inv E κ (b + σ.q) w
def QR (E : Env) (b : Nat) (κ0 : Kr) (r : Res) : Exit → Act → World → Prop
  | .normal, a, w => ∃ σ, r.norm = some σ ∧ At1 E b κ0 σ a w
  | .exit id, a, w => ∃ σ, (id, σ) ∈ r.exits ∧ At1 E b κ0 σ a w
  | .ret, a, w => ∃ σ, r.ret = some σ ∧ At1 E b κ0 σ a w
  | _, _, _ => False
section
variable {E : Env} {F : Fns} {b : Nat} {κ0 : Kr} {a : Act} {w : World}
theorem zip_l {κ : Kr} {l m : List AV} (hl : l.length = m.length) (h : Tmps E κ l a) : Tmps E κ (l.zipWith AV.join m) a := by
  refine ⟨h.defers, by rw [h.size]; simp [hl], fun i av hi => ?_⟩
  rw [List.getElem?_zipWith] at hi
  cases h1 : l[i]? with
  | none => rw [h1] at hi; cases hi
  | some x =>
    cases h2 : m[i]? with
    | none => rw [h1, h2] at hi; cases hi
    | some y =>
      rw [h1, h2] at hi
      injection hi with hi; subst hi
      obtain ⟨v, g1, g2⟩ := h.vals i x h1
      exact ⟨v, g1, g2.join_l⟩
theorem zip_r {κ : Kr} {l m : List AV} (hl : l.length = m.length) (h : Tmps E κ m a) : Tmps E κ (l.zipWith AV.join m) a := by
  refine ⟨h.defers, by rw [h.size]; simp [hl], fun i av hi => ?_⟩
  rw [List.getElem?_zipWith] at hi
  cases h1 : l[i]? with
  | none => rw [h1] at hi; cases hi
  | some x =>
    cases h2 : m[i]? with
    | none => rw [h1, h2] at hi; cases hi
    | some y =>
      rw [h1, h2] at hi
      injection hi with hi; subst hi
      obtain ⟨v, g1, g2⟩ := h.vals i y h2
      exact ⟨v, g1, g2.join_r⟩
theorem At1.up {κ1 : Kr} {σ : St} (hle : κ0.le κ1) (h : At1 E b κ1 σ a w) : At1 E b κ0 σ a w := by
  obtain ⟨κ, h1, h2⟩ := h
  exact ⟨κ, hle.trans h1, h2⟩
theorem QR.up {κ1 : Kr} {r : Res} {e : Exit} (hle : κ0.le κ1) (h : QR E b κ1 r e a w) : QR E b κ0 r e a w := by
  cases e <;> first | exact h.elim | (obtain ⟨σ, h1, h2⟩ := h; exact ⟨σ, h1, h2.up hle⟩)
theorem evalC_sound {κ : Kr} {l : List AV} (h : Tmps E κ l a) (x : Operand) : gAV E κ (evalC l x) (a.eval x) := by
  cases x with
  | tmp t =>
    simp only [evalC]
    rw [List.getD_eq_getElem?_getD]
    cases hl : l[t]? with
    | none => exact trivial
    | some av => exact h.getD t av hl
  | const v => exact absC_sound v
  | global g => trivial
  | func f => trivial
theorem guardAt_sound {κ : Kr} {ops : Array Oper} {l : List AV} {j : Nat} {v : Bool} (ht : Tmps E κ l a) (h : guardAt ops.toList l j = some v) : yielded ops a.tmps j = some v := by
  unfold guardAt at h
  split at h <;> try (cases h; done)
  rename_i o ho
  split at h <;> try (cases h; done)
  rename_i d hd
  split at h <;> try (cases h; done)
  rename_i bb hv
  injection h with h; subst h
  rw [Array.getElem?_toList] at ho
  rw [List.getD_eq_getElem?_getD] at hv
  cases hl : l[d]? with
  | none => rw [hl] at hv; cases hv
  | some x =>
    rw [hl] at hv
    simp at hv
    subst hv
    obtain ⟨u, h1, w, rfl, h2⟩ := ht.vals d _ hl
    obtain rfl : w = bb := by rcases h2 with h2 | h2 <;> simp at h2; exact h2.symm
    simp [yielded, ho, hd, h1]
theorem Tmps.known {κ : Kr} {l : List AV} (h : Tmps E κ l a) {d : Nat} (hd : l.getD d anyV = .v (.one (.bool none))) : ∃ v : Bool, Tmps E κ (l.set d (boolV v)) a := by
  rw [List.getD_eq_getElem?_getD] at hd
  cases hl : l[d]? with
  | none => rw [hl] at hd; cases hd
  | some x =>
    rw [hl] at hd
    simp at hd
    subst hd
    obtain ⟨u, h1, v, rfl, _⟩ := h.vals d _ hl
    refine ⟨v, h.defers, by simp [h.size], fun i y hy => ?_⟩
    rw [List.getElem?_set] at hy
    split at hy
    · rename_i e
      subst e
      split at hy <;> try (cases hy; done)
      injection hy with hy; subst hy
      exact ⟨_, h1, v, rfl, .inr rfl⟩
    · exact h.vals i y hy
end
section
variable {E : Env} {F : Fns}
theorem least (p : Nat → Prop) (h : ∃ n, p n) : ∃ n, p n ∧ ∀ m, p m → n ≤ m := by
  obtain ⟨n, hn⟩ := h
  induction n using Nat.strongRecOn with
  | _ n ih =>
    by_cases hx : ∃ m, m < n ∧ p m
    · obtain ⟨m, h1, h2⟩ := hx
      exact ih m h1 h2
    · refine ⟨n, hn, fun m hm => ?_⟩
      rcases Nat.lt_or_ge m n with h1 | h1
      · exact absurd ⟨m, h1, hm⟩ hx
      · exact h1
end
end Go.Proofs.Ytjleempapphlhab.Typ
namespace Go.Proofs.Ytjleempapphlhab.Typ
open Go Go.RowKit
set_option linter.unusedVariables false
def aRes (T : Tab) (tmps : List AV) : ResultVar → Option V1
  | .tmp t => match tmps.getD t anyV with
    | .v x => some x
    | _ => none
  | .cell a t => match aLoad T (fun _ => tmps.getD a anyV) t (.tmp a) with
    | some (.v x) => some x
    | _ => none
def aResults (T : Tab) (tmps : List AV) : List ResultVar → Option (List V1)
  | [] => some []
  | r :: rs => match aRes T tmps r, aResults T tmps rs with
    | some x, some l => some (x :: l)
    | _, _ => none
def absFunc (T : Tab) (F : Fns) (M fuel : Nat) (fn : Func) (args : List AV) : Option AV :=
  match fn.body with
  | some c =>
    match absCode T F M fuel c ⟨args ++ List.replicate (fn.ntmps - args.length) anyV, 0⟩ with
    | some r =>
      if r.exits.isEmpty = true then
        match joinO r.norm r.ret with
        | some (some σ) => if σ.q ≤ M then
            match aResults T σ.tmps fn.results.toList with
            | some [x] => some (.v x)
            | some l => some (.tup l)
            | none => none
          else none
        | _ => none
      else none
    | none => none
  | none => none
/-- One function more. -/
def Fns.ext (T : Tab) (F : Fns) (f : Nat) (fn : Func) (M fuel : Nat) : Fns := fun g args =>
  if g = f then (match absFunc T F M fuel fn args with | some av => some (av, M) | none => none) else F g args
def resF (tmps : Array Value) (r : ResultVar) : Sem Value :=
  match r with
  | .tmp t => pure (tmps.getD t undef)
  | .cell b t => do loadVar t (← asAddr (tmps.getD b undef))
section
variable {E : Env} {F : Fns} {κ : Kr} {q : Nat} {w : World} {a : Act}
theorem res_sound (hE : EnvOk E) (hi : Inv E κ q w) {l : List AV} (ht : Tmps E κ l a) {r : ResultVar} {x : V1} (h : aRes E.T l r = some x) :
    ∃ v, (resF a.tmps r).run E.P w = .ok v w ∧ gV1 E κ x v := by
  have hc : ∀ t, gAV E κ (l.getD t anyV) (a.tmps.getD t undef) := fun t => evalC_sound ht (.tmp t)
  cases r with
  | tmp t =>
    unfold aRes at h
    simp only at h
    split at h <;> try (cases h; done)
    rename_i y hy
    injection h with h; subst h
    have := hc t
    rw [hy] at this
    exact ⟨_, rfl, this⟩
  | cell b t =>
    unfold aRes at h
    simp only at h
    split at h <;> try (cases h; done)
    rename_i y hy
    injection h with h; subst h
    obtain ⟨ad, v, h1, h2, h3⟩ := s_load0 (ρ := fun _ => a.tmps.getD b undef) (e := fun _ => l.getD b anyV) hE hi (fun _ => hc b) hy
    refine ⟨v, ?_, h3⟩
    show (do loadVar t (← asAddr (a.tmps.getD b undef)) : Sem Value).run E.P w = _
    rw [h1]
    simp [asAddr, h2]
theorem gV1s.len : ∀ {l : List V1} {vs : List Value}, gV1s E κ l vs → l.length = vs.length
  | [], [], _ => rfl
  | _ :: _, _ :: _, ⟨_, h2⟩ => by simp [gV1s.len h2]
end
end Go.Proofs.Ytjleempapphlhab.Typ
end
