/- Parts of the proof: Mini11. -/
import Derived.Test.YtjleempapphlhabGeMini10
section
namespace Go.Proofs.Ytjleempapphlhab.Mini
open Go Go.RowKit
set_option linter.unusedVariables false
def readyC (ops : List Oper) (done : List Nat) (i : Nat) : Bool :=
  match ops[i]? with
  | some o => o.after.toList.all fun e => !Region.binds .any e || done.contains e.on
  | none => false
def isCallAt (ops : List Oper) (i : Nat) : Bool := match ops[i]? with | some o => isCallO o | none => false
/-- An order in which calls come as late as they can. -/
def canon (ops : List Oper) : Nat → List Nat → List Nat
  | 0, done => done
  | f + 1, done =>
    let cand := (List.range ops.length).filter fun i => !done.contains i && readyC ops done i
    match cand.find? fun i => !isCallAt ops i with
    | some i => canon ops f (done ++ [i])
    | none => match cand with
      | i :: _ => canon ops f (done ++ [i])
      | [] => done
def offs (P : Program) (F : Tb) (ops : List Oper) : Nat → List Nat → List (Nat × Nat) × Nat
  | n, [] => ([], n)
  | n, i :: l => match ops[i]? with
    | some o => let r := offs P F ops (n + nNew P F o) l; ((i, n) :: r.1, r.2)
    | none => ([], n)
def shapeC (P : Program) (nb : Nat) (o : Oper) (σ : St) (args : Array Operand) (s : Sig) : St :=
  match argCells P s.params (args.toList.map fun x => unl (evalR (opTmps o.op) σ.tmps x)), ksAll P s.params, ksAll P s.results with
  | some as, some pk, some rk => match callV P s (restr σ.H (touch o.op σ)) pk as with
    | some (_, _, kl) => match splitV P s.results (resU s [] nb kl pk rk).1 with
      | some l => ⟨putL σ.tmps o.dst (wrapR l), setH σ.H (resU s [] nb kl pk rk).2⟩
      | none => σ
    | none => σ
  | _, _, _ => σ
def shapeStep (P : Program) (F : Tb) (nb : Nat) (o : Oper) (σ : St) : St :=
  match isCallF o.op with
  | some (f, args) => match F f with
    | some s => match s.md with
      | .rd z => match readR P (nd (restr σ.H (touch o.op σ))) s (args.toList.map fun x => unl (evalR (opTmps o.op) σ.tmps x)) with
        | some (id, row, _, _, rk, _, _) => match splitV P s.results (resR z [] nb rk).1 with
          | some l => ⟨putL σ.tmps o.dst (wrapR l), setH σ.H ((id, some (.sym row.t [])) :: (resR z [] nb rk).2)⟩
          | none => σ
        | none => σ
      | .op => match readO P (nd (restr σ.H (touch o.op σ))) s (args.toList.map fun x => unl (evalR (opTmps o.op) σ.tmps x)) with
        | some (t, _, _, _) => ⟨putL σ.tmps o.dst (one (.ptr nb 0)), setH σ.H [(nb, some (.sym t []))]⟩
        | none => σ
      | .ownD => match ksAll P s.results with
        | some (.list t :: rk) => match splitV P s.results (.sl t nb 0 0 :: sels [] 1 rk) with
          | some l => ⟨putL σ.tmps o.dst (wrapR l), setH σ.H [(nb, some (.deep t []))]⟩
          | none => σ
        | _ => σ
      | .wrD => match ksAll P s.results with
        | some rk => match splitV P s.results (sels [] 0 rk) with
          | some l => ⟨putL σ.tmps o.dst (wrapR l), σ.H⟩
          | none => σ
        | none => σ
      | .wr => if isIsl (argCells P s.params (args.toList.map fun x => unl (evalR (opTmps o.op) σ.tmps x))) = true then
          (match ksAll P s.results with
          | some rk => match splitV P s.results (sels [] 0 rk) with
            | some l => ⟨putL σ.tmps o.dst (wrapR l), σ.H⟩
            | none => σ
          | none => σ)
        else shapeC P nb o σ args s
      | _ => shapeC P nb o σ args s
    | none => σ
  | none => match mOpX P o.op (unlE o.op (evalR (opTmps o.op) σ.tmps)) (restr σ.H (touch o.op σ)) nb with
    | some (_, av, us) => ⟨putL σ.tmps o.dst av, setH σ.H us⟩
    | none => match o.op with
      | .pick _ _ _ => ⟨putL σ.tmps o.dst (bool true), σ.H⟩
      | _ => σ
def tcRun (P : Program) (F : Tb) (ops : List Oper) (nb : Nat → Nat) : List Nat → St → List (Nat × (List Nat × List Nat))
  | [], _ => []
  | i :: l, σ => match ops[i]? with
    | some o => (i, (touch o.op σ, wset P F o σ)) :: forceSt (shapeStep P F (nb i) o σ) (tcRun P F ops nb l)
    | none => []
def look {α : Type} (d : α) : List (Nat × α) → Nat → α
  | [], _ => d
  | (k, x) :: l, i => if k = i then x else look d l i
def sxDrawn (P : Program) (F : Tb) (ops : List Oper) (σ : St) (K : St → Tree) (ord : List Nat) (nbs : List (Nat × Nat) × Nat) (tcs : List (Nat × (List Nat × List Nat))) : Tree :=
  if drawnOk P F ops (look 0 nbs.1) (look ([], []) tcs) ord = true ∧ (ord.all fun i => decide (σ.H.length ≤ look 0 nbs.1 i)) = true then
    sxOrdF P F ops (look 0 nbs.1) (look ([], []) tcs) ord (padS σ (nbs.2 - σ.H.length)) K
  else .fail
def sxRegion (P : Program) (F : Tb) (ops : List Oper) (draw : Bool) (σ : St) (K : St → Tree) : Tree :=
  if draw = false then sxOpsF P F ops 0 ops σ K else
    let ord := canon ops ops.length []
    let nbs := offs P F ops σ.H.length ord
    sxDrawn P F ops σ K ord nbs (tcRun P F ops (look 0 nbs.1) ord (padS σ (nbs.2 - σ.H.length)))
section
variable {P : Program} {w0 : Bs} {κ : Kr} {C : Cs} {w : World} {F : Tb} {a : Act} {J : Nat → List D → Prop} {Q : List D → Prop}
theorem region_sound (hF : FnsOk P F) (hm : P.follows .mixedOrders = true) {id : Nat} {ops : Array Oper} {draw : Bool} {σ : St} {K : St → Tree} {Qe : Exit → Act → World → Prop} (h : (sxRegion P F ops.toList draw σ K).holds F J Q) (hr : Rel P w0 κ σ a w)
    (hQ : ∀ κ' σ' a' w', κ.le κ' → Rel P w0 κ' σ' a' w' → (K σ').holds F J Q → Qe .normal a' w') : (Code.region id ops draw).wp P Qe a w := by
  unfold sxRegion at h
  cases draw with
  | false =>
    rw [if_pos rfl] at h
    apply wp_region
    rw [List.range_eq_range']
    rw [sxOpsF_eq] at h
    exact sxOps_sound hF ops.size 0 σ κ a w (by omega) (by simpa using h) hr hQ
  | true =>
    rw [if_neg (by simp)] at h
    simp only at h
    generalize canon ops.toList ops.toList.length [] = ord at h
    generalize offs P F ops.toList σ.H.length ord = nbs at h
    generalize tcRun P F ops.toList (look 0 nbs.1) ord (padS σ (nbs.2 - σ.H.length)) = tcs at h
    unfold sxDrawn at h
    split at h <;> try (exact h.elim)
    rename_i hd
    obtain ⟨hd, hnb⟩ := hd
    rw [sxOrdF_eq] at h
    apply wp_region_any hm
    have hall0 : ∀ x, (Array.replicate ops.size false).getD x false = false := fun x => by
      rw [Array.getD_eq_getD_getElem?, Array.getElem?_replicate]
      split <;> simp
    refine relO_any hF hd ops.size κ _ (padS σ (nbs.2 - σ.H.length)) a _ ⟨by simp, ⟨hr.t, ?_, fun id hid => hr.fresh id (by simp [padS] at hid; omega), hr.pin, by show FreeN w0 κ (cs (σ.H ++ List.replicate _ none)); rw [cs_pad]; exact hr.free⟩, fun j o hj _ id h1 h2 h3 => ?_, fun A c B o _ _ _ _ x _ => hall0 x, ?_, fun j o _ hj => by rw [hall0 j] at hj; cases hj⟩ (by omega) hQ
    · show InvE P w0 κ (cs (σ.H ++ List.replicate _ none)) w.drew
      rw [cs_pad]; exact Inv.drew hr.inv
    · have hd' := hd
      unfold drawnOk at hd'
      simp only [Bool.and_eq_true, decide_eq_true_eq] at hd'
      have hjo : j ∈ ord := by
        have := List.all_eq_true.mp hd'.1.1.1 j (by simpa using (Array.getElem?_eq_some_iff.mp hj).1)
        simpa using this
      have := List.all_eq_true.mp hnb j hjo
      simp at this
      refine ⟨?_, hr.fresh id (by omega) h3⟩
      show cs (σ.H ++ List.replicate _ none) id = none
      rw [cs_pad]; exact cs_none (by omega)
    · rw [List.filter_eq_self.mpr (fun i _ => by rw [hall0 i]; rfl)]
      exact h
end
def retS (k : Kd) : A → Option (List Prop × D × List Nat)
  | .d d => if fitK d k = true then some ([], d, []) else none
  | _ => none
def retO (P : Program) (g : Cs) (t : Nat) : A → Option (List Prop × D × List Nat)
  | .nil => some ([], .list t 0 [], [])
  | .sl u id off len => if u = t then
      match g id with
      | some row => match rowD row with
        | some ds => if row.t = t then some ([(off + len) * sz P t ≤ ds.length, scal ((ds.drop (off * sz P t)).take (len * sz P t))], .list t len ((ds.drop (off * sz P t)).take (len * sz P t)), [id]) else none
        | none => none
      | none => none
    else none
  | _ => none
def retA (P : Program) (g : Cs) : Kd → A → Option (List Prop × D × List Nat)
  | .list t, a => retO P g t a
  | .int k, a => retS (.int k) a
  | .bool, a => retS .bool a
  | .str, a => retS .str a
def retL (P : Program) (g : Cs) : List Kd → List A → Option (List Prop × List D × List Nat)
  | [], [] => some ([], [], [])
  | k :: ks, a :: as => match retA P g k a, retL P g ks as with
    | some (n1, d, i1), some (n2, ds, i2) => if disj i1 i2 = true then some (n1 ++ n2, d :: ds, i1 ++ i2) else none
    | _, _ => none
  | _, _ => none
def resV (P : Program) (σ : St) : ResultVar → Option (List Prop × V1)
  | .tmp t => match unl (σ.tmps.getD t anyV) with | .v x => some ([], x) | _ => none
  | .cell a t => match mLoad P (fun _ => σ.tmps.getD a anyV) (nd (cs σ.H)) t (.tmp a) with | some (ns, .v x, []) => some (ns, x) | _ => none
def resVs (P : Program) (σ : St) : List ResultVar → Option (List Prop × List V1)
  | [] => some ([], [])
  | r :: rs => match resV P σ r, resVs P σ rs with | some (n1, x), some (n2, l) => some (n1 ++ n2, x :: l) | _, _ => none
/-- What lies in the lists that came in, at the end. -/
def wrZ (P : Program) (g : Cs) : Nat → List Kd → Option (List Prop × List D)
  | _, [] => some ([], [])
  | i, .list t :: ks => match g i, wrZ P g (i + 1) ks with
    | some row, some (ns, zs) => match rowD row with
      | some l => if row.t = t then some ((l.length = l.length / sz P t * sz P t ∧ scal l) :: ns, .list t (l.length / sz P t) l :: zs) else none
      | none => none
    | _, _ => none
  | i, _ :: ks => wrZ P g i ks
/-- The first result: a list whose lists are the call's own. -/
def retD (P : Program) (g : Cs) (t : Nat) : A → Option (List Prop × Nat × List D)
  | .nil => some ([], 0, [])
  | .sl u id off len => if u = t then
      match g id with
      | some (.deep v ds) => if v = t then some ([(off + len) * sz P t ≤ ds.length, flatDs P ((ds.drop (off * sz P t)).take (len * sz P t))], len, (ds.drop (off * sz P t)).take (len * sz P t)) else none
      | some (.sym v ds) => if v = t then some ([(off + len) * sz P t ≤ ds.length, noOwn ((ds.drop (off * sz P t)).take (len * sz P t))], len, (ds.drop (off * sz P t)).take (len * sz P t)) else none
      | some (.fix v cs) => match toDs cs with
        | some ds => if v = t then some ([(off + len) * sz P t ≤ ds.length, noOwn ((ds.drop (off * sz P t)).take (len * sz P t))], len, (ds.drop (off * sz P t)).take (len * sz P t)) else none
        | none => none
      | none => none
    else none
  | _ => none
def retB (P : Program) (md : Md) (g : Cs) (pk rk : List Kd) (as : List A) : Option (List Prop × List D × List Nat) :=
  match md with
  | .rd _ => none
  | .op => none
  | .fz => match frzL P (nd g) as with
    | some (ns, ds, _) => if fits (nilsTo ds rk) rk = true then some (ns, nilsTo ds rk, []) else none
    | none => none
  | .own => retL P (nd g) rk as
  | .wr => match retL P (nd g) rk as, wrZ P (nd g) 0 pk with
    | some (n1, ds, _), some (n2, zs) => if lists rk = 0 ∧ ds.length = rk.length then some (n1 ++ n2, ds ++ zs, []) else none
    | _, _ => none
  | .ownD => match rk, as with
    | .list t :: rk, a :: as => match retD P g t a, scalArgs rk as with
      | some (n1, n, ds), some xs => some (n1, .list t n ds :: xs, [])
      | _, _ => none
    | _, _ => none
  | .wrD => match pk, retL P (nd g) rk as, g 0 with
    | .list t :: _, some (n1, ds, _), some (.deep v zs) => if lists rk = 0 ∧ ds.length = rk.length ∧ v = t then some (n1 ++ [zs.length = zs.length / sz P t * sz P t, flatDs P zs], ds ++ [.list t (zs.length / sz P t) zs], []) else none
    | _, _, _ => none
def retT (P : Program) (md : Md) (pts rts : List Nat) (rvs : List ResultVar) (σ : St) : Tree :=
  if σ.H.length ≤ big then
  match resVs P σ rvs, ksAll P rts, ksAll P pts with
  | some (n1, xs), some rk, some pk => match argCells P rts (xs.map .v) with
    | some as => match retB P md (cs σ.H) pk rk as with
      | some (n2, ds, _) => .needs (n1 ++ n2) (.ret ds)
      | none => .fail
    | none => .fail
  | _, _, _ => .fail
  else .fail
section
variable {P : Program} {w0 : Bs} {κ : Kr} {C : Cs} {w : World} {F : Tb} {a : Act} {J : Nat → List D → Prop} {Q : List D → Prop}
theorem sel_of {ys : List D} {j : Nat} {t n : Nat} {l : List D} (h : ys[j]? = some (.list t n l)) : selN ys j = n ∧ selL ys j = l := by
  unfold selN selL; rw [h]; exact ⟨rfl, rfl⟩
theorem scalar_any {z z' : Nat → Option Obj} {d : D} {v : Value} (hs : d.scalar = true) (h : gD P z d v) : gD P z' d v := by
  cases d with
  | list => cases hs
  | _ => unfold gD at h ⊢; exact h
theorem retL_sound {g : Cs} (hi : Inv P w0 κ C w) (hg : ∀ id row, g id = some row → C id = some row) : ∀ {ks : List Kd} {as : List A} {n : List Prop} {ds : List D} {ids : List Nat} {vs : List Value} (pre : List D), ((∀ id ∈ ids, ∀ row b o N, C id = some row → κ.at_ id = some (b, o, N) → b ∉ blocks w0.bs) ∨ lists ks = 0) → retL P g ks as = some (n, ds, ids) → all_ n → gL P κ as vs →
    ∃ bs, resL P w0.heap.size w (pre ++ ds) pre.length ks vs bs ∧ (blocks bs).Nodup ∧ (∀ b ∈ blocks bs, ∃ id ∈ ids, ∃ row o N, C id = some row ∧ κ.at_ id = some (b, o, N)) ∧ all_ (needs (pre ++ ds) pre.length ks)
  | [], [], n, ds, ids, vs, pre, hbs, h, hn, hv => by
    injection h with h; injection h with h1 h2; injection h2 with h2 h3
    subst h2; subst h3
    have : vs = [] := List.eq_nil_of_length_eq_zero hv.len.symm
    subst this
    exact ⟨[], by unfold resL; exact ⟨rfl, rfl⟩, by simp [blocks], fun b hb => by simp [blocks] at hb, trivial⟩
  | k :: ks, a :: as, n, ds, ids, v :: vs, pre, hbs, h, hn, ⟨hv1, hv2⟩ => by
    unfold retL at h
    split at h <;> try (cases h; done)
    rename_i n1 d i1 n2 ds2 i2 h1 h2
    split at h <;> try (cases h; done)
    rename_i hdis
    injection h with h; injection h with e1 e2; injection e2 with e2 e3
    subst e1; subst e2; subst e3
    obtain ⟨hn1, hn2⟩ := all_append hn
    obtain ⟨bs, b1, b2, b3, b4⟩ := retL_sound hi hg (pre ++ [d]) (hbs.imp (fun h id hid => h id (List.mem_append_right _ hid)) (fun h => by cases k <;> simp [lists] at h <;> exact h)) h2 hn2 hv2
    rw [List.append_assoc, List.length_append] at b1 b4
    have hyj : (pre ++ d :: ds2)[pre.length]? = some d := by simp
    have scal : ∀ (k' : Kd), (∀ t, k' ≠ .list t) → retS k' a = some (n1, d, i1) → gD P (fun _ => none) (sel (pre ++ d :: ds2) pre.length k') v ∧ needK (pre ++ d :: ds2) pre.length k' ∧ i1 = [] := by
      intro k' hk' h1
      cases a with
      | d d' =>
        unfold retS at h1
        simp only at h1
        split at h1 <;> try (cases h1; done)
        rename_i hfit
        injection h1 with h1; injection h1 with e1 e2; injection e2 with e2 e3
        subst e2
        obtain ⟨q1, q2⟩ := fitK_sel hyj hfit
        refine ⟨?_, q1, e3.symm⟩
        rw [q2]
        have hv1' : gD P κ.z d' v := hv1
        refine scalar_any ?_ hv1'
        cases d' with
        | list t n l =>
          cases k' <;> simp [fitK] at hfit
          exact absurd rfl (hk' _)
        | _ => rfl
      | _ => cases h1
    cases k with
    | int k0 =>
      obtain ⟨q1, q2, rfl⟩ := scal (.int k0) (by simp) h1
      exact ⟨bs, by unfold resL; exact ⟨q1, b1⟩, b2, by simpa using b3, q2, b4⟩
    | bool =>
      obtain ⟨q1, q2, rfl⟩ := scal .bool (by simp) h1
      exact ⟨bs, by unfold resL; exact ⟨q1, b1⟩, b2, by simpa using b3, q2, b4⟩
    | str =>
      obtain ⟨q1, q2, rfl⟩ := scal .str (by simp) h1
      exact ⟨bs, by unfold resL; exact ⟨q1, b1⟩, b2, by simpa using b3, q2, b4⟩
    | list t =>
      have key : ∃ ob, ownOk P w0.heap.size w t (selN (pre ++ d :: ds2) pre.length) (selL (pre ++ d :: ds2) pre.length) v ob ∧ (∀ b, ob.map (·.1) = some b → ∃ id ∈ i1, ∃ row o N, C id = some row ∧ κ.at_ id = some (b, o, N)) ∧ needK (pre ++ d :: ds2) pre.length (.list t) := by
        have h1' : retO P g t a = some (n1, d, i1) := h1
        clear h1 scal
        cases a with
        | any => cases h1'
        | d x => cases h1'
        | ptr => cases h1'
        | pe => cases h1'
        | rp => cases h1'
        | lit => cases h1'
        | isl => cases h1'
        | nil =>
          injection h1' with h1; injection h1 with e1 e2; injection e2 with e2 e3
          subst e2
          obtain ⟨s1, s2⟩ := sel_of hyj
          rw [s1, s2]
          exact ⟨none, ⟨rfl, rfl, none, hv1⟩, fun b hb => (by cases hb), .inl (by rw [hyj, s1, s2])⟩
        | sl u id off len =>
          unfold retO at h1'
          simp only at h1'
          split at h1' <;> try (cases h1'; done)
          rename_i hu
          subst hu
          split at h1' <;> try (cases h1'; done)
          rename_i row hrow
          split at h1' <;> try (cases h1'; done)
          rename_i ds0 hds0
          split at h1' <;> try (cases h1'; done)
          rename_i hrt
          injection h1' with h1; injection h1 with e1 e2; injection e2 with e2 e3
          subst e1; subst e2; subst e3
          obtain ⟨hle, hsc, _⟩ := hn1
          rw [Nat.add_mul] at hle
          obtain ⟨s1, s2⟩ := sel_of hyj
          rw [s1, s2]
          have hl : ((ds0.drop (off * sz P u)).take (len * sz P u)).length = len * sz P u := by simp; omega
          have hCr := hg _ _ hrow
          obtain ⟨Ad, c, rfl, hc, hv1⟩ := hv1
          rcases hv1 with ⟨rfl, rfl⟩ | ⟨b, o, N, hat, rfl, hfit⟩
          · exact ⟨none, ⟨by simp, rfl, Ad, rfl⟩, fun b hb => (by cases hb), .inl (by rw [hyj, s1, s2])⟩
          · rcases (hi.live id _ hCr).ds hds0 with ⟨g1, _⟩ | ⟨b2, o2, N2, arr, g1, g2, g3, g4, g5, g6⟩
            · rw [g1] at hat; cases hat
            rw [g1] at hat
            injection hat with hat; injection hat with e1 e2; injection e2 with e2 e3
            subst e1; subst e2; subst e3
            rw [hrt] at g3
            refine ⟨some (b2, o2 + off * sz P u, N2), ⟨c, arr, rfl, hc, hl, ?_, by rw [Nat.add_mul] at hfit; omega, g3, g4, fun j d hj => ?_⟩, fun b hb => ?_, .inl (by rw [hyj, s1, s2])⟩
            · rcases hi.own id _ b2 _ _ hCr g1 with h9 | h9
              · exact h9
              · rcases hbs with hbs | hbs
                · exact absurd h9 (hbs id (by simp) _ _ _ _ hCr g1)
                · simp [lists] at hbs
            · have hjl := (List.getElem?_eq_some_iff.mp hj).1
              rw [hl] at hjl
              have hmem : d ∈ (ds0.drop (off * sz P u)).take (len * sz P u) := List.mem_of_getElem? hj
              rw [List.getElem?_take_of_lt hjl, List.getElem?_drop] at hj
              obtain ⟨x, k1, k2⟩ := g6 _ d hj
              exact ⟨x, by rw [Nat.add_assoc]; exact k1, scalar_any (hsc d hmem) k2⟩
            · simp at hb
              subst hb
              exact ⟨id, by simp, row, _, _, hCr, g1⟩
      obtain ⟨ob, o1, o2, o3⟩ := key
      refine ⟨ob :: bs, by unfold resL; exact ⟨o1, b1⟩, ?_, fun b hb => ?_, o3, b4⟩
      · cases ob with
        | none => simpa [blocks] using b2
        | some x =>
          simp only [blocks, List.filterMap_cons, Option.map_some, List.nodup_cons]
          refine ⟨fun hm => ?_, b2⟩
          obtain ⟨id, q1, row, o, N, q2, q3⟩ := o2 x.1 rfl
          obtain ⟨id', q4, row', o', N', q5, q6⟩ := b3 x.1 hm
          obtain rfl := hi.apart id id' row row' x.1 o N o' N' q2 q5 q3 q6
          exact disj_spec hdis q1 q4
      · cases ob with
        | none =>
          obtain ⟨id, q1, q2⟩ := b3 b (by simpa [blocks] using hb)
          exact ⟨id, List.mem_append_right _ q1, q2⟩
        | some x =>
          simp only [blocks, List.filterMap_cons, Option.map_some, List.mem_cons] at hb
          rcases hb with rfl | hb
          · obtain ⟨id, q1, q2⟩ := o2 x.1 rfl
            exact ⟨id, List.mem_append_left _ q1, q2⟩
          · obtain ⟨id, q1, q2⟩ := b3 b hb
            exact ⟨id, List.mem_append_right _ q1, q2⟩
theorem cs_big {H : List (Option Row)} (hb : H.length ≤ big) : ∀ id row, cs H id = some row → cs H id = some row ∧ id < big := fun id row h => ⟨h, by
  unfold cs at h
  cases hx : H[id]? with
  | none => rw [hx] at h; cases h
  | some r => have := (List.getElem?_eq_some_iff.mp hx).1; omega⟩
theorem resV_sound {σ : St} (hb : σ.H.length ≤ big) (hr : Rel P w0 κ σ a w) {r : ResultVar} {ns : List Prop} {x : V1} (h : resV P σ r = some (ns, x)) (hn : all_ ns) : ∃ v, (Typ.resF a.tmps r).run P w = .ok v w ∧ gV1 P κ x v := by
  have hc : ∀ t, gAV P κ (σ.tmps.getD t anyV) (a.tmps.getD t undef) := fun t => by
    rw [List.getD_eq_getElem?_getD]
    cases hl : σ.tmps[t]? with
    | none => trivial
    | some av =>
      obtain ⟨v, h1, h2⟩ := hr.t.vals t av hl
      rw [Array.getD_eq_getD_getElem?, h1]
      exact h2
  cases r with
  | tmp t =>
    unfold resV at h
    simp only at h
    split at h <;> try (cases h; done)
    rename_i y hy
    injection h with h; injection h with e1 e2
    subst e2
    have := unl_sound (hc t)
    rw [hy] at this
    exact ⟨_, rfl, this⟩
  | cell b t =>
    unfold resV at h
    simp only at h
    split at h <;> try (cases h; done)
    rename_i ns' y hy
    injection h with h; injection h with e1 e2
    subst e1; subst e2
    obtain ⟨ad, v, h1, h2, h3, _⟩ := s_load0 (ρ := fun _ => a.tmps.getD b undef) (e := fun _ => σ.tmps.getD b anyV) (show Inv P w0 κ (expand (cs σ.H)) w from hr.inv) (fun _ => hc b) (nd_expand (cs_big hb)) hy hn
    refine ⟨v, ?_, h3⟩
    show (do loadVar t (← asAddr (a.tmps.getD b undef)) : Sem Value).run P w = _
    rw [h1]
    simp [asAddr, h2]
theorem resVs_sound {σ : St} (hb : σ.H.length ≤ big) (hr : Rel P w0 κ σ a w) : ∀ {rs : List ResultVar} {ns : List Prop} {xs : List V1}, resVs P σ rs = some (ns, xs) → all_ ns →
    ∃ vs : List Value, (rs.mapM (Typ.resF a.tmps)).run P w = .ok vs w ∧ gV1s P κ xs vs
  | [], ns, xs, h, _ => by injection h with h; injection h with e1 e2; subst e2; exact ⟨[], rfl, trivial⟩
  | r :: rs, ns, xs, h, hn => by
    unfold resVs at h
    split at h <;> try (cases h; done)
    rename_i n1 x n2 l hx hl
    injection h with h; injection h with e1 e2
    subst e1; subst e2
    obtain ⟨hn1, hn2⟩ := all_append hn
    obtain ⟨v, h1, h2⟩ := resV_sound hb hr hx hn1
    obtain ⟨vs, h3, h4⟩ := resVs_sound hb hr hl hn2
    refine ⟨v :: vs, ?_, h2, h4⟩
    rw [List.mapM_cons, Sem.run_bind, h1]
    simp only [Result.andThen_ok, Sem.run_bind, h3, Sem.run_pure]
/-- What is known of the lists that came in, at the end. -/
theorem wrZ_at {g : Cs} : ∀ {i : Nat} {ks : List Kd} {ns : List Prop} {zs : List D}, wrZ P g i ks = some (ns, zs) → all_ ns → zs.length = lists ks ∧ ∀ (j t : Nat), (ltypes ks)[j]? = some t →
    ∃ row l, g (i + j) = some row ∧ row.t = t ∧ rowD row = some l ∧ zs[j]? = some (.list t (l.length / sz P t) l) ∧ l.length = l.length / sz P t * sz P t ∧ ∀ d ∈ l, d.scalar = true
  | i, [], ns, zs, h, hn => by
    unfold wrZ at h
    injection h with h; injection h with e1 e2
    subst e2
    exact ⟨rfl, fun j t hj => by simp [ltypes] at hj⟩
  | i, .list t :: ks, ns, zs, h, hn => by
    unfold wrZ at h
    split at h <;> try (cases h; done)
    rename_i row ns' zs' hrow hrec
    split at h <;> try (cases h; done)
    rename_i l hl
    split at h <;> try (cases h; done)
    rename_i hrt
    injection h with h; injection h with e1 e2
    subst e1; subst e2
    obtain ⟨⟨h1, h2⟩, hn2⟩ := hn
    obtain ⟨g1, g2⟩ := wrZ_at hrec hn2
    refine ⟨by simp [lists, g1], fun j u hj => ?_⟩
    cases j with
    | zero =>
      simp [ltypes] at hj
      subst hj
      exact ⟨row, l, hrow, hrt, hl, rfl, h1, h2⟩
    | succ j =>
      obtain ⟨row', l', k1, k2⟩ := g2 j u (by simpa [ltypes] using hj)
      exact ⟨row', l', by rw [show i + (j + 1) = i + 1 + j by omega]; exact k1, by simpa using k2⟩
  | i, .int k :: ks, ns, zs, h, hn => wrZ_at (ks := ks) (i := i) h hn
  | i, .bool :: ks, ns, zs, h, hn => wrZ_at (ks := ks) (i := i) h hn
  | i, .str :: ks, ns, zs, h, hn => wrZ_at (ks := ks) (i := i) h hn
theorem needs_fits : ∀ {ks : List Kd} {xs : List D} (pre : List D), fits xs ks = true → all_ (needs (pre ++ xs) pre.length ks)
  | [], [], pre, _ => trivial
  | k :: ks, d :: ds, pre, h => by
    unfold fits at h
    rw [Bool.and_eq_true] at h
    have := needs_fits (pre ++ [d]) h.2
    rw [List.append_assoc, List.length_append] at this
    exact ⟨(fitK_sel (ds := pre ++ d :: ds) (j := pre.length) (by simp) h.1).1, this⟩
  | [], _ :: _, pre, h => by simp [fits] at h
  | _ :: _, [], pre, h => by simp [fits] at h
theorem retD_sound {g : Cs} {base : Nat} (hi : InvE P w0 κ C w) (hf : FreeN w0 κ C) (hg : ∀ id row, g id = some row → C id = some row ∧ id < big) (hbase : ∀ k row b o N, expand C k = some row → κ.at_ k = some (b, o, N) → base ≤ b) {t n : Nat} {a : A} {ns : List Prop} {ds : List D} (h : retD P g t a = some (ns, n, ds)) (hn : all_ ns) {v : Value} (hv : gA P κ a v) :
    ∃ ob inner, deepOk P base w t n ds v ob inner := by
  have plain : ∀ {u id off len : Nat} {row : Row} {ds0 : List D}, g id = some row → isDeep (some row) = false → rowD row = some ds0 → row.t = u → (off + len) * sz P u ≤ ds0.length → noOwn ((ds0.drop (off * sz P u)).take (len * sz P u)) → gA P κ (.sl u id off len) v → ∃ ob inner, deepOk P base w u len ((ds0.drop (off * sz P u)).take (len * sz P u)) v ob inner := by
    intro u id off len row ds0 hrow hnd hds hrt hle hno hv
    obtain ⟨hC, hb⟩ := hg _ _ hrow
    have hE : expand C id = some row := by rw [expand_ord hb, hC]; exact outR_plain hnd
    obtain ⟨Ad, c, rfl, hc, hv⟩ := hv
    rw [Nat.add_mul] at hle
    have hl : ((ds0.drop (off * sz P u)).take (len * sz P u)).length = len * sz P u := by simp; omega
    rcases hv with ⟨rfl, rfl⟩ | ⟨b, o, N, hat, rfl, hfit⟩
    · exact ⟨none, fun _ => none, by simp, rfl, ⟨Ad, rfl⟩, fun _ => rfl⟩
    · rcases (Inv.live hi id row hE).ds hds with ⟨g1, _⟩ | ⟨b2, o2, N2, arr, g1, g2, g3, g4, g5, g6⟩
      · rw [g1] at hat; cases hat
      rw [g1] at hat
      injection hat with hat; injection hat with e1 e2; injection e2 with e2 e3
      subst e1; subst e2; subst e3
      rw [hrt] at g3
      rw [Nat.add_mul] at hfit
      refine ⟨some (b2, o2 + off * sz P u, N2), fun _ => none, ⟨c, arr, rfl, hc, hl, hbase _ _ _ _ _ hE g1, by omega, g3, g4, fun j d hj => ?_⟩, fun _ _ => rfl, fun _ _ _ _ h => (by cases h), fun _ _ _ _ _ _ _ h => (by cases h)⟩
      have hjl := (List.getElem?_eq_some_iff.mp hj).1
      rw [hl] at hjl
      have hmem := List.mem_of_getElem? hj
      rw [List.getElem?_take_of_lt hjl, List.getElem?_drop] at hj
      obtain ⟨x, k1, k2⟩ := g6 _ d hj
      refine ⟨x, by rw [Nat.add_assoc]; exact k1, fun ho => ?_, fun ho => ⟨not_own_any ho k2, rfl⟩⟩
      rw [hno d hmem] at ho; cases ho
  unfold retD at h
  split at h <;> try (cases h; done)
  · injection h with h; injection h with e1 e2; injection e2 with e2 e3
    subst e1; subst e2; subst e3
    exact ⟨none, fun _ => none, rfl, rfl, ⟨none, hv⟩, fun _ => rfl⟩
  · rename_i u id off len
    split at h <;> try (cases h; done)
    rename_i hu
    subst hu
    split at h <;> try (cases h; done)
    · rename_i v' ds0 hrow
      split at h <;> try (cases h; done)
      rename_i hvt
      subst hvt
      injection h with h; injection h with e1 e2; injection e2 with e2 e3
      subst e1; subst e2; subst e3
      obtain ⟨hC, hb⟩ := hg _ _ hrow
      rcases deep_isO hi hf hC hb hn.1 hn.2.1 hbase hv with ⟨_, h2⟩ | ⟨b, o, N, inner, _, _, h3⟩
      · exact ⟨none, _, h2⟩
      · exact ⟨_, inner, h3⟩
    · rename_i v' ds0 hrow
      split at h <;> try (cases h; done)
      rename_i hvt
      injection h with h; injection h with e1 e2; injection e2 with e2 e3
      subst e1; subst e2; subst e3
      exact plain hrow rfl rfl hvt hn.1 hn.2.1 hv
    · rename_i v' cs0 hrow
      split at h <;> try (cases h; done)
      rename_i ds0 hds
      split at h <;> try (cases h; done)
      rename_i hvt
      injection h with h; injection h with e1 e2; injection e2 with e2 e3
      subst e1; subst e2; subst e3
      exact plain hrow rfl hds hvt hn.1 hn.2.1 hv
/-- What a function yields, in each way of treating lists. -/
def RetQ (P : Program) (md : Md) (pts : List Nat) (κ : Kr) (C : Cs) (w0 : Bs) (w : World) (rts : List Nat) (Q : List D → Prop) (v : Value) : Prop :=
  match md with
  | .wr => ∃ ys zs rk pk, ksAll P rts = some rk ∧ ksAll P pts = some pk ∧ Q (ys ++ zs) ∧ lists rk = 0 ∧ ys.length = rk.length ∧ ResOk P w0.w w rts ys v ∧ zs.length = lists pk ∧ ∀ (j t : Nat), (ltypes pk)[j]? = some t →
      ∃ row l, C j = some row ∧ row.t = t ∧ rowD row = some l ∧ zs[j]? = some (.list t (l.length / sz P t) l) ∧ l.length = l.length / sz P t * sz P t ∧ ∀ d ∈ l, d.scalar = true
  | .wrD => ∃ ys zs rk pk t, ksAll P rts = some rk ∧ ksAll P pts = some (.list t :: pk) ∧ Q (ys ++ [.list t (zs.length / sz P t) zs]) ∧ lists rk = 0 ∧ ys.length = rk.length ∧ ResOk P w0.w w rts ys v ∧ C 0 = some (.deep t zs) ∧ zs.length = zs.length / sz P t * sz P t ∧ flatDs P zs
  | md => w0.bs = [] → ∃ ys, Q ys ∧ ResB P md w0.zz w0.w w rts ys v
/-- The end of a function. -/
theorem ret_sound {md : Md} {fn : Func} {pts rts : List Nat} {σ : St} (h : (retT P md pts rts fn.results.toList σ).holds F J Q) (hr : Rel P w0 κ σ a w) :
    a.defers = [] ∧ ∃ v, (results fn a.tmps).run P w = .ok v w ∧ RetQ P md pts κ (cs σ.H) w0 w rts Q v := by
  refine ⟨hr.t.defers, ?_⟩
  unfold retT at h
  split at h <;> try (exact h.elim)
  rename_i hbig
  have hgn := nd_expand (cs_big hbig)
  have hinv : Inv P w0 κ (expand (cs σ.H)) w := hr.inv
  split at h <;> try (exact h.elim)
  rename_i n1 xs rk pk hxs hrk hpk
  split at h <;> try (exact h.elim)
  rename_i as has
  split at h <;> try (exact h.elim)
  rename_i n2 ds ids hret
  obtain ⟨hn, hQ⟩ := Tree.holds_needs h
  obtain ⟨hn1, hn2⟩ := all_append hn
  obtain ⟨vs, h1, h2⟩ := resVs_sound hbig hr hxs hn1
  obtain ⟨cells, c1, c2⟩ := argCells_sound (P := P) (κ := κ) (vs := vs) has (by simp [h2.len]) (fun i av hi => by
    rw [List.getElem?_map] at hi
    obtain ⟨x, hx, rfl⟩ := Option.map_eq_some_iff.mp hi
    exact h2.at hx)
  have hrun : (results fn a.tmps).run P w = .ok (wrapVal vs) w := by
    have e1 : (results fn a.tmps).run P w = ((Sem.run P (fn.results.toList.mapM (Typ.resF a.tmps)) w).andThen fun x w' => Result.ok x.toArray w').andThen fun x w' => Result.ok (if h : x.size = 1 then x[0] else .tuple x) w' := by
      unfold results
      rw [Array.mapM_eq_mapM_toList]
      simp only [Sem.run_bind, Sem.run_map, Sem.run_pure]
      rfl
    rw [e1, h1]
    match vs with
    | [] => rfl
    | [v] => rfl
    | v :: u :: l => rfl
  refine ⟨wrapVal vs, hrun, ?_⟩
  unfold RetQ
  cases md with
  | rd z => unfold retB at hret; cases hret
  | op => unfold retB at hret; cases hret
  | ownD =>
    intro hbs
    unfold retB at hret
    simp only at hret
    split at hret <;> try (cases hret; done)
    rename_i t rk' a0 as'
    split at hret <;> try (cases hret; done)
    rename_i m1 n0 ds0 xs0 hrd hsc
    injection hret with hret; injection hret with e1 e2; injection e2 with e2 e3
    subst e1; subst e2; subst e3
    cases cells with
    | nil => exact c2.elim
    | cons v0 cs0 =>
    obtain ⟨c2, c3⟩ := c2
    obtain ⟨s1, s2, s3, s4⟩ := scalArgs_sound hsc [.list t n0 ds0] c3
    have hbase : ∀ k row b o N, expand (cs σ.H) k = some row → κ.at_ k = some (b, o, N) → w0.heap.size ≤ b := fun k row b o N hk ha => by
      rcases hinv.own k row b o N hk ha with h9 | h9
      · exact h9
      · rw [hbs] at h9; simp [blocks] at h9
    obtain ⟨ob, inner, hd⟩ := retD_sound hr.inv hr.free (cs_big hbig) hbase hrd hn2 c2
    have hfit : fits (.list t n0 ds0 :: xs0) (.list t :: rk') = true := by simp [fits, fitK, s2]
    exact ⟨_, hQ, t, rk', v0, cs0, vs, ob, inner, hrk, s1, ⟨.inl rfl, needs_fits [.list t n0 ds0] s2⟩, c1, hd, by simpa using s4, rfl⟩
  | wrD =>
    unfold retB at hret
    simp only at hret
    split at hret <;> try (cases hret; done)
    rename_i t pk' m1 ds1 ids1 v2 zs hre hg0
    split at hret <;> try (cases hret; done)
    rename_i hc
    obtain ⟨hc1, hc2, rfl⟩ := hc
    injection hret with hret; injection hret with e1 e2; injection e2 with e2 e3
    subst e1; subst e2; subst e3
    obtain ⟨hm1, hm2, hm3, _⟩ := all_append hn2
    obtain ⟨bs, b1, b2, _, b4⟩ := retL_sound hinv hgn [] (.inr hc1) hre hm1 c2
    exact ⟨ds1, zs, rk, pk', v2, hrk, hpk, hQ, hc1, hc2, ⟨rk, cells, vs, bs, hrk, b4, c1, b2, b1, rfl⟩, hg0, hm2, hm3⟩
  | own =>
    intro hbs
    obtain ⟨bs, b1, b2, _, b4⟩ := retL_sound hinv hgn [] (.inl (fun id _ row b o N _ _ => by rw [hbs]; simp [blocks])) hret hn2 c2
    exact ⟨ds, hQ, rk, cells, vs, bs, hrk, b4, c1, b2, b1, rfl⟩
  | wr =>
    unfold retB at hret
    simp only at hret
    split at hret <;> try (cases hret; done)
    rename_i m1 ds1 ids1 m2 zs hre hz
    split at hret <;> try (cases hret; done)
    rename_i hc
    injection hret with hret; injection hret with e1 e2; injection e2 with e2 e3
    subst e1; subst e2; subst e3
    obtain ⟨hm1, hm2⟩ := all_append hn2
    obtain ⟨bs, b1, b2, _, b4⟩ := retL_sound hinv hgn [] (.inr hc.1) hre hm1 c2
    obtain ⟨z1, z2⟩ := wrZ_at hz hm2
    exact ⟨ds1, zs, rk, pk, hrk, hpk, hQ, hc.1, hc.2, ⟨rk, cells, vs, bs, hrk, b4, c1, b2, b1, rfl⟩, z1, fun j t hj => by
      obtain ⟨row, l, q1, q2⟩ := z2 j t hj
      exact ⟨row, l, by simpa using (nd_some q1).1, q2⟩⟩
  | fz =>
    intro hbs
    unfold retB at hret
    simp only at hret
    split at hret <;> try (cases hret; done)
    rename_i ns0 ds0 kl hfr
    split at hret <;> try (cases hret; done)
    rename_i hfit
    injection hret with hret; injection hret with e1 e2; injection e2 with e2 e3
    subst e1; subst e2; subst e3
    obtain ⟨κ', q1, q2, q3, q4, q5⟩ := frzL_sound hfr hn2 hinv (fun id _ row h => hgn id row h) c2
    obtain ⟨n1', n2'⟩ := nilsTo_sound (ks := rk) q5
    obtain ⟨g1, g2, g3⟩ := fits_sels (P := P) (κ := κ') [] (nilsTo ds0 rk) rk cells hfit (by rw [n1', q4]) n2'
    refine ⟨_, hQ, rk, cells, vs, hrk, g2, c1, ?_, rfl⟩
    obtain ⟨_, _, g3'⟩ := fits_sels (P := P) (κ := ⟨fun _ => none, zNew w0.zz w0.w w⟩) [] (nilsTo ds0 rk) rk cells hfit (by rw [n1', q4]) (fun j d hj => by
      obtain ⟨v, h1, h2⟩ := n2' j d hj
      refine ⟨v, h1, gD.mono (fun b x hx => ?_) h2⟩
      show zNew w0.zz w0.w w b = some x
      unfold zNew
      split
      · rename_i hlt; exact (q3.base b hlt (by rw [hbs]; simp [blocks])).2 x hx
      · exact q3.z b x hx)
    exact g3'
end
end Go.Proofs.Ytjleempapphlhab.Mini
end
