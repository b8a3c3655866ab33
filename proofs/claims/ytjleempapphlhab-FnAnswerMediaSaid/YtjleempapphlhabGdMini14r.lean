/- Parts of the proof: Mini14r. -/
import Derived.Test.YtjleempapphlhabGdMini14
section
namespace Go.Proofs.Ytjleempapphlhab.Mini
open Go Go.RowKit
set_option linter.unusedVariables false
/-- The end of such a function: what lies there then, and its results. -/
def retP (P : Program) (z : Bool) (g : Cs) (rk : List Kd) (as : List A) : Option (List Prop × List D × List Nat) :=
  match z with
  | true => match frzL P g as with
    | some (ns, ds, kl) => if fits (nilsTo ds rk) rk = true then some (ns, nilsTo ds rk, kl) else none
    | none => none
  | false => retL P g rk as
def retR (P : Program) (z : Bool) (pts rts : List Nat) (rvs : List ResultVar) (σ : St) : Tree :=
  if σ.H.length ≤ big then
  match resVs P σ rvs, ksAll P rts, pts with
  | some (n1, xs), some rk, pt :: _ => match argCells P rts (xs.map .v), nd (cs σ.H) 0 with
    | some as, some row => match rowD row, retP P z (nd (cs σ.H)) rk as with
      | some ds', some (n2, ds, ids) => if isPtr P pt = some row.t ∧ ids.contains 0 = false then .needs (n1 ++ n2) (.ret (.list 0 0 ds' :: ds)) else .fail
      | _, _ => .fail
    | _, _ => .fail
  | _, _, _ => .fail
  else .fail
def endR (P : Program) (z : Bool) (pts rts : List Nat) (fn : Func) : Kc := fun e σ => match e with
  | .exit _ => .fail
  | _ => retR P z pts rts fn.results.toList σ
def startR (P : Program) (params : List Nat) (fn : Func) (xs : List D) : Option St :=
  match params, xs with
  | pt :: pts, .list _ _ ds :: rest => match ksAll P pts, isPtr P pt with
    | some ks, some t => match splitV P pts (sels rest 0 ks) with
      | some l => some (start0 fn (.one (.ptr 0 0) :: l) [some (.sym t ds)])
      | none => none
    | _, _ => none
  | _, _ => none
def fnTR (P : Program) (F : Tb) (hs : Hds) (z : Bool) (params results : List Nat) (fn : Func) (body : Code) (xs : List D) : Tree :=
  match startR P params fn xs with
  | some σ => sx P F hs [] body σ (endR P z params results fn)
  | none => .fail
def plTR (P : Program) (F : Tb) (hs : Hds) (z : Bool) (params results : List Nat) (fn : Func) (body : Code) (h : Nat) (ys : List D) : Tree :=
  match hs[h]? with
  | some (p, s) => headT P F hs body (endR P z params results fn) p (s.inst ys)
  | none => .fail
section
variable {P : Program} {w0 : Bs} {κ : Kr} {w : World} {F : Tb} {a : Act} {J : Nat → List D → Prop} {Q : List D → Prop} {hs : Hds} {body : Code}
/-- A function is as its trees say, whatever its end says. -/
theorem fn_coreK {f : Nat} {fn : Func} {Ke : Kc} {E : Ending → World → Prop} (hF : FnsOk P F) (hm : P.follows .mixedOrders = true) (hf : P.funcs[f]? = some fn) (hb : fn.body = some body)
    (hK : ∀ J, KOk P w0 F J Q Ke (bodyPost P fn E)) (hpin : ∀ p h sh, findH hs p = some (h, sh) → PinOk w0 sh) {vs : Array Value} {σ : St} (I : Nat → List D → Prop) (μ : Nat → List D → Nat)
    (hmain : (sx P F hs [] body σ Ke).holds F I Q)
    (hloop : ∀ h ys p sh, hs[h]? = some (p, sh) → I h ys → (headT P F hs body Ke p (sh.inst ys)).holds F (fun h' ys' => I h' ys' ∧ μ h' ys' < μ h ys) Q)
    (hr : Rel P w0 κ σ { tmps := vs ++ Array.replicate (fn.ntmps - vs.size) undef, defers := [] } w0.w) : Calls P f vs w0.w E := by
  refine calls_of_wp hf hb ?_
  generalize hQ0 : bodyPost P fn E = Q0
  have hK' : ∀ J, KOk P w0 F J Q Ke Q0 := fun J => by rw [← hQ0]; exact hK J
  have hall : ∀ n h ys, μ h ys = n → I h ys → ∀ p sh, findH hs p = some (h, sh) → ∀ κ a w', Rel P w0 κ (sh.inst ys) a w' → AtP P body Q0 p a w' := by
    intro n
    induction n using Nat.strongRecOn with
    | _ n ih =>
      intro h ys hn hI p sh hp κ a w' hr
      have := (findH_go hp).2
      rw [Nat.sub_zero] at this
      have ht := hloop h ys p sh this hI
      refine headT_sound hF hm (fun p' h' s' hp' => ⟨hpin p' h' s' hp', fun ys' hJ κ' a' w'' hr' => ?_⟩) (hK' _) ht hr
      exact ih _ (hn ▸ hJ.2) h' ys' rfl hJ.1 p' s' hp' κ' a' w'' hr'
  exact sx_sound (Q0 := Q0) hF hm (J := I) (body := body) (fun p h sh hp => ⟨hpin p h sh hp, fun ys hI => hall _ h ys rfl hI p sh hp⟩) hmain hr rfl (hK' _)
/-- What is known at the end. -/
def EndP (P : Program) (z : Bool) (rts : List Nat) (t : Nat) (w0 : Bs) (g o N : Nat) (Q : List D → Prop) (e : Ending) (w' : World) : Prop :=
  ∃ v κ C ys ds' arr', e = .returned v ∧ Inv P w0 κ C w' ∧ Q (.list 0 0 ds' :: ys) ∧ w'.heap[g]? = some (.cells arr' t (0, 0)) ∧ arr'.size = N ∧ o + ds'.length ≤ N ∧ ResR P z w0.zz w0.w w' rts ys v arr' o ds'
theorem retR_sound {z : Bool} {fn : Func} {pt t : Nat} {pts rts : List Nat} {σ : St} {g o N : Nat} (hbs : w0.bs = [some (g, o, N)]) (hnm : w0.nm 0 = 0) (hpt : isPtr P pt = some t) (h : (retR P z (pt :: pts) rts fn.results.toList σ).holds F J Q) (hr : Rel P w0 κ σ a w) :
    a.defers = [] ∧ ∃ v, (results fn a.tmps).run P w = .ok v w ∧ EndP P z rts t w0 g o N Q (.returned v) w := by
  refine ⟨hr.t.defers, ?_⟩
  unfold retR at h
  split at h <;> try (exact h.elim)
  rename_i hbig
  have hgn := nd_expand (cs_big hbig)
  have hinv : Inv P w0 κ (expand (cs σ.H)) w := hr.inv
  split at h <;> try (exact h.elim)
  rename_i n1 xs rk pt' pts' hxs hrk hpe
  injection hpe with hpe _
  subst hpe
  split at h <;> try (exact h.elim)
  rename_i as row has hrow
  split at h <;> try (exact h.elim)
  rename_i ds' n2 ds ids hds' hret
  split at h <;> try (exact h.elim)
  rename_i hc
  obtain ⟨hct, hc0⟩ := hc
  rw [hpt] at hct
  injection hct with hct
  obtain ⟨hn, hQ⟩ := Tree.holds_needs h
  obtain ⟨hn1, hn2⟩ := all_append hn
  obtain ⟨vs, h1, h2⟩ := resVs_sound hbig hr hxs hn1
  obtain ⟨cells, c1, c2⟩ := argCells_sound (P := P) (κ := κ) (vs := vs) has (by simp [h2.len]) (fun i av hi => by
    rw [List.getElem?_map] at hi
    obtain ⟨x, hx, rfl⟩ := Option.map_eq_some_iff.mp hi
    exact h2.at hx)
  have hrun : (results fn a.tmps).run P w = .ok (wrapVal vs) w := by
    have e1 : (results fn a.tmps).run P w = ((Sem.run P (fn.results.toList.mapM (Typ.resF a.tmps)) w).andThen fun x w' => Result.ok x.toArray w').andThen fun x w' => Result.ok (if h : x.size = 1 then x[0] else .tuple x) w' := by
      unfold results
      rw [Array.mapM_eq_mapM_toList]
      simp only [Sem.run_bind, Sem.run_map, Sem.run_pure]
      rfl
    rw [e1, h1]
    match vs with
    | [] => rfl
    | [v] => rfl
    | v :: u :: l => rfl
  refine ⟨wrapVal vs, hrun, ?_⟩
  have hat0 : κ.at_ 0 = some (g, o, N) := by
    have := hr.pin 0 g o N (by rw [hbs]; rfl)
    rwa [hnm] at this
  have hne : ∀ id ∈ ids, id ≠ 0 := fun id hid e => by subst e; simp at hc0; exact hc0 hid
  have hbg : ∀ b, b ∈ blocks w0.bs → b = g := fun b hb => by rw [hbs] at hb; simpa [blocks] using hb
  -- what lies there, in a later view
  have row0 : ∀ (κ' : Kr) (C' : Cs), Inv P w0 κ' C' w → κ'.at_ = κ.at_ → C' 0 = some row → ∃ arr', w.heap[g]? = some (.cells arr' t (0, 0)) ∧ arr'.size = N ∧ o + ds'.length ≤ N ∧ κ'.z g = none ∧ seenAt P κ'.z arr' o ds' := by
    intro κ' C' hi' hat hC'
    rcases (hi'.live 0 row hC').ds hds' with ⟨g1, _⟩ | ⟨b2, o2, N2, arr, g1, g2, g3, g4, g5, g6⟩
    · rw [hat, hat0] at g1; cases g1
    · rw [hat, hat0] at g1
      injection g1 with g1; injection g1 with q1 q2; injection q2 with q2 q3
      subst q1; subst q2; subst q3
      exact ⟨arr, by rw [hct]; exact g3, g4, g5, g2, g6⟩
  cases z with
  | false =>
    have hret' : retL P (nd (cs σ.H)) rk as = some (n2, ds, ids) := hret
    have hfr : ∀ id ∈ ids, ∀ row b o N, expand (cs σ.H) id = some row → κ.at_ id = some (b, o, N) → b ∉ blocks w0.bs := fun id hid row' b o' N' hC' hat hb => by
      have hb' := hbg b hb
      subst hb'
      exact hne id hid (hinv.apart id 0 row' row b o' N' o N hC' (hgn _ _ hrow) hat hat0)
    obtain ⟨bs, b1, b2, b3, b4⟩ := retL_sound hinv hgn [] (.inl hfr) hret' hn2 c2
    obtain ⟨arr', r1, r2, r3, r4, r5⟩ := row0 κ (expand (cs σ.H)) hinv rfl (hgn _ _ hrow)
    refine ⟨_, κ, expand (cs σ.H), ds, ds', arr', rfl, hinv, hQ, r1, r2, r3, rk, cells, vs, bs, hrk, b4, c1, b2, b1, rfl, fun j d hj => ?_⟩
    obtain ⟨x, k1, k2⟩ := r5 j d hj
    refine ⟨x, k1, gD.mono (fun b y hy => ?_) k2⟩
    show zBut w0.zz w0.w w (blocks bs) b = some y
    unfold zBut
    split
    · rename_i hlt
      refine (hinv.base b hlt (fun hb => ?_)).2 y hy
      rw [hbg b hb, r4] at hy; cases hy
    · split
      · rename_i hb
        obtain ⟨id, _, row', o', N', q1, q2⟩ := b3 b hb
        rcases hinv.live id row' q1 with ⟨q3, _⟩ | ⟨b', o2, N2, arr2, q3, q4, _⟩
        · rw [q3] at q2; cases q2
        · rw [q3] at q2
          injection q2 with q2; injection q2 with q2 _
          subst q2
          rw [q4] at hy; cases hy
      · exact hinv.z b y hy
  | true =>
    have hret' : (match frzL P (nd (cs σ.H)) as with
      | some (ns, ds, kl) => if fits (nilsTo ds rk) rk = true then some (ns, nilsTo ds rk, kl) else none
      | none => none) = some (n2, ds, ids) := hret
    split at hret' <;> try (cases hret'; done)
    rename_i ns0 ds0 kl hfr
    split at hret' <;> try (cases hret'; done)
    rename_i hfit
    injection hret' with hret'; injection hret' with e1 e2; injection e2 with e2 e3
    subst e1; subst e2; subst e3
    obtain ⟨κ', q1, q2, q3, q4, q5⟩ := frzL_sound hfr hn2 hinv (fun id _ row h => hgn id row h) c2
    obtain ⟨n1', n2'⟩ := nilsTo_sound (ks := rk) q5
    have hrow' : upd (expand (cs σ.H)) (kill kl) 0 = some row := by
      rw [upd_kill, if_neg (by rw [hc0]; simp)]; exact hgn _ _ hrow
    obtain ⟨arr', r1, r2, r3, r4, r5⟩ := row0 κ' _ q3 q2 hrow'
    have hzz : ∀ b x, κ'.z b = some x → zNew w0.zz w0.w w b = some x := fun b x hx => by
      unfold zNew
      split
      · rename_i hlt
        refine (q3.base b hlt (fun hb => ?_)).2 x hx
        rw [hbg b hb, r4] at hx; cases hx
      · exact q3.z b x hx
    obtain ⟨g1, g2, g3⟩ := fits_sels (P := P) (κ := ⟨fun _ => none, zNew w0.zz w0.w w⟩) [] (nilsTo ds0 rk) rk cells hfit (by rw [n1', q4]) (fun j d hj => by
      obtain ⟨v, h1, h2⟩ := n2' j d hj
      exact ⟨v, h1, gD.mono hzz h2⟩)
    exact ⟨_, κ', _, _, ds', arr', rfl, q3, hQ, r1, r2, r3, ⟨rk, cells, vs, hrk, g2, c1, g3, rfl⟩, fun j d hj => by
      obtain ⟨x, k1, k2⟩ := r5 j d hj
      exact ⟨x, k1, gD.mono hzz k2⟩⟩
/-- A function that writes into what its first argument points to. -/
theorem fn_okR {f : Nat} {fn : Func} {s : Sig} {z : Bool} (hF : FnsOk P F) (hm : P.follows .mixedOrders = true) (hf : P.funcs[f]? = some fn) (hn : (fn.name == "runtime.NumGoroutine") = false) (hb : fn.body = some body) (hmd : s.md = .rd z)
    (I : List D → Nat → List D → Prop) (μ : List D → Nat → List D → Nat) {pt : Nat} {pts : List Nat} (hps : s.params = pt :: pts) {ks : List Kd} (hks : ksAll P pts = some ks) (hpin : ∀ p h sh, findH hs p = some (h, sh) → 1 ≤ sh.pin)
    (hmain : ∀ ds xs, fits xs ks = true → s.pre (.list 0 0 ds :: xs) → (fnTR P F hs z s.params s.results fn body (.list 0 0 ds :: xs)).holds F (I (.list 0 0 ds :: xs)) (s.post (.list 0 0 ds :: xs)))
    (hloop : ∀ ds xs, fits xs ks = true → s.pre (.list 0 0 ds :: xs) → ∀ h ys, I (.list 0 0 ds :: xs) h ys → (plTR P F hs z s.params s.results fn body h ys).holds F (fun h' ys' => I (.list 0 0 ds :: xs) h' ys' ∧ μ (.list 0 0 ds :: xs) h' ys' < μ (.list 0 0 ds :: xs) h ys) (s.post (.list 0 0 ds :: xs))) :
    FnOk P f s := by
  refine ⟨⟨fn, hf, hn, by rw [hb]; rfl⟩, ?_⟩
  rw [hmd]
  intro w zz vs pt' t pts' xs ks' cells g o arr ds hzz hzg hhg hlen hseen hps' hpt hks' hsp hfit hg hpre
  rw [hps] at hps'
  injection hps' with e1 e2
  subst e1; subst e2
  rw [hks] at hks'
  injection hks' with hks'
  subst hks'
  have ht := hmain ds xs hfit hpre
  unfold fnTR at ht
  split at ht <;> try (exact ht.elim)
  rename_i σ hσ
  unfold startR at hσ
  rw [hps] at hσ
  simp only [hks, hpt] at hσ
  split at hσ <;> try (cases hσ; done)
  rename_i l hl
  injection hσ with hσ
  have hgv := splitV_sound hl hsp hg
  let κ0 : Kr := ⟨fun id => if id = 0 then some (g, o, arr.size) else none, zz⟩
  have hgv' : gV1s P κ0 (.one (.ptr 0 0) :: l) (.pointer (some ⟨g, o, none⟩) :: vs) := by
    refine ⟨⟨g, o, arr.size, rfl, rfl⟩, ?_⟩
    have hle : Kr.le ⟨fun _ => none, zz⟩ κ0 := ⟨fun _ _ h => (by cases h), fun _ _ h => h⟩
    exact hgv.mono hle
  have hcs : ∀ id row, cs [some (Row.sym t ds)] id = some row → id = 0 ∧ row = .sym t ds := fun id row h => by
    cases id with
    | zero => simp [cs] at h; exact ⟨rfl, h.symm⟩
    | succ n => simp [cs] at h
  refine (fn_coreK (w0 := ⟨w, zz, [some (g, o, arr.size)], fun i => i, fun _ => False⟩) (κ := κ0) (vs := (Value.pointer (some ⟨g, o, none⟩) :: vs).toArray) (E := EndP P z s.results t ⟨w, zz, [some (g, o, arr.size)], fun i => i, fun _ => False⟩ g o arr.size (s.post (.list 0 0 ds :: xs))) hF hm hf hb (fun J => ?_) (fun p h sh hp => PinOk.plain (hpin p h sh hp)) (I (.list 0 0 ds :: xs)) (μ (.list 0 0 ds :: xs)) ht (fun h ys p sh hp hI => ?_) ?_).mono ?_
  · intro e σ' κ' a' w' ht' hr'
    have key : (retR P z s.params s.results fn.results.toList σ').holds F J (s.post (.list 0 0 ds :: xs)) → a'.defers = [] ∧ ∃ v, (results fn a'.tmps).run P w' = .ok v w' ∧ EndP P z s.results t ⟨w, zz, [some (g, o, arr.size)], fun i => i, fun _ => False⟩ g o arr.size (s.post (.list 0 0 ds :: xs)) (.returned v) w' := fun h => by
      rw [hps] at h
      exact retR_sound rfl rfl hpt h hr'
    cases e with
    | norm => exact key ht'
    | ret => exact key ht'
    | exit id => exact ht'.elim
  · have := hloop ds xs hfit hpre h ys hI
    unfold plTR at this
    rw [hp] at this
    exact this
  · subst hσ
    have hE : ∀ id row, expand (cs [some (Row.sym t ds)]) id = some row → cs [some (Row.sym t ds)] id = some row := fun id row h => by
      by_cases hb : id < big
      · rw [expand_ord hb] at h
        cases hc : cs [some (Row.sym t ds)] id with
        | none => rw [hc] at h; cases h
        | some r => rw [hc] at h; obtain ⟨_, rfl⟩ := hcs id r hc; exact h
      · obtain ⟨f1, f2⟩ := inn_of hb
        rw [f1, expand_inn f2] at h
        cases hc : cs [some (Row.sym t ds)] (innA id) with
        | none => rw [hc] at h; cases h
        | some r => rw [hc] at h; obtain ⟨_, rfl⟩ := hcs _ r hc; cases h
    have hI : Inv P ⟨w, zz, [some (g, o, arr.size)], fun i => i, fun _ => False⟩ κ0 (cs [some (Row.sym t ds)]) w := ?_
    · exact ⟨start_rel (by simpa using hgv'), hI.less hE, fun id hid _ => by
        have : 1 ≤ id := hid
        show (if id = 0 then _ else none) = none
        rw [if_neg (by omega)], fun i b o' N h => by
        cases i with
        | zero => simp at h; obtain ⟨rfl, rfl, rfl⟩ := h; rfl
        | succ n => simp at h, fun k hk _ => by
        refine .inl ?_; show (if k = 0 then _ else none) = none
        rw [if_neg (fun e => hk (by rw [e]; decide))], fun k _ h => h.elim⟩
    refine ⟨rfl, rfl, rfl, Nat.le_refl _, fun b _ _ => ⟨rfl, fun x h => h⟩, hzz, fun id row h => ?_, fun id id' row row' b o N o' N' h h' _ _ => ?_, fun id row b o' N h ha => ?_⟩
    · obtain ⟨rfl, rfl⟩ := hcs id row h
      refine .inr ⟨g, o, arr.size, arr, rfl, hzg, hhg, rfl, by show o + (ds.map A.d).length ≤ _; simpa using hlen, fun j a hj => ?_⟩
      simp only [Row.as, List.getElem?_map] at hj
      obtain ⟨d, hd, rfl⟩ := Option.map_eq_some_iff.mp hj
      exact hseen j d hd
    · rw [(hcs id row h).1, (hcs id' row' h').1]
    · obtain ⟨rfl, rfl⟩ := hcs id row h
      have ha' : some (g, o, arr.size) = some (b, o', N) := ha
      injection ha' with ha'; injection ha' with ha' _
      subst ha'
      exact .inr (by simp [blocks])
  · rintro e w' ⟨v, κ2, C2, ys, ds', arr', rfl, hi, hq, h1, h2, h3, h4⟩
    exact ⟨v, ys, ds', arr', rfl, hq, ⟨hi.os, hi.tape, hi.output, hi.size, fun b hb hn => (hi.base b hb (by simpa [blocks] using hn)).1⟩, h1, h2, by rw [h2]; exact h3, h4⟩
end
end Go.Proofs.Ytjleempapphlhab.Mini
end
