/- Parts of the proof: Mini6d. -/
import Derived.Test.YtjleempapphlhabGeMini6
section
namespace Go.Proofs.Ytjleempapphlhab.Mini
open Go Go.RowKit
set_option linter.unusedVariables false
/-- A list that is its row's own. -/
def ownL : D → Bool
  | .list 0 0 [] => false
  | .list _ _ _ => true
  | _ => false
noncomputable def deepC (id j : Nat) (d : D) : A := match d with
  | .list u n l => if ownL (.list u n l) = true then .sl u (inn id j) 0 n else .d (.list u n l)
  | d => .d d
noncomputable def deepA (id : Nat) : Nat → List D → List A
  | _, [] => []
  | j, d :: ds => deepC id j d :: deepA id (j + 1) ds
def innR (r : Option Row) (p : Nat) : Option Row := match r with
  | some (.deep _ ds) => match ds[p]? with
    | some (.list u n l) => if ownL (.list u n l) = true then some (.sym u l) else none
    | _ => none
  | _ => none
noncomputable def outR (id : Nat) : Option Row → Option Row
  | some (.deep t ds) => some (.fix t (deepA id 0 ds))
  | r => r
/-- All rows: also those within the cells of others. -/
noncomputable def expand (C : Cs) : Cs := fun id => if id < big then outR id (C id) else innR (C (innA id)) (innB id)
def isDeep : Option Row → Bool
  | some (.deep _ _) => true
  | _ => false
/-- The plain ones. -/
def nd (g : Cs) : Cs := fun id => match g id with
  | some (.deep _ _) => none
  | r => r
def InvE (P : Program) (w0 : Bs) (κ : Kr) (C : Cs) (w : World) : Prop := Inv P w0 κ (expand C) w
theorem inn_parts {id p : Nat} (h : id < big) : innA (inn id p) = id ∧ innB (inn id p) = p ∧ ¬ inn id p < big := ⟨(inn_spec.1 id p h).1, (inn_spec.1 id p h).2, inn_spec.2.1 id p⟩
theorem inn_of {k : Nat} (h : ¬ k < big) : k = inn (innA k) (innB k) ∧ innA k < big := inn_spec.2.2 k h
theorem inn_inj {id p id' p' : Nat} (h : id < big) (h' : id' < big) (e : inn id p = inn id' p') : id = id' ∧ p = p' := by
  obtain ⟨a1, a2, _⟩ := inn_parts (p := p) h
  obtain ⟨b1, b2, _⟩ := inn_parts (p := p') h'
  rw [e] at a1 a2
  exact ⟨a1.symm.trans b1, a2.symm.trans b2⟩
theorem inn_big {id p : Nat} : ¬ inn id p < big := inn_spec.2.1 id p
theorem expand_ord {C : Cs} {id : Nat} (h : id < big) : expand C id = outR id (C id) := by unfold expand; rw [if_pos h]
theorem expand_inn {C : Cs} {id p : Nat} (h : id < big) : expand C (inn id p) = innR (C id) p := by
  obtain ⟨a1, a2, a3⟩ := inn_parts (p := p) h
  unfold expand
  rw [if_neg a3, a1, a2]
theorem outR_plain {id : Nat} {r : Option Row} (h : isDeep r = false) : outR id r = r := by
  cases r with
  | none => rfl
  | some row => cases row <;> first | rfl | cases h
theorem innR_plain {p : Nat} {r : Option Row} (h : isDeep r = false) : innR r p = none := by
  cases r with
  | none => rfl
  | some row => cases row <;> first | rfl | cases h
theorem nd_some {g : Cs} {id : Nat} {row : Row} (h : nd g id = some row) : g id = some row ∧ isDeep (g id) = false := by
  unfold nd at h
  split at h
  · cases h
  · rename_i hn
    refine ⟨h, ?_⟩
    cases hg : g id with
    | none => rfl
    | some r =>
      cases r with
      | deep t ds => exact absurd hg (hn t ds)
      | _ => rfl
theorem nd_expand {g C : Cs} (hg : ∀ id row, g id = some row → C id = some row ∧ id < big) : ∀ id row, nd g id = some row → expand C id = some row := by
  intro id row h
  obtain ⟨h1, h2⟩ := nd_some h
  obtain ⟨h3, h4⟩ := hg id row h1
  rw [expand_ord h4, h3]
  rw [h1] at h2
  exact outR_plain h2
def plainO (r : Option Row) : Bool := !isDeep r
/-- Plain rows change. -/
theorem expand_upd : ∀ {us : Us} {C C' : Cs}, (∀ id row, expand C id = some row → C' id = some row) → (∀ p ∈ us, p.1 < big ∧ plainO p.2 = true) → ∀ id row, expand (upd C us) id = some row → upd C' us id = some row
  | [], C, C', h, _, id, row, hr => h id row hr
  | p :: us, C, C', h, hp, id, row, hr => by
    obtain ⟨p1, p2⟩ := hp p (by simp)
    have p2 : isDeep p.2 = false := by simpa [plainO] using p2
    refine expand_upd (us := us) (C := fun id => if id = p.1 then p.2 else C id) (C' := fun id => if id = p.1 then p.2 else C' id) (fun k r hk => ?_) (fun q hq => hp q (by simp [hq])) id row hr
    by_cases hb : k < big
    · rw [expand_ord hb] at hk
      have hk : outR k (if k = p.1 then p.2 else C k) = some r := hk
      show (if k = p.1 then p.2 else C' k) = some r
      split at hk
      · rename_i e
        rw [if_pos e]
        rw [outR_plain p2] at hk; exact hk
      · rename_i e
        rw [if_neg e]
        exact h k r (by rw [expand_ord hb]; exact hk)
    · obtain ⟨e1, e2⟩ := inn_of hb
      rw [e1, expand_inn e2] at hk
      have hk : innR (if innA k = p.1 then p.2 else C (innA k)) (innB k) = some r := hk
      show (if k = p.1 then p.2 else C' k) = some r
      rw [if_neg (fun e => hb (by rw [e]; exact p1))]
      split at hk
      · rw [innR_plain p2] at hk; cases hk
      · exact h k r (by rw [e1, expand_inn e2]; exact hk)
theorem deepA_len (id : Nat) : ∀ (j : Nat) (ds : List D), (deepA id j ds).length = ds.length
  | _, [] => rfl
  | j, d :: ds => by simp [deepA, deepA_len id (j + 1) ds]
theorem deepA_at (id : Nat) : ∀ (j : Nat) (ds : List D) (k : Nat), (deepA id j ds)[k]? = (ds[k]?).map (deepC id (j + k))
  | _, [], k => by simp [deepA]
  | j, d :: ds, 0 => by simp [deepA]
  | j, d :: ds, k + 1 => by
    simp only [deepA, List.getElem?_cons_succ]
    rw [deepA_at id (j + 1) ds k, show j + 1 + k = j + (k + 1) by omega]
theorem deepC_not {id j : Nat} {d : D} (h : ownL d = false) : deepC id j d = .d d := by
  cases d with
  | list u n l => show (if ownL (.list u n l) = true then A.sl u (inn id j) 0 n else .d (.list u n l)) = _; rw [if_neg (by rw [h]; simp)]
  | _ => rfl
theorem deepC_own {id j u n : Nat} {l : List D} (h : ownL (.list u n l) = true) : deepC id j (.list u n l) = .sl u (inn id j) 0 n := by
  show (if ownL (.list u n l) = true then A.sl u (inn id j) 0 n else .d (.list u n l)) = _
  rw [if_pos h]
theorem ownL_list {d : D} (h : ownL d = true) : ∃ u n l, d = .list u n l := by
  cases d with
  | list u n l => exact ⟨u, n, l, rfl⟩
  | _ => cases h
theorem ownL_ne {u n : Nat} {l : List D} (h : u ≠ 0) : ownL (.list u n l) = true := by
  cases u with
  | zero => exact absurd rfl h
  | succ u => rfl
theorem innR_own {t p : Nat} {ds : List D} {u n : Nat} {l : List D} (h : ds[p]? = some (.list u n l)) (ho : ownL (.list u n l) = true) : innR (some (.deep t ds)) p = some (.sym u l) := by
  unfold innR
  simp only [h]
  rw [if_pos ho]
theorem innR_some {t p : Nat} {ds : List D} {row : Row} (h : innR (some (.deep t ds)) p = some row) : ∃ u n l, ds[p]? = some (.list u n l) ∧ ownL (.list u n l) = true ∧ row = .sym u l := by
  unfold innR at h
  simp only at h
  split at h <;> try (cases h; done)
  rename_i u n l hd
  split at h <;> try (cases h; done)
  rename_i ho
  injection h with h
  exact ⟨u, n, l, hd, ho, h.symm⟩
def D.scalar : D → Bool
  | .list _ _ _ => false
  | _ => true
def scal (l : List D) : Prop := ∀ d ∈ l, d.scalar = true
/-- A list within a list: as many cells as it says, no lists among them. -/
def flat1 (P : Program) : D → Prop
  | .list u n l => l.length = n * sz P u ∧ scal l
  | _ => True
def flatDs (P : Program) (ds : List D) : Prop := ∀ d ∈ ds, flat1 P d
def noOwn (ds : List D) : Prop := ∀ d ∈ ds, ownL d = false
def dLoad (P : Program) (e : Operand → AV) (g : Cs) (t : Nat) (x : Operand) : R :=
  match e x, ti P t with
  | .v (.one (.pe u id i j)), some et =>
    match g id with
    | some (.deep _ ds) => if Typ.isFlat et.und = true ∧ Typ.isStruct et.und = false then (match kinds P 6 t with
      | some [.list v] => if v = 0 then none else some ([ds[i * sz P u + j]? = some (.list v (selN ds (i * sz P u + j)) (selL ds (i * sz P u + j)))], one (.isl v id (i * sz P u + j) (selN ds (i * sz P u + j))), [])
      | some [k] => some ([needK ds (i * sz P u + j) k], one (.d (sel ds (i * sz P u + j) k)), [])
      | _ => none) else none
    | _ => none
  | _, _ => none
/-- What is put into a cell: its rows go with it. -/
def absA (P : Program) (g : Cs) : A → Option (List Prop × D × Option (Nat × Nat))
  | .d d => if d.scalar = true then some ([], d, none) else none
  | .nil => some ([], .list 0 0 [], none)
  | .sl u k off len => match g k with
    | some row => match rowD row with
      | some ds => if row.t = u ∧ u ≠ 0 then some ([(off + len) * sz P u ≤ ds.length], .list u len ((ds.drop (off * sz P u)).take (len * sz P u)), some (k, off)) else none
      | none => none
    | none => none
  | _ => none
def goneL (zs : List (D × Option (Nat × Nat))) : List Nat := zs.filterMap fun z => z.2.map (·.1)
def clash (zs : List (D × Option (Nat × Nat))) : Option (Nat × Nat) → Bool
  | some (i, _) => (goneL zs).contains i
  | none => false
def absL (P : Program) (g : Cs) : List A → Option (List Prop × List (D × Option (Nat × Nat)))
  | [] => some ([], [])
  | a :: l => match absA P g a, absL P g l with
    | some (n1, d, k), some (n2, zs) => if clash zs k = false then some (n1 ++ n2, (d, k) :: zs) else none
    | _, _ => none
def freeD (ds : List D) (p m : Nat) : Prop := ∀ (q : Nat) (d : D), q < m → ds[p + q]? = some d → ownL d = false
def dStore (P : Program) (e : Operand → AV) (g : Cs) (t : Nat) (x y : Operand) : R :=
  match e x, e y, ti P t with
  | .v (.one (.pe u id i j)), .v y, some et =>
    match g id, y.cells with
    | some (.deep tr ds), some l =>
      match absL P (nd g) l with
      | some (n, zs) =>
        if et.size = l.length ∧ l.all A.known = true then
          some (n ++ [i * sz P u + j + zs.length ≤ ds.length, freeD ds (i * sz P u + j) zs.length], anyV, kill (goneL zs) ++ [(id, some (.deep tr (setL ds (i * sz P u + j) (zs.map Prod.fst))))])
        else none
      | none => none
    | _, _ => none
  | _, _, _ => none
def dOp (P : Program) (op : Op) (e : Operand → AV) (g : Cs) : R :=
  match op with
  | .load t x => dLoad P e g t x
  | .store t x y => dStore P e g t x y
  | _ => none
/-- A deep row is meant. -/
def atDeep (e : Operand → AV) (g : Cs) (x : Operand) : Bool := match e x with
  | .v (.one (.pe _ id _ _)) => isDeep (g id)
  | _ => false
def dCase (op : Op) (e : Operand → AV) (g : Cs) : Bool := match op with
  | .load _ x => atDeep e g x
  | .store _ x _ => atDeep e g x
  | _ => false
def mOpX (P : Program) (op : Op) (e : Operand → AV) (g : Cs) (nb : Nat) : R := if dCase op e g = true then dOp P op e g else mOp P op e (nd g) nb
section
variable {P : Program} {w0 : Bs} {κ : Kr} {C : Cs} {w : World} {ρ : Operand → Value} {e : Operand → AV} {ns : List Prop} {av : AV} {us : Us} {o : Oper}
/-- A deep row, as it lies. -/
theorem deep_in (hi : InvE P w0 κ C w) {id t : Nat} {ds : List D} (hC : C id = some (.deep t ds)) (hb : id < big) : (κ.at_ id = none ∧ ds = []) ∨ ∃ b o N arr, κ.at_ id = some (b, o, N) ∧ κ.z b = none ∧ w.heap[b]? = some (.cells arr t (0, 0)) ∧ arr.size = N ∧ o + ds.length ≤ N ∧
    ∀ (j : Nat) (d : D), ds[j]? = some d → ∃ x, arr[o + j]? = some x ∧ gA P κ (deepC id j d) x := by
  have h1 : expand C id = some (.fix t (deepA id 0 ds)) := by rw [expand_ord hb, hC]; rfl
  rcases hi.live id _ h1 with ⟨g1, g2⟩ | ⟨b, o, N, arr, g1, g2, g3, g4, g5, g6⟩
  · refine .inl ⟨g1, List.eq_nil_of_length_eq_zero ?_⟩
    have := congrArg List.length g2
    simpa [Row.as, deepA_len] using this
  · refine .inr ⟨b, o, N, arr, g1, g2, g3, g4, by simpa [Row.as, deepA_len] using g5, fun j d hj => ?_⟩
    exact g6 j _ (by simp only [Row.as]; rw [deepA_at, hj, Nat.zero_add]; rfl)
theorem s_dload (hi : InvE P w0 κ C w) (he : ∀ x, gAV P κ (e x) (ρ x)) {g : Cs} (hg : ∀ id row, g id = some row → C id = some row ∧ id < big) {t : Nat} {x : Operand} (h : dLoad P e g t x = some (ns, av, us)) (hn : all_ ns) :
    ∃ v, (do pure (.value (← Instr.loadAt t (ρ x))) : Sem Next).run P w = .ok (.value v) w ∧ gAV P κ av v ∧ us = [] := by
  unfold dLoad at h
  have hx := he x
  split at h <;> try (cases h; done)
  rename_i u id i j et ex ht
  rw [ex] at hx
  obtain ⟨b, o, N, h1, h2⟩ := hx
  split at h <;> try (cases h; done)
  rename_i tr ds hrow
  obtain ⟨hC, hb⟩ := hg _ _ hrow
  rcases deep_in hi hC hb with ⟨g1, _⟩ | ⟨b2, o2, N2, arr, g1, g2, g3, g4, g5, g6⟩
  · rw [g1] at h1; cases h1
  rw [g1] at h1
  injection h1 with h1; injection h1 with e1 e2; injection e2 with e2 e3
  subst e1; subst e2; subst e3
  split at h <;> try (cases h; done)
  rename_i hfl
  rw [h2]
  have run : ∀ y, arr[o2 + (i * sz P u + j)]? = some y → (do pure (.value (← Instr.loadAt t (.pointer (some ⟨b2, o2 + (i * sz P u + j), none⟩)))) : Sem Next).run P w = .ok (.value y) w := fun y hy => by
    simp [Instr.loadAt, Instr.sureAddr, run_load_flat ht hfl.1 g3 hy]
  split at h <;> try (cases h; done)
  · rename_i v hk
    split at h <;> try (cases h; done)
    rename_i hv
    injection h with h; injection h with e1 e2; injection e2 with e2 e3
    subst e1; subst e2; subst e3
    obtain ⟨y, k1, k2⟩ := g6 _ _ hn.1
    rw [deepC_own (ownL_ne hv)] at k2
    exact ⟨y, run y k1, k2, rfl⟩
  · rename_i k hne hk
    injection h with h; injection h with e1 e2; injection e2 with e2 e3
    subst e1; subst e2; subst e3
    have hn1 := hn.1
    have hsc : ∀ v, k ≠ .list v := fun v e => by first | exact hne v e | exact hne v (by rw [e])
    have : ds[i * sz P u + j]? = some (sel ds (i * sz P u + j) k) := by
      cases k with
      | list v => exact absurd rfl (hsc v)
      | _ => exact hn1
    obtain ⟨y, k1, k2⟩ := g6 _ _ this
    rw [deepC_not (by cases k with | list v => exact absurd rfl (hsc v) | _ => rfl)] at k2
    exact ⟨y, run y k1, k2, rfl⟩
/-- A row goes by another name from here on. -/
theorem Inv.move (h : Inv P w0 κ C w) {k k' u off len : Nat} {row : Row} {ds : List D} (hr : C k = some row) (hd : rowD row = some ds) (hu : row.t = u) (hle : (off + len) * sz P u ≤ ds.length) (hC : C k' = none) (hA : κ.at_ k' = none) {v : Value} (hv : gA P κ (.sl u k off len) v) :
    ∃ κ', κ.le κ' ∧ Inv P w0 κ' (upd C [(k, none), (k', some (.sym u ((ds.drop (off * sz P u)).take (len * sz P u))))]) w ∧ (∀ x, x ≠ k' → κ'.at_ x = κ.at_ x) ∧ gA P κ' (.sl u k' 0 len) v := by
  obtain ⟨Ad, c, rfl, hc, hv⟩ := hv
  have hlen : ((ds.drop (off * sz P u)).take (len * sz P u)).length = len * sz P u := by rw [Nat.add_mul] at hle; simp; omega
  rcases hv with ⟨rfl, rfl⟩ | ⟨b, o, N, hat, rfl, hfit⟩
  · -- nothing in it
    have hnil : (ds.drop (off * sz P u)).take (0 * sz P u) = [] := by simp
    rw [hnil]
    refine ⟨κ, Kr.le.refl κ, ⟨h.os, h.tape, h.output, h.size, h.base, h.z, fun x r hx => ?_, fun x x' r r' b o N o' N' h1 h2 h3 h4 => ?_, fun x r b o N h1 h3 => ?_⟩, fun _ _ => rfl, ⟨Ad, 0, rfl, Nat.le_refl _, .inl ⟨rfl, rfl⟩⟩⟩
    · simp only [upd, List.foldl] at hx
      split at hx
      · rename_i e; subst e; injection hx with hx; subst hx; exact .inl ⟨hA, rfl⟩
      · split at hx
        · cases hx
        · exact h.live x r hx
    · simp only [upd, List.foldl] at h1 h2
      split at h1
      · rename_i e; subst e; rw [hA] at h3; cases h3
      · split at h1
        · cases h1
        · split at h2
          · rename_i e; subst e; rw [hA] at h4; cases h4
          · split at h2
            · cases h2
            · exact h.apart x x' r r' b o N o' N' h1 h2 h3 h4
    · simp only [upd, List.foldl] at h1
      split at h1
      · rename_i e; subst e; rw [hA] at h3; cases h3
      · split at h1
        · cases h1
        · exact h.own x r b o N h1 h3
  · rcases (h.live k row hr).ds hd with ⟨g1, _⟩ | ⟨b2, o2, N2, arr, g1, g2, g3, g4, g5, g6⟩
    · rw [g1] at hat; cases hat
    rw [g1] at hat
    injection hat with hat; injection hat with e1 e2; injection e2 with e2 e3
    subst e1; subst e2; subst e3
    rw [Nat.add_mul] at hle hfit
    have hkne : k' ≠ k := fun e => by rw [e, hr] at hC; cases hC
    obtain ⟨κ', q1, q2, q3, q4, q5⟩ := h.reuse hr g1 arr g4 k' (o2 + off * sz P u) (.sym u ((ds.drop (off * sz P u)).take (len * sz P u))) (.inr ⟨hC, hA⟩) hu.symm (by simp only [Row.as, List.length_map, hlen]; omega) (fun j a hj => by
      simp only [Row.as, List.getElem?_map] at hj
      obtain ⟨d, hd', rfl⟩ := Option.map_eq_some_iff.mp hj
      have hjl := (List.getElem?_eq_some_iff.mp hd').1
      rw [hlen] at hjl
      rw [List.getElem?_take_of_lt hjl, List.getElem?_drop] at hd'
      obtain ⟨x, k1, k2⟩ := g6 _ d hd'
      exact ⟨x, by rw [Nat.add_assoc]; exact k1, k2⟩) w ⟨rfl, rfl, rfl, rfl⟩ (by rw [g3]) (fun _ _ => rfl)
    refine ⟨κ', q1, q5, fun x hx => q3 x hx, ⟨_, c, rfl, hc, .inr ⟨b2, o2 + off * sz P u, N2, q2, by simp, by simp; omega⟩⟩⟩
/-- The rows that go into the cells of another one. -/
noncomputable def moves (id : Nat) : Nat → List (D × Option (Nat × Nat)) → Us
  | _, [] => []
  | j, (.list u n l, some (k, _)) :: zs => (k, none) :: (inn id j, some (.sym u l)) :: moves id (j + 1) zs
  | j, _ :: zs => moves id (j + 1) zs
theorem absA_spec {g : Cs} {a : A} {n : List Prop} {d : D} {k : Option (Nat × Nat)} (h : absA P g a = some (n, d, k)) :
    (k = none ∧ ownL d = false ∧ (a = .d d ∧ d.scalar = true ∨ a = .nil ∧ d = .list 0 0 [])) ∨
    ∃ u i off len row ds, k = some (i, off) ∧ a = .sl u i off len ∧ g i = some row ∧ rowD row = some ds ∧ row.t = u ∧ u ≠ 0 ∧ n = [(off + len) * sz P u ≤ ds.length] ∧ d = .list u len ((ds.drop (off * sz P u)).take (len * sz P u)) := by
  unfold absA at h
  split at h <;> try (cases h; done)
  · split at h <;> try (cases h; done)
    rename_i hs
    injection h with h; injection h with e1 e2; injection e2 with e2 e3
    subst e2; subst e3
    refine .inl ⟨rfl, ?_, .inl ⟨rfl, hs⟩⟩
    rename_i d0
    cases d0 with
    | list => cases hs
    | _ => rfl
  · injection h with h; injection h with e1 e2; injection e2 with e2 e3
    subst e2; subst e3
    exact .inl ⟨rfl, rfl, .inr ⟨rfl, rfl⟩⟩
  · split at h <;> try (cases h; done)
    rename_i row hrow
    split at h <;> try (cases h; done)
    rename_i ds hds
    split at h <;> try (cases h; done)
    rename_i hc
    injection h with h; injection h with e1 e2; injection e2 with e2 e3
    subst e1; subst e2; subst e3
    exact .inr ⟨_, _, _, _, row, ds, rfl, rfl, hrow, hds, hc.1, hc.2, rfl, rfl⟩
theorem absL_cells {g : Cs} : ∀ {l : List A} {n : List Prop} {zs : List (D × Option (Nat × Nat))}, absL P g l = some (n, zs) → zs.length = l.length ∧ (∀ k ∈ goneL zs, ∃ row, g k = some row) ∧ ∀ z ∈ zs, (z.2 = none ∧ ownL z.1 = false) ∨ ∃ u m s i, z = (.list u m s, some i) ∧ u ≠ 0
  | [], n, zs, h => by
    injection h with h; injection h with e1 e2
    subst e2
    exact ⟨rfl, fun k hk => by simp [goneL] at hk, fun z hz => by simp at hz⟩
  | a :: l, n, zs, h => by
    unfold absL at h
    split at h <;> try (cases h; done)
    rename_i n1 d k n2 zs' h1 h2
    split at h <;> try (cases h; done)
    injection h with h; injection h with e1 e2
    subst e2
    obtain ⟨g1, g2, g3⟩ := absL_cells h2
    refine ⟨by simp [g1], fun x hx => ?_, fun z hz => ?_⟩
    · rcases absA_spec h1 with ⟨rfl, _, _⟩ | ⟨u, i, off, len, row, ds, rfl, _, r1, _⟩
      · exact g2 x (by simpa [goneL] using hx)
      · simp only [goneL, List.filterMap_cons, Option.map_some, List.mem_cons] at hx
        rcases hx with rfl | hx
        · exact ⟨row, r1⟩
        · exact g2 x hx
    · rcases List.mem_cons.mp hz with rfl | hz
      · rcases absA_spec h1 with ⟨rfl, r1, _⟩ | ⟨u, i, off, len, row, ds, rfl, _, _, _, _, r2, _, rfl⟩
        · exact .inl ⟨rfl, r1⟩
        · exact .inr ⟨u, len, _, (i, off), rfl, r2⟩
      · exact g3 z hz
/-- What goes into the cells of a row, one behind the other. -/
theorem absL_sound {g : Cs} {id : Nat} (hid : id < big) : ∀ {l : List A} {j : Nat} {n : List Prop} {zs : List (D × Option (Nat × Nat))} {κ : Kr} {C : Cs}, absL P g l = some (n, zs) → all_ n → Inv P w0 κ C w → (∀ k ∈ goneL zs, k < big ∧ ∀ row, g k = some row → C k = some row) →
    (∀ q, q < zs.length → C (inn id (j + q)) = none ∧ κ.at_ (inn id (j + q)) = none) → ∀ {vs : List Value}, gL P κ l vs →
    ∃ κ', κ.le κ' ∧ Inv P w0 κ' (upd C (moves id j zs)) w ∧ (∀ x, (∀ q, q < zs.length → (∃ z, zs[q]? = some z ∧ z.2.isSome = true) → x ≠ inn id (j + q)) → κ'.at_ x = κ.at_ x) ∧
      ∀ (q : Nat) (z : D × Option (Nat × Nat)), zs[q]? = some z → ∃ x, vs[q]? = some x ∧ gA P κ' (deepC id (j + q) z.1) x
  | [], j, n, zs, κ, C, h, hn, hi, hg, hf, vs, hv => by
    injection h with h; injection h with e1 e2
    subst e2
    exact ⟨κ, Kr.le.refl κ, hi, fun _ _ => rfl, fun q z hz => by simp at hz⟩
  | a :: l, j, n, zs, κ, C, h, hn, hi, hg, hf, v :: vs, ⟨hv1, hv2⟩ => by
    unfold absL at h
    split at h <;> try (cases h; done)
    rename_i n1 d k n2 zs' h1 h2
    split at h <;> try (cases h; done)
    rename_i hk
    injection h with h; injection h with e1 e2
    subst e1; subst e2
    obtain ⟨hn1, hn2⟩ := all_append hn
    rcases absA_spec h1 with ⟨rfl, r1, r2⟩ | ⟨u, i, off, len, row, ds, rfl, rfl, r1, r2, r3, r4, rfl, rfl⟩
    · have hm : moves id j ((d, none) :: zs') = moves id (j + 1) zs' := by cases d <;> rfl
      rw [hm]
      obtain ⟨κ', a1, a2, a3, a4⟩ := absL_sound hid (j := j + 1) h2 hn2 hi (fun k hk => hg k (by simpa [goneL] using hk)) (fun q hq => by
        have := hf (q + 1) (by simp; omega)
        rwa [show j + 1 + q = j + (q + 1) by omega]) hv2
      refine ⟨κ', a1, a2, fun x hx => a3 x (fun q hq hz => ?_), fun q z hz => ?_⟩
      · have := hx (q + 1) (by simp; omega) (by simpa using hz)
        rwa [show j + 1 + q = j + (q + 1) by omega]
      · cases q with
        | zero =>
          simp at hz
          subst hz
          refine ⟨v, rfl, ?_⟩
          simp only
          rw [deepC_not r1]
          rcases r2 with ⟨rfl, _⟩ | ⟨rfl, rfl⟩
          · exact hv1.mono a1
          · exact gD.mono a1.z (A.toD_sound (a := .nil) rfl hv1)
        | succ q =>
          obtain ⟨x, k1, k2⟩ := a4 q z (by simpa using hz)
          exact ⟨x, by simpa using k1, by rwa [show j + (q + 1) = j + 1 + q by omega]⟩
    · obtain ⟨hib, hgi⟩ := hg i (by simp [goneL])
      obtain ⟨f1, f2⟩ := hf 0 (by simp)
      rw [Nat.add_zero] at f1 f2
      have hio : i ≠ inn id j := fun e => by rw [e] at hib; exact inn_big hib
      obtain ⟨κ1, m1, m2, m3, m4⟩ := hi.move (hgi row r1) r2 r3 hn1.1 f1 f2 hv1
      have hin : i ∉ goneL zs' := by simpa [clash] using hk
      obtain ⟨κ', a1, a2, a3, a4⟩ := absL_sound hid (j := j + 1) h2 hn2 m2 (fun k hk' => by
        obtain ⟨q1, q2⟩ := hg k (by simp only [goneL, List.filterMap_cons, Option.map_some, List.mem_cons]; exact .inr hk')
        refine ⟨q1, fun row' hr' => ?_⟩
        simp only [upd, List.foldl]
        rw [if_neg (fun e => by rw [e] at q1; exact inn_big q1), if_neg (fun e => by subst e; exact hin hk')]
        exact q2 row' hr') (fun q hq => by
        have := hf (q + 1) (by simp; omega)
        rw [show j + (q + 1) = j + 1 + q by omega] at this
        have hne : inn id (j + 1 + q) ≠ inn id j := fun e => by have := (inn_inj hid hid e).2; omega
        refine ⟨?_, by rw [m3 _ hne]; exact this.2⟩
        simp only [upd, List.foldl]
        rw [if_neg hne]
        split
        · rfl
        · exact this.1) (hv2.mono m1)
      refine ⟨κ', m1.trans a1, a2, fun x hx => ?_, fun q z hz => ?_⟩
      · rw [a3 x (fun q hq hz => ?_), m3 x (by have := hx 0 (by simp) ⟨_, rfl, rfl⟩; rwa [Nat.add_zero] at this)]
        have := hx (q + 1) (by simp; omega) (by simpa using hz)
        rwa [show j + 1 + q = j + (q + 1) by omega]
      · cases q with
        | zero =>
          simp at hz
          subst hz
          refine ⟨v, rfl, ?_⟩
          simp only
          rw [deepC_own (ownL_ne r4)]
          exact m4.mono a1
        | succ q =>
          obtain ⟨x, k1, k2⟩ := a4 q z (by simpa using hz)
          exact ⟨x, by simpa using k1, by rwa [show j + (q + 1) = j + 1 + q by omega]⟩
/-- A name within a list that lay somewhere and is not spoken of any more. -/
def goneN (κ : Kr) (C : Cs) (k : Nat) : Prop := C (innA k) = none ∧ κ.at_ (innA k) ≠ none
/-- Names that are not in use are free, but for those within what is gone; those that lay nowhere from the start still do. -/
def FreeN (w0 : Bs) (κ : Kr) (C : Cs) : Prop := (∀ k, ¬ k < big → expand C k = none → κ.at_ k = none ∨ goneN κ C k) ∧ ∀ k, ¬ k < big → w0.pn k → (expand C k ≠ none ∧ κ.at_ k = none) ∨ goneN κ C k
theorem FreeN.free {id p : Nat} (hf : FreeN w0 κ C) (hid : id < big) (hE : expand C (inn id p) = none) (hl : C id ≠ none ∨ κ.at_ id = none) : κ.at_ (inn id p) = none := by
  rcases hf.1 _ inn_big hE with h | ⟨h1, h2⟩
  · exact h
  · rw [(inn_parts hid).1] at h1 h2
    rcases hl with h | h
    · exact absurd h1 h
    · exact absurd h h2
theorem FreeN.step {κ' : Kr} {C' : Cs} (hf : FreeN w0 κ C) (h1 : ∀ k, ¬ k < big → expand C' k = none → expand C k = none ∧ κ'.at_ k = κ.at_ k) (h2 : ∀ k, ¬ k < big → expand C k ≠ none → κ'.at_ k = κ.at_ k) (h3 : ∀ k, C k = none → κ.at_ k ≠ none → C' k = none ∧ κ'.at_ k ≠ none) : FreeN w0 κ' C' :=
  ⟨fun k hk he => by
    obtain ⟨g1, g2⟩ := h1 k hk he
    rcases hf.1 k hk g1 with h | ⟨a, b⟩
    · exact .inl (by rw [g2]; exact h)
    · exact .inr (h3 _ a b), fun k hk hp => by
    rcases hf.2 k hk hp with ⟨g1, g2⟩ | ⟨a, b⟩
    · exact .inl ⟨fun e => g1 (h1 k hk e).1, by rw [h2 k hk g1]; exact g2⟩
    · exact .inr (h3 _ a b)⟩
theorem le_ne {κ' : Kr} (h : κ.le κ') {k : Nat} (hn : κ.at_ k ≠ none) : κ'.at_ k ≠ none := by
  cases hx : κ.at_ k with
  | none => exact absurd hx hn
  | some x => rw [h.at_ _ _ hx]; simp
theorem upd_not : ∀ {us : Us} {C : Cs} {k : Nat}, (∀ p ∈ us, p.1 ≠ k) → upd C us k = C k
  | [], C, k, _ => rfl
  | p :: us, C, k, h => by
    show upd (fun id => if id = p.1 then p.2 else C id) us k = C k
    rw [upd_not (fun q hq => h q (by simp [hq])), if_neg (fun e => h p (by simp) e.symm)]
theorem free_plain {κ' : Kr} (hf : FreeN w0 κ C) (hle : κ.le κ') (hp : ∀ p ∈ us, isDeep (C p.1) = false) (hz : ∀ p ∈ us, C p.1 ≠ none ∨ κ.at_ p.1 = none) (ha : ∀ k, ¬ k < big → κ'.at_ k = κ.at_ k) : FreeN w0 κ' (upd C us) := by
  refine hf.step (fun k hk he => ⟨?_, ha k hk⟩) (fun k hk _ => ha k hk) (fun k g1 g2 => ⟨?_, le_ne hle g2⟩)
  · obtain ⟨e1, e2⟩ := inn_of hk
    rw [e1, expand_inn e2] at he ⊢
    by_cases hm : ∃ p ∈ us, p.1 = innA k
    · obtain ⟨p, h1, h2⟩ := hm
      rw [← h2]
      exact innR_plain (hp p h1)
    · rw [upd_not (fun p h1 h2 => hm ⟨p, h1, h2⟩)] at he
      exact he
  · rw [upd_not (fun p hm e => ?_)]
    · exact g1
    · rcases hz p hm with h | h
      · rw [e] at h; exact h g1
      · rw [e] at h; exact g2 h
def YieldsE (P : Program) (w0 : Bs) (κ : Kr) (C : Cs) (s : Result Next) (av : AV) (us : Us) : Prop :=
  ∃ n κ' w', s = .ok n w' ∧ κ.le κ' ∧ InvE P w0 κ' (upd C us) w' ∧ (∀ k, k < big → (∀ p ∈ us, p.1 ≠ k) → κ'.at_ k = κ.at_ k) ∧ FreeN w0 κ' (upd C us) ∧ ((∃ v, n = .value v ∧ gAV P κ' av v) ∨ (n = .skip ∧ av = anyV))
theorem moves_ids {id : Nat} : ∀ {j : Nat} {zs : List (D × Option (Nat × Nat))}, ∀ p ∈ moves id j zs, p.1 ∈ goneL zs ∨ ∃ q, q < zs.length ∧ p.1 = inn id (j + q)
  | j, [], p, hp => by simp [moves] at hp
  | j, (d, k) :: zs, p, hp => by
    have rec_ : p ∈ moves id (j + 1) zs → p.1 ∈ goneL ((d, k) :: zs) ∨ ∃ q, q < ((d, k) :: zs).length ∧ p.1 = inn id (j + q) := fun hp => by
      rcases moves_ids p hp with h | ⟨q, h1, h2⟩
      · left
        unfold goneL at h ⊢
        rw [List.filterMap_cons]
        split
        · exact h
        · exact List.mem_cons_of_mem _ h
      · exact .inr ⟨q + 1, by simp; omega, by rw [h2, show j + 1 + q = j + (q + 1) by omega]⟩
    cases k with
    | none =>
      have : moves id j ((d, none) :: zs) = moves id (j + 1) zs := by cases d <;> rfl
      rw [this] at hp; exact rec_ hp
    | some x =>
      cases d with
      | list u n l =>
        obtain ⟨k, off⟩ := x
        simp only [moves, List.mem_cons] at hp
        rcases hp with rfl | rfl | hp
        · left; simp [goneL]
        · exact .inr ⟨0, by simp, by rw [Nat.add_zero]⟩
        · exact rec_ hp
      | _ => exact rec_ hp
/-- What went into a cell is there under the cell's name. -/
theorem moves_at {id : Nat} (hid : id < big) : ∀ {zs : List (D × Option (Nat × Nat))} {j : Nat} {C : Cs} {q u n : Nat} {l : List D} {k : Nat × Nat}, (∀ x ∈ goneL zs, x < big) → zs[q]? = some (.list u n l, some k) → upd C (moves id j zs) (inn id (j + q)) = some (.sym u l)
  | [], j, C, q, u, n, l, k, hb, h => by simp at h
  | (d, k0) :: zs, j, C, q, u, n, l, k, hb, h => by
    have hb' : ∀ x ∈ goneL zs, x < big := fun x hx => hb x (by
      unfold goneL at hx ⊢
      rw [List.filterMap_cons]
      split
      · exact hx
      · exact List.mem_cons_of_mem _ hx)
    cases q with
    | zero =>
      simp at h
      obtain ⟨rfl, rfl⟩ := h
      obtain ⟨k1, off⟩ := k
      show upd (upd C [(k1, none), (inn id j, some (.sym u l))]) (moves id (j + 1) zs) _ = _
      rw [Nat.add_zero, upd_not (fun p hp e => ?_)]
      · simp [upd]
      · rcases moves_ids p hp with h1 | ⟨q, h1, h2⟩
        · have := hb' _ h1
          rw [e] at this; exact inn_big this
        · rw [h2] at e
          have := (inn_inj hid hid e).2
          omega
    | succ q =>
      have h' : zs[q]? = some (.list u n l, some k) := by simpa using h
      have key : ∀ C', upd C' (moves id (j + 1) zs) (inn id (j + (q + 1))) = some (.sym u l) := fun C' => by
        rw [show j + (q + 1) = j + 1 + q by omega]
        exact moves_at hid hb' h'
      cases k0 with
      | none =>
        have : moves id j ((d, none) :: zs) = moves id (j + 1) zs := by cases d <;> rfl
        rw [this]; exact key C
      | some x =>
        cases d with
        | list u' n' l' => obtain ⟨k1, off⟩ := x; exact key _
        | _ => exact key C
theorem s_dstore (hi : InvE P w0 κ C w) (hf : FreeN w0 κ C) (he : ∀ x, gAV P κ (e x) (ρ x)) {g : Cs} (hg : ∀ id row, g id = some row → C id = some row ∧ id < big) {t : Nat} {x y : Operand} (h : dStore P e g t x y = some (ns, av, us)) (hn : all_ ns) :
    YieldsE P w0 κ C ((do Instr.storeAt t (ρ x) (ρ y); pure .skip : Sem Next).run P w) av us := by
  unfold dStore at h
  have hx := he x
  have hy := he y
  split at h <;> try (cases h; done)
  rename_i u id i j0 yv et ex ey ht
  rw [ex] at hx
  rw [ey] at hy
  obtain ⟨b, o, N, h1, h2⟩ := hx
  split at h <;> try (cases h; done)
  rename_i tr ds l hrow hl
  split at h <;> try (cases h; done)
  rename_i n zs habs
  split at h <;> try (cases h; done)
  rename_i hc
  obtain ⟨c1, c2⟩ := hc
  injection h with h; injection h with e1 e2; injection e2 with e2 e3
  subst e1; subst e2; subst e3
  obtain ⟨hn1, hn2, hn3, _⟩ := all_append hn
  obtain ⟨hC, hb⟩ := hg _ _ hrow
  have hcl := V1.cells_sound hl hy
  have hlen := hcl.len
  obtain ⟨z1, z2, z3⟩ := absL_cells habs
  generalize hp : i * sz P u + j0 = p at hn2 hn3 ⊢
  have hgone : ∀ k ∈ goneL zs, k < big ∧ isDeep (C k) = false ∧ k ≠ id := fun k hk => by
    obtain ⟨row, hrow'⟩ := z2 k hk
    obtain ⟨q1, q2⟩ := nd_some hrow'
    obtain ⟨q3, q4⟩ := hg _ _ q1
    rw [q1] at q2
    refine ⟨q4, by rw [q3]; exact q2, fun e => ?_⟩
    rw [e, hC] at q3
    injection q3 with q3
    rw [← q3] at q2; cases q2
  have hfree : ∀ q, q < zs.length → expand C (inn id (p + q)) = none ∧ κ.at_ (inn id (p + q)) = none := fun q hq => by
    have h9 : expand C (inn id (p + q)) = none := by
      rw [expand_inn hb, hC]
      cases hr : innR (some (Row.deep tr ds)) (p + q) with
      | none => rfl
      | some row =>
        obtain ⟨u', n', l', d1, d2, _⟩ := innR_some hr
        rw [hn3 q _ hq d1] at d2; cases d2
    exact ⟨h9, hf.free hb h9 (.inl (by rw [hC]; simp))⟩
  obtain ⟨κ1, a1, a2, a3, a4⟩ := absL_sound hb (j := p) habs hn1 hi (fun k hk => ⟨(hgone k hk).1, fun row hr => nd_expand hg k row hr⟩) hfree hcl
  -- the row itself
  have hmid : ∀ q ∈ moves id p zs, q.1 ≠ id := fun q hq e => by
    rcases moves_ids q hq with h9 | ⟨q', _, h9⟩
    · exact (hgone _ h9).2.2 e
    · rw [e] at h9
      rw [h9] at hb; exact inn_big hb
  have hC1 : upd (expand C) (moves id p zs) id = some (.fix tr (deepA id 0 ds)) := by
    rw [upd_not hmid, expand_ord hb, hC]; rfl
  rcases a2.live id _ hC1 with ⟨g1, _⟩ | ⟨b2, o2, N2, arr, g1, g2, g3, g4, g5, g6⟩
  · rw [a1.at_ _ _ h1] at g1; cases g1
  have hat := a1.at_ _ _ h1
  rw [g1] at hat
  injection hat with hat; injection hat with q1 q2; injection q2 with q2 q3
  subst q1; subst q2; subst q3
  have g5' : o2 + ds.length ≤ N2 := by simpa [Row.as, deepA_len] using g5
  have hcs : (ρ y).cells.size = zs.length := by rw [z1, hlen]; simp
  have hp2 : o2 + p + (ρ y).cells.toList.length ≤ arr.size := by simp; omega
  rw [h2, hp]
  have hr := storeAt_run (b := b2) (p := o2 + p) ht (v := ρ y) (by omega) g3 (by omega) (gL.ones c2 hcl)
  have hsl : p + (zs.map Prod.fst).length ≤ ds.length := by simpa using hn2
  have hrel : ∀ (j : Nat) (a : A), (Row.fix tr (deepA id 0 (setL ds p (zs.map Prod.fst)))).as[j]? = some a → ∃ x, ((arr.toList.take (o2 + p) ++ (ρ y).cells.toList ++ arr.toList.drop (o2 + p + (ρ y).cells.toList.length)).toArray)[o2 + j]? = some x ∧ gA P κ1 a x := by
    intro j a hj
    rw [spliced hp2]
    simp only [Row.as] at hj
    rw [deepA_at, setL_at hsl, Nat.zero_add] at hj
    by_cases j1 : j < p
    · rw [if_pos j1] at hj
      obtain ⟨x, k1, k2⟩ := g6 j a (by simp only [Row.as]; rw [deepA_at, Nat.zero_add]; exact hj)
      exact ⟨x, by rw [if_pos (by omega)]; exact k1, k2⟩
    · rw [if_neg j1] at hj
      by_cases j2 : j < p + (zs.map Prod.fst).length
      · rw [if_pos j2, List.getElem?_map, Option.map_map] at hj
        obtain ⟨z, hz, hza⟩ := Option.map_eq_some_iff.mp hj
        obtain ⟨x, k1, k2⟩ := a4 (j - p) z hz
        rw [show p + (j - p) = j by omega] at k2
        have hlt := (List.getElem?_eq_some_iff.mp k1).1
        refine ⟨x, ?_, by rw [← hza]; exact k2⟩
        rw [if_neg (by omega), if_pos (by omega), show o2 + j - (o2 + p) = j - p by omega]
        exact k1
      · rw [if_neg j2] at hj
        obtain ⟨x, k1, k2⟩ := g6 j a (by simp only [Row.as]; rw [deepA_at, Nat.zero_add]; exact hj)
        refine ⟨x, ?_, k2⟩
        rw [List.length_map] at j2
        rw [if_neg (by omega), if_neg (by simp; omega)]
        exact k1
  obtain ⟨κ2, m1, m2, m3, m4, m5⟩ := a2.reuse hC1 g1 _ (by simp; omega) id o2 (.fix tr (deepA id 0 (setL ds p (zs.map Prod.fst)))) (.inl ⟨rfl, rfl⟩) rfl (by simp only [Row.as, deepA_len, setL_len hsl]; omega) hrel (w.setRow b2 (arr.toList.take (o2 + p) ++ (ρ y).cells.toList ++ arr.toList.drop (o2 + p + (ρ y).cells.toList.length)).toArray) ⟨rfl, rfl, rfl, setRow_size _ _ _⟩ (setRow_heap w b2 arr _ _ (0, 0) g3) (fun k hk => setRow_other _ _ _ _ hk)
  have hupd : ∀ k, upd C (kill (goneL zs) ++ [(id, some (.deep tr (setL ds p (zs.map Prod.fst))))]) k = if k = id then some (.deep tr (setL ds p (zs.map Prod.fst))) else if (goneL zs).contains k = true then none else C k := fun k => by
    rw [upd_append, upd_one, upd_kill]
  have key : ∀ q u' n' l', (setL ds p (zs.map Prod.fst))[q]? = some (.list u' n' l') → ownL (.list u' n' l') = true → (q < p ∨ p + zs.length ≤ q) ∧ ds[q]? = some (.list u' n' l') ∨ ∃ i, p ≤ q ∧ q < p + zs.length ∧ zs[q - p]? = some (.list u' n' l', some i) := fun q u' n' l' hq ho => by
    rw [setL_at hsl, List.length_map] at hq
    split at hq
    · rename_i hlt; exact .inl ⟨.inl hlt, hq⟩
    · rename_i hlt
      split at hq
      · rename_i hlt2
        rw [List.getElem?_map] at hq
        obtain ⟨z, hz, hz1⟩ := Option.map_eq_some_iff.mp hq
        rcases z3 z (List.mem_of_getElem? hz) with ⟨_, h9⟩ | ⟨u2, m2, s2, i2, h9, _⟩
        · rw [hz1, ho] at h9; cases h9
        · rw [h9] at hz1 hz
          injection hz1 with y1 y2 y3
          subst y1; subst y2; subst y3
          exact .inr ⟨i2, by omega, hlt2, hz⟩
      · rename_i hlt2; exact .inl ⟨.inr (by omega), hq⟩
  have notmv : ∀ k q, ¬ k < big → k = inn (innA k) q → innA k < big → (innA k ≠ id ∨ q < p ∨ p + zs.length ≤ q) → ∀ z ∈ moves id p zs, z.1 ≠ k := fun k q hk he hb2 hor z hz e => by
    rcases moves_ids z hz with h9 | ⟨q', h9, h10⟩
    · rw [e] at h9; exact hk (hgone _ h9).1
    · rw [e, he] at h10
      obtain ⟨y1, y2⟩ := inn_inj hb2 hb h10
      rcases hor with h | h | h
      · exact h y1
      · omega
      · omega
  refine ⟨_, κ2, _, hr, a1.trans m1, m5.less (fun k row hk => ?_), fun k hk hno => ?_, hf.step (fun k hk he' => ?_) (fun k hk he' => ?_) (fun k g1 g2 => ⟨?_, le_ne (a1.trans m1) g2⟩), .inr ⟨rfl, rfl⟩⟩
  · show upd (upd (expand C) (moves id p zs)) [(id, none), (id, some (.fix tr (deepA id 0 (setL ds p (zs.map Prod.fst)))))] k = some row
    by_cases hkb : k < big
    · rw [expand_ord hkb, hupd] at hk
      split at hk
      · rename_i e
        subst e
        simp only [upd, List.foldl, if_true]
        exact hk
      · rename_i e
        simp only [upd, List.foldl]
        rw [if_neg e, if_neg e]
        split at hk
        · cases hk
        · rename_i hng
          show upd (expand C) (moves id p zs) k = some row
          rw [upd_not (fun q hq e' => ?_), expand_ord hkb]
          · exact hk
          · rcases moves_ids q hq with h9 | ⟨q', _, h9⟩
            · rw [e'] at h9; exact hng (by simpa using h9)
            · rw [e'] at h9; rw [h9] at hkb; exact inn_big hkb
    · obtain ⟨f1, f2⟩ := inn_of hkb
      have hkid : k ≠ id := fun e => by rw [e] at hkb; exact hkb hb
      have hk' : innR (upd C (kill (goneL zs) ++ [(id, some (.deep tr (setL ds p (zs.map Prod.fst))))]) (innA k)) (innB k) = some row := by
        rw [f1, expand_inn f2] at hk; exact hk
      rw [hupd] at hk'
      show (if k = id then _ else if k = id then none else upd (expand C) (moves id p zs) k) = some row
      rw [if_neg hkid, if_neg hkid]
      split at hk'
      · rename_i e
        obtain ⟨u', n', l', d1, d2, rfl⟩ := innR_some hk'
        rcases key _ _ _ _ d1 d2 with ⟨y1, y2⟩ | ⟨i2, y1, y2, y3⟩
        · rw [upd_not (notmv k (innB k) hkb f1 f2 (.inr y1)), f1, expand_inn f2, e, hC]
          exact innR_own y2 d2
        · have := moves_at hb (C := expand C) (j := p) (fun x hx => (hgone x hx).1) y3
          rw [show p + (innB k - p) = innB k by omega] at this
          rw [f1, e]
          exact this
      · rename_i e
        split at hk'
        · cases hk'
        · rw [upd_not (notmv k (innB k) hkb f1 f2 (.inl e)), f1, expand_inn f2]
          exact hk'
  · have hne : k ≠ id := fun e => hno (id, some (.deep tr (setL ds p (zs.map Prod.fst)))) (List.mem_append_right _ (List.mem_singleton.mpr rfl)) e.symm
    rw [m3 k hne, a3 k (fun q _ _ e => by rw [e] at hk; exact inn_big hk)]
  · obtain ⟨f1, f2⟩ := inn_of hk
    have hkid : k ≠ id := fun e => by rw [e] at hk; exact hk hb
    have he2 : innR (upd C (kill (goneL zs) ++ [(id, some (.deep tr (setL ds p (zs.map Prod.fst))))]) (innA k)) (innB k) = none := by
      rw [f1, expand_inn f2] at he'; exact he'
    rw [hupd] at he2
    have old : expand C k = none ∧ ∀ q, q < zs.length → (∃ z, zs[q]? = some z ∧ z.2.isSome = true) → k ≠ inn id (p + q) := by
      have hEx : expand C k = innR (C (innA k)) (innB k) := by
        conv => lhs; rw [f1]
        exact expand_inn f2
      rw [hEx]
      split at he2
      · rename_i e
        have mv : ∀ q, q < zs.length → (∃ z, zs[q]? = some z ∧ z.2.isSome = true) → k ≠ inn id (p + q) := fun q hq ⟨z, y1, y2⟩ e' => by
          rw [f1, e] at e'
          have e9 := (inn_inj hb hb e').2
          rcases z3 z (List.mem_of_getElem? y1) with ⟨h9, _⟩ | ⟨u2, m2, s2, i2, rfl, h9⟩
          · rw [h9] at y2; cases y2
          · have : (setL ds p (zs.map Prod.fst))[p + q]? = some (.list u2 m2 s2) := by
              rw [setL_at hsl, if_neg (by omega), if_pos (by simpa using hq), List.getElem?_map, show p + q - p = q by omega, y1]; rfl
            rw [e9, innR_own this (ownL_ne h9)] at he2; cases he2
        refine ⟨?_, mv⟩
        rw [e, hC]
        cases hr9 : innR (some (Row.deep tr ds)) (innB k) with
        | none => rfl
        | some row =>
          obtain ⟨u', n', l', d1, d2, _⟩ := innR_some hr9
          by_cases hin : p ≤ innB k ∧ innB k < p + zs.length
          · have := hn3 (innB k - p) _ (by omega) (by rw [show p + (innB k - p) = innB k by omega]; exact d1)
            rw [this] at d2; cases d2
          · have : (setL ds p (zs.map Prod.fst))[innB k]? = some (.list u' n' l') := by
              rw [setL_at hsl, List.length_map]
              split
              · exact d1
              · rw [if_neg (by omega)]; exact d1
            rw [innR_own this d2] at he2; cases he2
      · rename_i e
        refine ⟨?_, fun q _ _ e' => by rw [f1] at e'; exact e (inn_inj f2 hb e').1⟩
        split at he2
        · rename_i hm
          exact innR_plain (hgone _ (by simpa using hm)).2.1
        · exact he2
    exact ⟨old.1, by rw [m3 k hkid, a3 k old.2]⟩
  · rw [m3 k (fun e => by rw [e] at hk; exact hk hb), a3 k (fun q hq _ e => he' (by rw [e]; exact (hfree q hq).1))]
  · rw [hupd]
    split
    · rename_i e; rw [e, hC] at g1; cases g1
    · split
      · rfl
      · exact g1
end
end Go.Proofs.Ytjleempapphlhab.Mini
end
