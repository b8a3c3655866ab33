/- Parts of the proof: Mini3. -/
import Derived.Test.YtjleempapphlhabGeMini2
section
namespace Go.Proofs.Ytjleempapphlhab.Mini
open Go Go.RowKit
set_option linter.unusedVariables false
def absZ : Value → A
  | .int k n => .d (.int k n)
  | .bool b => .d (.bool b)
  | .string s => .d (.str s)
  | .slice none 0 0 => .nil
  | _ => .any
def absC (v : Value) : AV :=
  match v with
  | .agg cs => .v (.agg (cs.toList.map absZ))
  | _ => .v (.one (absZ v))
def V1.cells : V1 → Option (List A)
  | .one a => if a.known = true then some [a] else none
  | .agg l => some l
def A.toD : A → Option D
  | .d x => some x
  | .nil => some (.list 0 0 [])
  | _ => none
def toDs : List A → Option (List D)
  | [] => some []
  | a :: l => match a.toD, toDs l with | some d, some ds => some (d :: ds) | _, _ => none
def rowD : Row → Option (List D)
  | .fix _ cs => toDs cs
  | .sym _ ds => some ds
  | .deep _ _ => none
section
variable {P : Program} {κ : Kr}
theorem gA_absZ (v : Value) : gA P κ (absZ v) v := by
  unfold absZ
  split
  · show gD P κ.z _ _; unfold gD; rfl
  · show gD P κ.z _ _; unfold gD; rfl
  · show gD P κ.z _ _; unfold gD; rfl
  · rfl
  · trivial
theorem gL_absZ : ∀ l : List Value, gL P κ (l.map absZ) l
  | [] => trivial
  | v :: l => ⟨gA_absZ v, gL_absZ l⟩
theorem absC_sound (v : Value) : gAV P κ (absC v) v := by
  unfold absC
  split
  · exact ⟨_, rfl, gL_absZ _⟩
  · exact gA_absZ _
theorem V1.cells_sound {x : V1} {v : Value} {l : List A} (h : x.cells = some l) (hg : gV1 P κ x v) : gL P κ l v.cells.toList := by
  cases x with
  | one a =>
    by_cases hk : a.known = true
    case neg => simp [V1.cells, hk] at h
    simp [V1.cells, hk] at h
    subst h
    have h3 := gA.one hk hg
    have h4 : v.cells = #[v] := by cases v <;> first | rfl | simp [Value.oneCell'] at h3
    rw [h4]
    exact ⟨hg, trivial⟩
  | agg m =>
    obtain ⟨cs, rfl, h1⟩ := hg
    simp [V1.cells] at h
    subst h
    exact h1
theorem A.toD_sound {a : A} {d : D} {v : Value} (h : a.toD = some d) (hg : gA P κ a v) : gD P κ.z d v := by
  cases a <;> simp [A.toD] at h
  · subst h; exact hg
  · subst h
    rw [show v = _ from hg]
    unfold gD
    exact ⟨none, 0, rfl, Nat.le_refl _, by simp, .inl rfl⟩
theorem toDs_at : ∀ {l : List A} {ds : List D}, toDs l = some ds → l.length = ds.length ∧ ∀ (j : Nat) (d : D), ds[j]? = some d → ∃ a, l[j]? = some a ∧ a.toD = some d
  | [], ds, h => by simp [toDs] at h; subst h; exact ⟨rfl, fun j d h => by simp at h⟩
  | a :: l, ds, h => by
    unfold toDs at h
    split at h <;> try (cases h; done)
    rename_i d ds' h1 h2
    injection h with h; subst h
    obtain ⟨g1, g2⟩ := toDs_at h2
    refine ⟨by simp [g1], fun j d' hd => ?_⟩
    cases j with
    | zero => simp at hd; subst hd; exact ⟨a, rfl, h1⟩
    | succ j => simpa using g2 j d' (by simpa using hd)
theorem rowD_at {row : Row} {ds : List D} (h : rowD row = some ds) : row.as.length = ds.length ∧ ∀ (j : Nat) (d : D), ds[j]? = some d → ∃ a, row.as[j]? = some a ∧ a.toD = some d := by
  cases row with
  | fix t cs => exact toDs_at h
  | sym t l =>
    simp [rowD] at h
    subst h
    exact ⟨by simp [Row.as], fun j d hd => ⟨.d d, by simp [Row.as, hd], rfl⟩⟩
  | deep t l => cases h
/-- The cells of a row, as they lie. -/
theorem RowIn.ds {w : World} {id : Nat} {row : Row} {ds : List D} (h : RowIn P κ w id row) (hd : rowD row = some ds) :
    (κ.at_ id = none ∧ ds = []) ∨ ∃ b o N arr, κ.at_ id = some (b, o, N) ∧ κ.z b = none ∧ w.heap[b]? = some (.cells arr row.t (0, 0)) ∧ arr.size = N ∧ o + ds.length ≤ N ∧ ∀ (j : Nat) (d : D), ds[j]? = some d → ∃ x, arr[o + j]? = some x ∧ gD P κ.z d x := by
  obtain ⟨g1, g2⟩ := rowD_at hd
  rcases h with ⟨h1, h2⟩ | ⟨b, o, N, arr, h1, h2, h3, h4, h5, h6⟩
  · exact .inl ⟨h1, List.eq_nil_of_length_eq_zero (by rw [← g1, h2]; rfl)⟩
  · refine .inr ⟨b, o, N, arr, h1, h2, h3, h4, by omega, fun j d hj => ?_⟩
    obtain ⟨a, k1, k2⟩ := g2 j d hj
    obtain ⟨x, k3, k4⟩ := h6 j a k1
    exact ⟨x, k3, A.toD_sound k2 k4⟩
end
def fieldOf (P : Program) (s : Nat) (f : Nat) : Option (Nat × Ti) :=
  match ti P s with
  | some e => match e.und with
    | .struct fs => match fs[f]? with
      | some fd => match ti P fd.type with
        | some g => some (fd.offset, g)
        | none => none
      | none => none
    | _ => none
  | none => none
def mField (P : Program) (e : Operand → AV) (s : Nat) (x : Operand) (f : Nat) : R :=
  match fieldOf P s f, e x with
  | some (o, g), .v (.agg l) =>
    if Typ.isStruct g.und = true then if o + g.size ≤ l.length then some ([], .v (.agg ((l.drop o).take g.size)), []) else none
    else if Typ.isFlat g.und = true then (match l[o]? with | some a => some ([], one a, []) | none => none) else none
  | _, _ => none
def mFieldAddr (P : Program) (e : Operand → AV) (s : Nat) (x : Operand) (f : Nat) : R :=
  match fieldOf P s f, e x with
  | some (o, _), .v (.one (.ptr id off)) => some ([], one (.ptr id (off + o)), [])
  | some (o, _), .v (.one (.pe u id i j)) => some ([], one (.pe u id i (j + o)), [])
  | some (o, _), .v (.one (.rp u ds i j)) => some ([], one (.rp u ds i (j + o)), [])
  | _, _ => none
def placesOf (P : Program) : List Field → Option (List (Nat × Nat))
  | [] => some []
  | f :: fs => match ti P f.type, placesOf P fs with
    | some g, some l => some ((f.offset, g.size) :: l)
    | _, _ => none
def afill (pl : Nat → Option (Nat × Nat)) : List A → List (Nat × AV) → Option (List A)
  | acc, [] => some acc
  | acc, (i, x) :: rest =>
    match pl i, x with
    | some (off, size), .v y => match y.cells with
      | some l => if l.length = size ∧ off + l.length ≤ acc.length then afill pl (acc.take off ++ l ++ acc.drop (off + l.length)) rest else none
      | none => none
    | _, _ => none
def mBuild (P : Program) (e : Operand → AV) (t : Nat) (parts : Array (Nat × Operand)) : R :=
  match ti P t with
  | some et => match et.und with
    | .struct fs => match placesOf P fs.toList with
      | some pl => match afill (fun i => pl[i]?) (et.zero.cells.toList.map absZ) (parts.toList.map fun p => (p.1, e p.2)) with
        | some l => some ([], .v (.agg l), [])
        | none => none
      | none => none
    | _ => none
  | none => none
def mAlloc (P : Program) (t nb : Nat) : R :=
  match ti P t with
  | some et => some ([], one (.ptr nb 0), [(nb, some (.fix t (et.zero.cells.toList.map absZ)))])
  | none => none
section
variable {P : Program} {w0 : Bs} {κ : Kr} {C : Cs} {w : World} {ρ : Operand → Value} {e : Operand → AV} {ns : List Prop} {av : AV} {us : Us}
theorem fieldOf_spec {s f o : Nat} {g : Ti} (h : fieldOf P s f = some (o, g)) :
    ∃ fs fd, P.underlying s = some (.struct fs) ∧ fs[f]? = some fd ∧ fd.offset = o ∧ ti P fd.type = some g := by
  unfold fieldOf at h
  split at h <;> try (cases h; done)
  rename_i es hs
  split at h <;> try (cases h; done)
  rename_i fs hfs
  split at h <;> try (cases h; done)
  rename_i fd hfd
  split at h <;> try (cases h; done)
  rename_i g' hg
  injection h with h
  injection h with h1 h2
  subst h2
  have hu := (ti_spec hs).1
  rw [hfs] at hu
  exact ⟨fs, fd, hu, hfd, h1, hg⟩
theorem s_field (hi : Inv P w0 κ C w) (he : ∀ x, gAV P κ (e x) (ρ x)) {s f : Nat} {x : Operand} (h : mField P e s x f = some (ns, av, us)) :
    Yields P w0 κ C ((do pure (.value (← Instr.field s (ρ x) f)) : Sem Next).run P w) av us := by
  unfold mField at h
  have hx := he x
  split at h <;> try (cases h; done)
  rename_i o g l hf ex
  rw [ex] at hx
  obtain ⟨cs, h1, h2⟩ := hx
  rw [h1]
  obtain ⟨fs, fd, hu, hfd, ho, hg⟩ := fieldOf_spec hf
  obtain ⟨hug, ⟨i, j1, j2, j3, j4⟩, _⟩ := ti_spec hg
  have hlen := h2.len
  split at h
  · rename_i hst
    obtain ⟨fs', hfs'⟩ := Typ.isStruct_not hst
    split at h <;> try (cases h; done)
    rename_i hle
    injection h with h
    injection h with h3 h4
    injection h4 with h4 h5
    subst h3; subst h4; subst h5
    have hr : (do pure (.value (← Instr.field s (.agg cs) f)) : Sem Next).run P w = .ok (.value (.agg (cs.extract o (o + g.size)))) w := by
      simp [Instr.field, run_underlying hu, hfd, asAgg, part, isAgg, run_underlying hug, hfs', sizeOf, Typ.run_info j1, j2, ho]
    rw [hr]
    refine .val hi ⟨_, rfl, ?_⟩
    have : (cs.extract o (o + g.size)).toList = (cs.toList.drop o).take g.size := by simp [List.extract_eq_take_drop]
    rw [this]
    exact (h2.drop o).take _
  · split at h <;> try (cases h; done)
    rename_i hfl
    split at h <;> try (cases h; done)
    rename_i a ha
    injection h with h
    injection h with h3 h4
    injection h4 with h4 h5
    subst h3; subst h4; subst h5
    obtain ⟨v, hv, hgv⟩ := h2.at ha
    have hv2 : cs[o]? = some v := by rw [← Array.getElem?_toList]; exact hv
    have hr : (do pure (.value (← Instr.field s (.agg cs) f)) : Sem Next).run P w = .ok (.value v) w := by
      cases hd : g.und <;> rw [hd] at hfl hug <;> simp [Typ.isFlat] at hfl <;> simp [Instr.field, run_underlying hu, hfd, asAgg, part, isAgg, run_underlying hug, ho, hv2]
    rw [hr]
    exact .val hi hgv
theorem fieldAt_run {s f o : Nat} {g : Ti} {fs : Array Field} {fd : Field} (hu : P.underlying s = some (.struct fs)) (hfd : fs[f]? = some fd) (ho : fd.offset = o) (hg : ti P fd.type = some g) (b p : Nat) :
    (do pure (.value (← Instr.fieldAt s (.pointer (some ⟨b, p, none⟩)) f)) : Sem Next).run P w = .ok (.value (.pointer (some ⟨b, p + o, none⟩))) w := by
  obtain ⟨hug, ⟨i, j1, j2, j3, j4⟩, hs1, _⟩ := ti_spec hg
  have hz : ¬ i.size = 0 := by omega
  simp [Instr.fieldAt, run_underlying hu, hfd, Instr.sureAddr, fieldPlace, sizeOf, Typ.run_info j1, hz, Typ.addr_add, ho]
theorem s_fieldAddr (hi : Inv P w0 κ C w) (he : ∀ x, gAV P κ (e x) (ρ x)) {s f : Nat} {x : Operand} (h : mFieldAddr P e s x f = some (ns, av, us)) :
    Yields P w0 κ C ((do pure (.value (← Instr.fieldAt s (ρ x) f)) : Sem Next).run P w) av us := by
  unfold mFieldAddr at h
  have hx := he x
  split at h <;> try (cases h; done)
  all_goals
    rename_i hf ex
    rw [ex] at hx
    obtain ⟨fs, fd, hu, hfd, ho, hg⟩ := fieldOf_spec hf
    injection h with h
    injection h with h3 h4
    injection h4 with h4 h5
    subst h3; subst h4; subst h5
  · obtain ⟨b, o1, N, h1, h2⟩ := hx
    rw [h2, fieldAt_run hu hfd ho hg]
    exact .val hi ⟨b, o1, N, h1, by rw [Nat.add_assoc]⟩
  · obtain ⟨b, o1, N, h1, h2⟩ := hx
    rw [h2, fieldAt_run hu hfd ho hg]
    exact .val hi ⟨b, o1, N, h1, by rw [Nat.add_assoc, Nat.add_assoc]⟩
  · obtain ⟨b, o1, arr, ty, fr, h2, h1⟩ := hx
    rw [h2, fieldAt_run hu hfd ho hg]
    exact .val hi ⟨b, o1, arr, ty, fr, by rw [Nat.add_assoc, Nat.add_assoc], h1⟩
theorem places_run : ∀ (fs : List Field) (pl : List (Nat × Nat)), placesOf P fs = some pl →
    (fs.mapM (fun f => do pure (f.offset, ← sizeOf f.type)) : Sem (List (Nat × Nat))).run P w = .ok pl w
  | [], pl, h => by simp [placesOf] at h; subst h; rfl
  | f :: fs, pl, h => by
    unfold placesOf at h
    split at h <;> try (cases h; done)
    rename_i g l hg hl
    injection h with h; subst h
    obtain ⟨hu, ⟨i, j1, j2, _⟩, _⟩ := ti_spec hg
    have ih := places_run fs l hl
    rw [List.mapM_cons]
    simp [sizeOf, Typ.run_info j1, j2] at ih ⊢
    simp [ih]
theorem fill_sound {pl place : Nat → Option (Nat × Nat)} (hp : ∀ i, place i = pl i) : ∀ (parts : List (Nat × AV)) (vs : List (Nat × Value)) (acc l : List A) (cs : Array Value),
    parts.length = vs.length → (∀ (k i : Nat) (x : AV), parts[k]? = some (i, x) → ∃ v, vs[k]? = some (i, v) ∧ gAV P κ x v) → gL P κ acc cs.toList → afill pl acc parts = some l →
    ∃ cs', Instr.fill place cs vs = some cs' ∧ gL P κ l cs'.toList
  | [], [], acc, l, cs, _, _, hg, h => by
    injection h with h; subst h
    exact ⟨cs, rfl, hg⟩
  | [], _ :: _, _, _, _, hl, _, _, _ => by simp at hl
  | _ :: _, [], _, _, _, hl, _, _, _ => by simp at hl
  | (i, x) :: parts, (j, v) :: vs, acc, l, cs, hl, hps, hg, h => by
    obtain ⟨v', h1, h2⟩ := hps 0 i x rfl
    injection h1 with h1
    injection h1 with h3 h4
    subst h3; subst h4
    unfold afill at h
    split at h <;> try (cases h; done)
    rename_i off size y hpl
    split at h <;> try (cases h; done)
    rename_i lc hlc
    split at h <;> try (cases h; done)
    rename_i hc
    have hcl := V1.cells_sound hlc h2
    have n1 := hcl.len
    have n2 := hg.len
    simp at n1 n2
    have hsz : off + v.cells.size ≤ cs.size := by omega
    unfold Instr.fill
    rw [hp, hpl]
    simp only
    rw [if_neg (show ¬ ((decide (v.cells.size ≠ size) || decide (off + v.cells.size > cs.size)) = true) by simp; omega)]
    refine fill_sound hp parts vs _ l _ (by simpa using hl) (fun k i x hk => hps (k + 1) i x (by simpa using hk)) ?_ h
    rw [Typ.fill_one off v cs hsz]
    rw [n1]
    exact ((hg.take off).append hcl).append (hg.drop _)
theorem parts_map (he : ∀ x, gAV P κ (e x) (ρ x)) (ps : List (Nat × Operand)) : ∀ (k i : Nat) (x : AV), (ps.map fun p => (p.1, e p.2))[k]? = some (i, x) → ∃ v, (ps.map fun p => (p.1, ρ p.2))[k]? = some (i, v) ∧ gAV P κ x v := by
  intro k i x hk
  rw [List.getElem?_map] at hk
  cases hp : ps[k]? with
  | none => rw [hp] at hk; cases hk
  | some p =>
    rw [hp] at hk
    injection hk with hk
    injection hk with h1 h2
    subst h1; subst h2
    exact ⟨ρ p.2, by rw [List.getElem?_map, hp]; rfl, he p.2⟩
theorem s_build (hi : Inv P w0 κ C w) (he : ∀ x, gAV P κ (e x) (ρ x)) {t : Nat} {parts : Array (Nat × Operand)} (h : mBuild P e t parts = some (ns, av, us)) :
    Yields P w0 κ C ((do pure (.value (← Instr.build t (parts.map fun (i, x) => (i, ρ x)))) : Sem Next).run P w) av us := by
  unfold mBuild at h
  split at h <;> try (cases h; done)
  rename_i et ht
  split at h <;> try (cases h; done)
  rename_i fs hfs
  split at h <;> try (cases h; done)
  rename_i pl hpl
  split at h <;> try (cases h; done)
  rename_i l hl
  injection h with h
  injection h with h3 h4
  injection h4 with h4 h5
  subst h3; subst h4; subst h5
  obtain ⟨hut, ⟨i, j1, j2, j3, j4⟩, _⟩ := ti_spec ht
  rw [hfs] at hut
  obtain ⟨cs', f1, f2⟩ := fill_sound (κ := κ) (place := (pl.toArray[·]?)) (fun i => by simp) _ (parts.toList.map fun p => (p.1, ρ p.2)) _ l et.zero.cells (by simp) (parts_map he parts.toList) (gL_absZ _) hl
  have hpr := places_run (P := P) (w := w) fs.toList pl hpl
  have hpr' : (fs.mapM (fun f => do pure (f.offset, ← sizeOf f.type)) : Sem (Array (Nat × Nat))).run P w = .ok pl.toArray w := by
    rw [Array.mapM_eq_mapM_toList]
    simp only [Sem.run_map, hpr]
    rfl
  have hr : (do pure (.value (← Instr.build t (parts.map fun (i, x) => (i, ρ x)))) : Sem Next).run P w = .ok (.value (.agg cs')) w := by
    have hm : (parts.map fun (i, x) => (i, ρ x)).toList = parts.toList.map fun p => (p.1, ρ p.2) := by simp
    simp only [Instr.build, Sem.run_bind, zeroValue, Typ.run_info j1, j4, Result.andThen_ok, run_underlying hut, Sem.run_pure, hpr', hm]
    rw [f1]
    rfl
  rw [hr]
  exact .val hi ⟨cs', rfl, f2⟩
theorem upd_one (C : Cs) (id : Nat) (r : Option Row) (k : Nat) : upd C [(id, r)] k = if k = id then r else C k := rfl
theorem put_other {κ : Kr} {id : Nat} {x : Nat × Nat × Nat} {k : Nat} (h : k ≠ id) : (κ.put id x).at_ k = κ.at_ k := by unfold Kr.put; simp only; rw [if_neg h]
theorem s_alloc (hi : Inv P w0 κ C w) {t nb : Nat} (h : mAlloc P t nb = some (ns, av, us)) (hC : C nb = none) (hA : κ.at_ nb = none) :
    Yields P w0 κ C ((do pure (.value (← Instr.alloc t true (.tuple #[]))) : Sem Next).run P w) av us := by
  unfold mAlloc at h
  split at h <;> try (cases h; done)
  rename_i et ht
  injection h with h
  injection h with h3 h4
  injection h4 with h4 h5
  subst h3; subst h4; subst h5
  obtain ⟨hu, ⟨i, h1, h2, h3, h4⟩, _⟩ := ti_spec ht
  obtain ⟨hle, hinv⟩ := hi.alloc hC hA (.fix t (et.zero.cells.toList.map absZ)) et.zero.cells (by simp [Row.as]) (fun j a ha => by
    obtain ⟨x, g1, g2⟩ := (gL_absZ (P := P) (κ := κ) et.zero.cells.toList).at ha
    exact ⟨x, by rw [← Array.getElem?_toList]; exact g1, g2⟩)
  refine ⟨_, _, _, ?_, hle, hinv, fun k hk => put_other (fun e => hk _ (List.mem_singleton.mpr rfl) e.symm), .inl ⟨.pointer (some ⟨w.heap.size, 0, none⟩), rfl, w.heap.size, 0, _, by unfold Kr.put; simp only [if_true]; rfl, by simp⟩⟩
  simp [Instr.alloc, zeroValue, Typ.run_info h1, h4, newVar, newRow, Row.t]
end
inductive Kd where
  | int (k : IntKind)
  | bool
  | str
  | list (t : Nat)
  deriving DecidableEq
def kinds (P : Program) : Nat → Nat → Option (List Kd)
  | 0, _ => none
  | f + 1, t => match P.underlying t with
    | some (.int k) => some [.int k]
    | some .bool => some [.bool]
    | some .string => some [.str]
    | some (.slice el) => some [.list el]
    | some (.struct fs) => fs.toList.foldr (fun fd acc => match kinds P f fd.type, acc with | some a, some b => some (a ++ b) | _, _ => none) (some [])
    | _ => none
def selI (ds : List D) (j : Nat) : Int := match ds[j]? with | some (.int _ n) => n | _ => 0
def selB (ds : List D) (j : Nat) : Bool := match ds[j]? with | some (.bool b) => b | _ => false
def selS (ds : List D) (j : Nat) : ByteArray := match ds[j]? with | some (.str s) => s | _ => ByteArray.empty
def selN (ds : List D) (j : Nat) : Nat := match ds[j]? with | some (.list _ n _) => n | _ => 0
def selL (ds : List D) (j : Nat) : List D := match ds[j]? with | some (.list _ _ l) => l | _ => []
def sel (ds : List D) (j : Nat) : Kd → D
  | .int k => .int k (selI ds j)
  | .bool => .bool (selB ds j)
  | .str => .str (selS ds j)
  | .list t => .list t (selN ds j) (selL ds j)
/-- Cells that are read: what must hold of them, what they are. -/
def needK (ds : List D) (j : Nat) : Kd → Prop
  | .list t => ds[j]? = some (.list t (selN ds j) (selL ds j)) ∨ ds[j]? = some (.list 0 0 [])
  | k => ds[j]? = some (sel ds j k)
def needs (ds : List D) : Nat → List Kd → List Prop
  | _, [] => []
  | j, k :: ks => needK ds j k :: needs ds (j + 1) ks
def sels (ds : List D) : Nat → List Kd → List A
  | _, [] => []
  | j, k :: ks => .d (sel ds j k) :: sels ds (j + 1) ks
def loadD (P : Program) (et : Ti) (t : Nat) (ds : List D) (j : Nat) : R :=
  match kinds P 6 t with
  | some ks => if ks.length = et.size then
      if Typ.isStruct et.und = true then some (needs ds j ks, .v (.agg (sels ds j ks)), [])
      else if Typ.isFlat et.und = true then (match ks with | [k] => some ([needK ds j k], one (.d (sel ds j k)), []) | _ => none) else none
    else none
  | none => none
def mLoad (P : Program) (e : Operand → AV) (g : Cs) (t : Nat) (x : Operand) : R :=
  match e x, ti P t with
  | .v (.one (.ptr id off)), some et =>
    match g id with
    | some (.fix _ cs) =>
      if Typ.isStruct et.und = true then if off + et.size ≤ cs.length then some ([], .v (.agg ((cs.drop off).take et.size)), []) else none
      else if Typ.isFlat et.und = true then (match cs[off]? with | some a => some ([], one a, []) | none => none) else none
    | _ => none
  | .v (.one (.pe u id i j)), some et =>
    match g id with
    | some row => match rowD row with
      | some ds => loadD P et t ds (i * sz P u + j)
      | none => none
    | none => none
  | .v (.one (.rp u ds i j)), some et => loadD P et t ds (i * sz P u + j)
  | _, _ => none
section
variable {P : Program} {w0 : Bs} {κ : Kr} {C : Cs} {w : World} {ρ : Operand → Value} {e : Operand → AV} {ns : List Prop} {av : AV} {us : Us}
theorem cell_of {b i : Nat} {arr : Array Value} {ty : TypeId} {fr : Nat × Nat} {x : Value} (h : w.heap[b]? = some (.cells arr ty fr)) (hx : arr[i]? = some x) : w.cell? ⟨b, i, none⟩ = some x := by simp [World.cell?, h, hx]
theorem run_load_struct {t b p : Nat} {arr : Array Value} {ty : TypeId} {fr : Nat × Nat} {et : Ti} (ht : ti P t = some et) (hst : Typ.isStruct et.und = true) (h : w.heap[b]? = some (.cells arr ty fr)) (vs : List Value) (hl : vs.length = et.size)
    (hv : ∀ (j : Nat) (x : Value), vs[j]? = some x → arr[p + j]? = some x) : (loadVar t ⟨b, p, none⟩).run P w = .ok (.agg vs.toArray) w := by
  obtain ⟨hu, ⟨i, j1, j2, j3, j4⟩, _⟩ := ti_spec ht
  obtain ⟨fs, hfs⟩ := Typ.isStruct_not hst
  have := run_loadCells_list (P := P) w ⟨b, p, none⟩ vs (fun j v hj => by
    rw [Typ.addr_add]
    exact cell_of h (hv j v hj))
  rw [hl] at this
  simp [loadVar, isAgg, run_underlying hu, hfs, sizeOf, Typ.run_info j1, j2, this]
theorem run_load_flat {t b p : Nat} {arr : Array Value} {ty : TypeId} {fr : Nat × Nat} {et : Ti} {x : Value} (ht : ti P t = some et) (hfl : Typ.isFlat et.und = true) (h : w.heap[b]? = some (.cells arr ty fr)) (hx : arr[p]? = some x) :
    (loadVar t ⟨b, p, none⟩).run P w = .ok x w := by
  have hu := (ti_spec ht).1
  have hc := cell_of h hx
  cases hd : et.und <;> rw [hd] at hfl hu <;> simp [Typ.isFlat] at hfl <;> simp [loadVar, isAgg, run_underlying hu, hc]
theorem gD_nil {z : Nat → Option Obj} {t : Nat} {v : Value} (h : gD P z (.list 0 0 []) v) : gD P z (.list t 0 []) v := by
  unfold gD at h ⊢
  obtain ⟨Ad, c, h1, h2, _, _⟩ := h
  exact ⟨Ad, c, h1, h2, by simp, .inl rfl⟩
/-- What is read of a cell that is as it must be. -/
theorem needK_sel {z : Nat → Option Obj} {ds : List D} {j : Nat} {k : Kd} (h : needK ds j k) : ∃ d, ds[j]? = some d ∧ ∀ v, gD P z d v → gD P z (sel ds j k) v := by
  cases k with
  | list t =>
    rcases h with h | h
    · exact ⟨_, h, fun _ hv => hv⟩
    · refine ⟨_, h, fun v hv => ?_⟩
      have e1 : selN ds j = 0 := by unfold selN; rw [h]
      have e2 : selL ds j = [] := by unfold selL; rw [h]
      show gD P z (.list t (selN ds j) (selL ds j)) v
      rw [e1, e2]; exact gD_nil hv
  | _ => exact ⟨_, h, fun _ hv => hv⟩
theorem needs_sels {z : Nat → Option Obj} {ds : List D} {arr : Array Value} {o : Nat} (hd : ∀ (j : Nat) (d : D), ds[j]? = some d → ∃ x, arr[o + j]? = some x ∧ gD P z d x) {κ : Kr} (hz : κ.z = z) :
    ∀ (ks : List Kd) (j : Nat), all_ (needs ds j ks) → ∃ vs : List Value, vs.length = ks.length ∧ (∀ (q : Nat) (x : Value), vs[q]? = some x → arr[o + j + q]? = some x) ∧ gL P κ (sels ds j ks) vs
  | [], j, _ => ⟨[], rfl, fun q x h => by simp at h, trivial⟩
  | k :: ks, j, ⟨h1, h2⟩ => by
    obtain ⟨d, hd1, hd2⟩ := needK_sel (P := P) (z := z) h1
    obtain ⟨x, h3, h4⟩ := hd j d hd1
    obtain ⟨vs, g1, g2, g3⟩ := needs_sels hd hz ks (j + 1) h2
    refine ⟨x :: vs, by simp [g1], fun q y hq => ?_, ?_, g3⟩
    · cases q with
      | zero => simp at hq; subst hq; exact h3
      | succ q =>
        have := g2 q y (by simpa using hq)
        rw [show o + j + (q + 1) = o + (j + 1) + q by omega]; exact this
    · show gD P κ.z _ _
      rw [hz]; exact hd2 _ h4
theorem loadD_sound {et : Ti} {t b o j : Nat} {ds : List D} {arr : Array Value} {ty : TypeId} {fr : Nat × Nat} (hi : Inv P w0 κ C w) (ht : ti P t = some et) (h : loadD P et t ds j = some (ns, av, us)) (hn : all_ ns)
    (hb : w.heap[b]? = some (.cells arr ty fr)) (hd : ∀ (j : Nat) (d : D), ds[j]? = some d → ∃ x, arr[o + j]? = some x ∧ gD P κ.z d x) :
    ∃ v, (loadVar t ⟨b, o + j, none⟩).run P w = .ok v w ∧ gAV P κ av v ∧ us = [] := by
  unfold loadD at h
  split at h <;> try (cases h; done)
  rename_i ks hks
  split at h <;> try (cases h; done)
  rename_i hlen
  split at h
  · rename_i hst
    injection h with h
    injection h with h3 h4
    injection h4 with h4 h5
    subst h3; subst h4; subst h5
    obtain ⟨vs, g1, g2, g3⟩ := needs_sels hd rfl ks j hn
    exact ⟨_, run_load_struct ht hst hb vs (by omega) g2, ⟨_, rfl, by simpa using g3⟩, rfl⟩
  · split at h <;> try (cases h; done)
    rename_i hfl
    split at h <;> try (cases h; done)
    rename_i k _
    injection h with h
    injection h with h3 h4
    injection h4 with h4 h5
    subst h3; subst h4; subst h5
    obtain ⟨d, hd1, hd2⟩ := needK_sel (P := P) (z := κ.z) hn.1
    obtain ⟨x, g1, g2⟩ := hd j d hd1
    exact ⟨x, run_load_flat ht hfl hb g1, hd2 _ g2, rfl⟩
theorem s_load0 (hi : Inv P w0 κ C w) (he : ∀ x, gAV P κ (e x) (ρ x)) {g : Cs} (hg : ∀ id row, g id = some row → C id = some row) {t : Nat} {x : Operand} (h : mLoad P e g t x = some (ns, av, us)) (hn : all_ ns) :
    ∃ a v, ρ x = .pointer (some a) ∧ (loadVar t a).run P w = .ok v w ∧ gAV P κ av v ∧ us = [] := by
  unfold mLoad at h
  have hx := he x
  split at h <;> try (cases h; done)
  · rename_i id off et ex ht
    rw [ex] at hx
    obtain ⟨b, o, N, h1, h2⟩ := hx
    split at h <;> try (cases h; done)
    rename_i u cs hrow
    rcases hi.live id _ (hg _ _ hrow) with ⟨g1, _⟩ | ⟨b2, o2, N2, arr, g1, g2, g3, g4, g5, g6⟩
    · rw [g1] at h1; cases h1
    rw [g1] at h1
    injection h1 with h1
    injection h1 with e1 e2
    injection e2 with e2 e3
    subst e1; subst e2; subst e3
    rw [h2]
    split at h
    · rename_i hst
      split at h <;> try (cases h; done)
      rename_i hle
      injection h with h
      injection h with h3 h4
      injection h4 with h4 h5
      subst h3; subst h4; subst h5
      have hall : ∃ vs : List Value, vs.length = et.size ∧ (∀ (q : Nat) (x : Value), vs[q]? = some x → arr[o2 + off + q]? = some x) ∧ gL P κ ((cs.drop off).take et.size) vs := by
        refine ⟨(arr.toList.drop (o2 + off)).take et.size, ?_, fun q x hq => ?_, gL.of ?_ (fun q a hq => ?_)⟩
        · change o2 + cs.length ≤ N2 at g5
          simp; omega
        · have hql := (List.getElem?_eq_some_iff.mp hq).1
          simp at hql
          rw [List.getElem?_take_of_lt (by omega), List.getElem?_drop] at hq
          simpa using hq
        · change o2 + cs.length ≤ N2 at g5
          simp; omega
        · have hql := (List.getElem?_eq_some_iff.mp hq).1
          simp at hql
          rw [List.getElem?_take_of_lt (by omega), List.getElem?_drop] at hq
          obtain ⟨x, k1, k2⟩ := g6 _ a hq
          refine ⟨x, ?_, k2⟩
          rw [List.getElem?_take_of_lt (by omega), List.getElem?_drop]
          rw [show o2 + off + q = o2 + (off + q) by omega]
          simpa using k1
      obtain ⟨vs, k1, k2, k3⟩ := hall
      exact ⟨_, _, rfl, run_load_struct ht hst g3 vs k1 k2, ⟨_, rfl, by simpa using k3⟩, rfl⟩
    · split at h <;> try (cases h; done)
      rename_i hfl
      split at h <;> try (cases h; done)
      rename_i a ha
      injection h with h
      injection h with h3 h4
      injection h4 with h4 h5
      subst h3; subst h4; subst h5
      obtain ⟨x, k1, k2⟩ := g6 _ a ha
      exact ⟨_, _, rfl, run_load_flat ht hfl g3 k1, k2, rfl⟩
  · rename_i u id i j et ex ht
    rw [ex] at hx
    obtain ⟨b, o, N, h1, h2⟩ := hx
    split at h <;> try (cases h; done)
    rename_i row hrow
    split at h <;> try (cases h; done)
    rename_i ds hds
    rcases (hi.live id _ (hg _ _ hrow)).ds hds with ⟨g1, _⟩ | ⟨b2, o2, N2, arr, g1, g2, g3, g4, g5, g6⟩
    · rw [g1] at h1; cases h1
    rw [g1] at h1
    injection h1 with h1
    injection h1 with e1 e2
    injection e2 with e2 e3
    subst e1; subst e2; subst e3
    rw [h2]
    obtain ⟨v, k1, k2, k3⟩ := loadD_sound hi ht h hn g3 g6
    exact ⟨_, v, rfl, k1, k2, k3⟩
  · rename_i u ds i j et ex ht
    rw [ex] at hx
    obtain ⟨b, o, arr, ty, fr, h2, h3, h4⟩ := hx
    rw [h2]
    obtain ⟨v, k1, k2, k3⟩ := loadD_sound (o := o) hi ht h hn (hi.z _ _ h3) (fun q d hq => by
      obtain ⟨x, m1, m2⟩ := h4.at q d hq
      rw [List.getElem?_drop] at m1
      exact ⟨x, by simpa using m1, m2⟩)
    exact ⟨_, v, rfl, k1, k2, k3⟩
theorem s_load (hi : Inv P w0 κ C w) (he : ∀ x, gAV P κ (e x) (ρ x)) {g : Cs} (hg : ∀ id row, g id = some row → C id = some row) {t : Nat} {x : Operand} (h : mLoad P e g t x = some (ns, av, us)) (hn : all_ ns) :
    Yields P w0 κ C ((do pure (.value (← Instr.loadAt t (ρ x))) : Sem Next).run P w) av us := by
  obtain ⟨a, v, h1, h2, h3, h4⟩ := s_load0 hi he hg h hn
  subst h4
  rw [h1]
  have : (do pure (.value (← Instr.loadAt t (.pointer (some a)))) : Sem Next).run P w = .ok (.value v) w := by
    simp [Instr.loadAt, Instr.sureAddr, h2]
  rw [this]
  exact .val hi h3
end
end Go.Proofs.Ytjleempapphlhab.Mini
end
