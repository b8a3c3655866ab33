/- Parts of the proof: Mini7. -/
import Derived.Test.YtjleempapphlhabGeMini6d
section
namespace Go.Proofs.Ytjleempapphlhab.Mini
open Go Go.RowKit
set_option linter.unusedVariables false
/-- How a function's lists are treated: its results are its own; they are not to be written any more; it writes into those of its arguments. Of rd the first argument points to a struct that it writes into (its results are its own, or, with z, not to be written any more); op makes such a struct. -/
inductive Md where
  | own
  | fz
  | wr
  | rd (z : Bool)
  | op
  /-- Its first result is a list whose lists are its own, too; the others are none. -/
  | ownD
  /-- It writes into its first argument, a list of the call's own with lists of its own; the others are none. -/
  | wrD
/-- What is known of a function: the types of its parameters and results; what it asks of its arguments' cells, what its results' cells are then. -/
structure Sig where
  params : List Nat
  results : List Nat
  pre : List D → Prop
  post : List D → List D → Prop
  md : Md
def isSt (P : Program) (t : Nat) : Bool := match ti P t with | some e => Typ.isStruct e.und | none => false
/-- The kinds of a type's cells. -/
def ksOf (P : Program) (t : Nat) : Option (List Kd) :=
  match kinds P 6 t, ti P t with
  | some ks, some et => if ks.length = et.size ∧ (Typ.isStruct et.und = true ∨ ks.length = 1) then some ks else none
  | _, _ => none
def ksAll (P : Program) : List Nat → Option (List Kd)
  | [] => some []
  | t :: ts => match ksOf P t, ksAll P ts with | some a, some b => some (a ++ b) | _, _ => none
/-- Cells as values of types. -/
def splitV (P : Program) : List Nat → List A → Option (List V1)
  | [], [] => some []
  | t :: ts, as => match ksOf P t with
    | some ks => if isSt P t = true then
        if ks.length ≤ as.length then (match splitV P ts (as.drop ks.length) with | some l => some (.agg (as.take ks.length) :: l) | none => none) else none
      else match as with
        | a :: as' => (match splitV P ts as' with | some l => some (.one a :: l) | none => none)
        | [] => none
    | none => none
  | _, _ => none
def splitVal (P : Program) : List Nat → List Value → List Value → Prop
  | [], cells, vs => cells = [] ∧ vs = []
  | t :: ts, cells, v :: vs => match ksOf P t with
    | some ks => if isSt P t = true then ∃ arr : Array Value, v = .agg arr ∧ ks.length ≤ cells.length ∧ arr.toList = cells.take ks.length ∧ splitVal P ts (cells.drop ks.length) vs
      else ∃ rest, cells = v :: rest ∧ splitVal P ts rest vs
    | none => False
  | _ :: _, _, [] => False
/-- All that lies in a world. -/
def Kr.of (w : World) : Kr := ⟨fun _ => none, fun b => w.heap[b]?⟩
/-- A list of the call's own that was handed back. -/
def ownOk (P : Program) (base : Nat) (w' : World) (t n : Nat) (ds : List D) (v : Value) : Option (Nat × Nat × Nat) → Prop
  | none => ds = [] ∧ n = 0 ∧ ∃ Ad, v = .slice Ad 0 0
  | some (b, o, N) => ∃ c arr, v = .slice (some ⟨b, o, none⟩) n c ∧ n ≤ c ∧ ds.length = n * sz P t ∧ base ≤ b ∧ o + c * sz P t ≤ N ∧ w'.heap[b]? = some (.cells arr t (0, 0)) ∧ arr.size = N ∧
      ∀ (j : Nat) (d : D), ds[j]? = some d → ∃ x, arr[o + j]? = some x ∧ gD P (fun _ => none) d x
def resL (P : Program) (base : Nat) (w' : World) (ys : List D) : Nat → List Kd → List Value → List (Option (Nat × Nat × Nat)) → Prop
  | _, [], vs, bs => vs = [] ∧ bs = []
  | j, .list t :: ks, v :: vs, ob :: bs => ownOk P base w' t (selN ys j) (selL ys j) v ob ∧ resL P base w' ys (j + 1) ks vs bs
  | j, .int k :: ks, v :: vs, bs => gD P (fun _ => none) (sel ys j (.int k)) v ∧ resL P base w' ys (j + 1) ks vs bs
  | j, .bool :: ks, v :: vs, bs => gD P (fun _ => none) (sel ys j .bool) v ∧ resL P base w' ys (j + 1) ks vs bs
  | j, .str :: ks, v :: vs, bs => gD P (fun _ => none) (sel ys j .str) v ∧ resL P base w' ys (j + 1) ks vs bs
  | _, _, _, _ => False
def wrapVal : List Value → Value
  | [u] => u
  | vs => .tuple vs.toArray
/-- The results are as said. -/
def ResOk (P : Program) (w w' : World) (rts : List Nat) (ys : List D) (v : Value) : Prop :=
  ∃ ks cells vs bs, ksAll P rts = some ks ∧ all_ (needs ys 0 ks) ∧ splitVal P rts cells vs ∧ (blocks bs).Nodup ∧ resL P w.heap.size w' ys 0 ks cells bs ∧ v = wrapVal vs
/-- Cells are of the kinds that are asked for. -/
def fitK : D → Kd → Bool
  | .int k _, .int k' => k == k'
  | .bool _, .bool => true
  | .str _, .str => true
  | .list t _ _, .list t' => t == t'
  | _, _ => false
def nilTo : D → Kd → D
  | .list 0 0 [], .list t => .list t 0 []
  | d, _ => d
def fits : List D → List Kd → Bool
  | [], [] => true
  | d :: ds, k :: ks => fitK d k && fits ds ks
  | _, _ => false
def nilsTo : List D → List Kd → List D
  | d :: ds, k :: ks => nilTo d k :: nilsTo ds ks
  | ds, _ => ds
def lists : List Kd → Nat
  | [] => 0
  | .list _ :: ks => lists ks + 1
  | _ :: ks => lists ks
abbrev lists0 := lists
/-- What lies there behind a call: what was known to stay, and all that is new. -/
def zNew (zz : Nat → Option Obj) (w w' : World) : Nat → Option Obj := fun b => if b < w.heap.size then zz b else w'.heap[b]?
/-- The results are as said; their lists are not to be written any more. -/
def ResF (P : Program) (zz : Nat → Option Obj) (w w' : World) (rts : List Nat) (ys : List D) (v : Value) : Prop :=
  ∃ ks cells vs, ksAll P rts = some ks ∧ all_ (needs ys 0 ks) ∧ splitVal P rts cells vs ∧ gL P ⟨fun _ => none, zNew zz w w'⟩ (sels ys 0 ks) cells ∧ v = wrapVal vs
/-- A cell of a list of the call's own: a list in it is its own, too. -/
def cellOk (P : Program) (base : Nat) (w' : World) (d : D) (x : Value) (ob : Option (Nat × Nat × Nat)) : Prop :=
  (ownL d = true → ∃ u n l, d = .list u n l ∧ ownOk P base w' u n l x ob ∧ scal l) ∧ (ownL d = false → gD P (fun _ => none) d x ∧ ob = none)
/-- A list of the call's own whose lists are the call's own, too. -/
def deepOk (P : Program) (base : Nat) (w' : World) (t n : Nat) (ds : List D) (v : Value) : Option (Nat × Nat × Nat) → (Nat → Option (Nat × Nat × Nat)) → Prop
  | none, inner => ds = [] ∧ n = 0 ∧ (∃ Ad, v = .slice Ad 0 0) ∧ ∀ j, inner j = none
  | some (b, o, N), inner => (∃ c arr, v = .slice (some ⟨b, o, none⟩) n c ∧ n ≤ c ∧ ds.length = n * sz P t ∧ base ≤ b ∧ o + c * sz P t ≤ N ∧ w'.heap[b]? = some (.cells arr t (0, 0)) ∧ arr.size = N ∧
      ∀ (j : Nat) (d : D), ds[j]? = some d → ∃ x, arr[o + j]? = some x ∧ cellOk P base w' d x (inner j)) ∧ (∀ j, ds.length ≤ j → inner j = none) ∧
      (∀ j b' o' N', inner j = some (b', o', N') → b' ≠ b) ∧ ∀ j j' b' o' N' o2 N2, inner j = some (b', o', N') → inner j' = some (b', o2, N2) → j = j'
def ResD (P : Program) (w w' : World) (rts : List Nat) (ys : List D) (v : Value) : Prop :=
  ∃ t ks u us vs ob inner, ksAll P rts = some (.list t :: ks) ∧ lists0 ks = 0 ∧ all_ (needs ys 0 (.list t :: ks)) ∧ splitVal P rts (u :: us) vs ∧ deepOk P w.heap.size w' t (selN ys 0) (selL ys 0) u ob inner ∧ gL P ⟨fun _ => none, fun _ => none⟩ (sels ys 1 ks) us ∧ v = wrapVal vs
def ResB (P : Program) (md : Md) (zz : Nat → Option Obj) (w w' : World) (rts : List Nat) (ys : List D) (v : Value) : Prop :=
  match md with
  | .fz => ResF P zz w w' rts ys v
  | .ownD => ResD P w w' rts ys v
  | _ => ResOk P w w' rts ys v
/-- Only these blocks have changed, and new ones are there. -/
structure Wrote (w w' : World) (B : List Nat) : Prop where
  os : w'.os = w.os
  tape : w'.tape = w.tape
  output : w'.output = w.output
  size : w.heap.size ≤ w'.heap.size
  block : ∀ b, b < w.heap.size → b ∉ B → w'.heap[b]? = w.heap[b]?
/-- What lies in the lists that were written. -/
def wroteL (P : Program) (w' : World) (zs : List D) : Nat → List Kd → List Value → List (Option (Nat × Nat × Nat)) → Prop
  | _, [], vs, bs => vs = [] ∧ bs = []
  | i, .list t :: ks, v :: vs, ob :: bs => ownOk P 0 w' t (selN zs i) (selL zs i) v ob ∧ wroteL P w' zs (i + 1) ks vs bs
  | i, .int _ :: ks, _ :: vs, bs => wroteL P w' zs i ks vs bs
  | i, .bool :: ks, _ :: vs, bs => wroteL P w' zs i ks vs bs
  | i, .str :: ks, _ :: vs, bs => wroteL P w' zs i ks vs bs
  | _, _, _, _ => False
/-- What a type of pointers points to. -/
def isPtr (P : Program) (t : Nat) : Option Nat := match P.underlying t with | some (.pointer el) => some el | _ => none
/-- Cells behind a place of a block. -/
def seenAt (P : Program) (zz : Nat → Option Obj) (arr : Array Value) (o : Nat) (ds : List D) : Prop := ∀ (j : Nat) (d : D), ds[j]? = some d → ∃ x, arr[o + j]? = some x ∧ gD P zz d x
/-- What lies there behind a call, but for the lists that were handed back. -/
def zBut (zz : Nat → Option Obj) (w w' : World) (B : List Nat) : Nat → Option Obj := fun b => if b < w.heap.size then zz b else if b ∈ B then none else w'.heap[b]?
/-- The results of a call that wrote into what it was pointed to, and what lies there then. -/
def ResR (P : Program) (z : Bool) (zz : Nat → Option Obj) (w w' : World) (rts : List Nat) (ys : List D) (v : Value) (arr : Array Value) (o : Nat) (ds : List D) : Prop :=
  match z with
  | true => ResF P zz w w' rts ys v ∧ seenAt P (zNew zz w w') arr o ds
  | false => ∃ ks cells vs bs, ksAll P rts = some ks ∧ all_ (needs ys 0 ks) ∧ splitVal P rts cells vs ∧ (blocks bs).Nodup ∧ resL P w.heap.size w' ys 0 ks cells bs ∧ v = wrapVal vs ∧ seenAt P (zBut zz w w' (blocks bs)) arr o ds
def RdOk (P : Program) (f : Nat) (s : Sig) (z : Bool) : Prop :=
  ∀ (w : World) (zz : Nat → Option Obj) (vs : List Value) (pt t : Nat) (pts : List Nat) (xs : List D) (ks : List Kd) (cells : List Value) (g o : Nat) (arr : Array Value) (ds : List D), (∀ b x, zz b = some x → w.heap[b]? = some x) → zz g = none → w.heap[g]? = some (.cells arr t (0, 0)) → o + ds.length ≤ arr.size → seenAt P zz arr o ds →
    s.params = pt :: pts → isPtr P pt = some t → ksAll P pts = some ks → splitVal P pts cells vs → fits xs ks = true → gL P ⟨fun _ => none, zz⟩ (sels xs 0 ks) cells → s.pre (.list 0 0 ds :: xs) →
    Calls P f (.pointer (some ⟨g, o, none⟩) :: vs).toArray w fun e w' => ∃ v ys ds' arr', e = .returned v ∧ s.post (.list 0 0 ds :: xs) (.list 0 0 ds' :: ys) ∧ Wrote w w' [g] ∧ w'.heap[g]? = some (.cells arr' t (0, 0)) ∧ arr'.size = arr.size ∧ o + ds'.length ≤ arr'.size ∧ ResR P z zz w w' s.results ys v arr' o ds'
def OpOk (P : Program) (f : Nat) (s : Sig) : Prop :=
  ∀ (w : World) (zz : Nat → Option Obj) (vs : Array Value) (xs : List D) (ks : List Kd) (cells : List Value) (pt t : Nat), (∀ b x, zz b = some x → w.heap[b]? = some x) → s.results = [pt] → isPtr P pt = some t → ksAll P s.params = some ks → splitVal P s.params cells vs.toList → fits xs ks = true → gL P ⟨fun _ => none, zz⟩ (sels xs 0 ks) cells → s.pre xs →
    Calls P f vs w fun e w' => ∃ g arr ds', e = .returned (.pointer (some ⟨g, 0, none⟩)) ∧ s.post xs [.list 0 0 ds'] ∧ Below w.heap.size w w' ∧ w.heap.size ≤ g ∧ w'.heap[g]? = some (.cells arr t (0, 0)) ∧ ds'.length ≤ arr.size ∧ seenAt P zz arr 0 ds'
/-- The blocks of a list and of its lists. -/
def blocksD (ob : Option (Nat × Nat × Nat)) (inner : Nat → Option (Nat × Nat × Nat)) (m : Nat) : List Nat := blocks (ob :: (List.range m).map inner)
/-- The lists within a list, behind a call: where they lay they lie, or nothing lies there that is spoken of. -/
def innOk (w' : World) (ds : List D) (inner inner' : Nat → Option (Nat × Nat × Nat)) : Prop :=
  (∀ j, inner' j = none ∨ inner' j = inner j) ∧ ∀ (j b o N u n : Nat) (l : List D), inner j = some (b, o, N) → ds[j]? = some (.list u n l) → ∃ arr, w'.heap[b]? = some (.cells arr u (0, 0)) ∧ arr.size = N
def WrDOk (P : Program) (f : Nat) (s : Sig) : Prop :=
  ∀ (w : World) (vs : Array Value) (xs : List D) (t : Nat) (ks : List Kd) (u : Value) (us : List Value) (ob : Option (Nat × Nat × Nat)) (inner : Nat → Option (Nat × Nat × Nat)), ksAll P s.params = some (.list t :: ks) → lists ks = 0 → splitVal P s.params (u :: us) vs.toList → fits xs (.list t :: ks) = true →
    deepOk P 0 w t (selN xs 0) (selL xs 0) u ob inner → gL P ⟨fun _ => none, fun _ => none⟩ (sels xs 1 ks) us → s.pre xs →
    Calls P f vs w fun e w' => ∃ v ys n' ds' inner', e = .returned v ∧ s.post xs (ys ++ [.list t n' ds']) ∧ (∃ rk, ksAll P s.results = some rk ∧ lists rk = 0 ∧ ys.length = rk.length) ∧ Wrote w w' (blocksD ob inner (selL xs 0).length) ∧ innOk w' (selL xs 0) inner inner' ∧ deepOk P 0 w' t n' ds' u ob inner' ∧ ResOk P w w' s.results ys v
/-- A function answers as said. -/
def FnOk (P : Program) (f : Nat) (s : Sig) : Prop :=
  (∃ fn, P.funcs[f]? = some fn ∧ (fn.name == "runtime.NumGoroutine") = false ∧ fn.body.isNone = false) ∧
  (match s.md with
  | .wr => ∀ (w : World) (vs : Array Value) (xs : List D) (ks : List Kd) (cells : List Value) (bs : List (Option (Nat × Nat × Nat))), ksAll P s.params = some ks → splitVal P s.params cells vs.toList → fits xs ks = true → resL P 0 w xs 0 ks cells bs → (blocks bs).Nodup → s.pre xs →
    Calls P f vs w fun e w' => ∃ v ys zs, e = .returned v ∧ s.post xs (ys ++ zs) ∧ (∃ rk, ksAll P s.results = some rk ∧ lists rk = 0 ∧ ys.length = rk.length) ∧ Wrote w w' (blocks bs) ∧ wroteL P w' zs 0 ks cells bs ∧ ResOk P w w' s.results ys v
  | .rd z => RdOk P f s z
  | .op => OpOk P f s
  | .wrD => WrDOk P f s
  | _ => ∀ (w : World) (zz : Nat → Option Obj) (vs : Array Value) (xs : List D) (ks : List Kd) (cells : List Value), (∀ b x, zz b = some x → w.heap[b]? = some x) → ksAll P s.params = some ks → splitVal P s.params cells vs.toList → fits xs ks = true → gL P ⟨fun _ => none, zz⟩ (sels xs 0 ks) cells → s.pre xs →
    Calls P f vs w fun e w' => ∃ v ys, e = .returned v ∧ s.post xs ys ∧ Below w.heap.size w w' ∧ ResB P s.md zz w w' s.results ys v)
abbrev Tb := Nat → Option Sig
def FnsOk (P : Program) (F : Tb) : Prop := ∀ f s, F f = some s → FnOk P f s
inductive Tree where
  | ret (ys : List D)
  | ite (c : Bool) (t f : Tree)
  | need (p : Prop) (t : Tree)
  | call (f : Nat) (xs : List D) (k : List D → Tree)
  | goto (h : Nat) (xs : List D)
  | fail
def Tree.holds (F : Tb) (J : Nat → List D → Prop) (Q : List D → Prop) : Tree → Prop
  | .ret ys => Q ys
  | .ite c t f => (c = true → t.holds F J Q) ∧ (c = false → f.holds F J Q)
  | .need p t => p ∧ t.holds F J Q
  | .call f xs k => match F f with
    | some s => s.pre xs ∧ ∀ ys, s.post xs ys → (k ys).holds F J Q
    | none => False
  | .goto h xs => J h xs
  | .fail => False
def Tree.needs (ns : List Prop) (t : Tree) : Tree := match ns with | [] => t | _ => .need (all_ ns) t
theorem Tree.holds_needs {F : Tb} {J : Nat → List D → Prop} {Q : List D → Prop} {ns : List Prop} {t : Tree} (h : (Tree.needs ns t).holds F J Q) : all_ ns ∧ t.holds F J Q := by
  cases ns with
  | nil => exact ⟨trivial, h⟩
  | cons p ps => exact h
structure St where
  tmps : List AV
  H : List (Option Row)
def cs (H : List (Option Row)) : Cs := fun id => (H[id]?).join
def A.ids : A → List Nat
  | .sl _ id _ _ => [id]
  | .ptr id _ => [id]
  | .pe _ id _ _ => [id]
  | .isl _ id _ _ => [id]
  | _ => []
def AV.ids : AV → List Nat
  | .v (.one a) => a.ids
  | .v (.agg l) => l.flatMap A.ids
  | .tup _ => []
def opTmps (op : Op) : List Nat := op.operands.toList.filterMap fun x => match x with | .tmp t => some t | _ => none
def unl : AV → AV
  | .v (.one (.lit b)) => bool b
  | x => x
theorem unl_sound {P : Program} {κ : Kr} {av : AV} {v : Value} (h : gAV P κ av v) : gAV P κ (unl av) v := by
  unfold unl
  split
  · rename_i b
    have h1 : v = .bool b := h
    rw [h1]; exact gbool' b
  · exact h
/-- Only what moves a value hands a known truth on. -/
def keepsLit : Op → Bool
  | .move _ => true
  | .assign _ => true
  | .pick _ _ _ => true
  | _ => false
def unlE (op : Op) (e : Operand → AV) : Operand → AV := fun x => if keepsLit op = true then e x else unl (e x)
theorem unlE_sound {P : Program} {κ : Kr} {op : Op} {e : Operand → AV} {ρ : Operand → Value} (h : ∀ x, gAV P κ (e x) (ρ x)) : ∀ x, gAV P κ (unlE op e x) (ρ x) := by
  intro x
  unfold unlE
  split
  · exact h x
  · exact unl_sound (h x)
/-- What an operation may look at. -/
def evalR (ts : List Nat) (tmps : List AV) : Operand → AV
  | .tmp t => if ts.contains t then tmps.getD t anyV else anyV
  | .const v => absC v
  | _ => anyV
/-- It looks at rows. -/
def looks : Op → Bool
  | .load _ _ => true
  | .store _ _ _ => true
  | .convert _ _ _ => true
  | .call ⟨.builtin .append, _, _⟩ => true
  | .call ⟨.builtin .copy, _, _⟩ => true
  | .call ⟨.builtin _, _, _⟩ => false
  | .call _ => true
  | _ => false
/-- The rows that it may look at. -/
def touch (op : Op) (σ : St) : List Nat :=
  if looks op = true then
    let i0 := op.operands.toList.flatMap fun x => (evalR (opTmps op) σ.tmps x).ids
    i0 ++ i0.flatMap fun id => match cs σ.H id with | some (.fix _ l) => l.flatMap A.ids | _ => []
  else []
def restr (H : List (Option Row)) (ids : List Nat) : Cs := fun id => if ids.contains id = true then cs H id else none
def setH (H : List (Option Row)) (us : Us) : List (Option Row) := us.foldl (fun H p => H.set p.1 p.2) H
/-- All changes are of rows that there is room for. -/
def okU (n : Nat) (us : Us) : Bool := us.all fun p => decide (p.1 < n)
def putL (tmps : List AV) (dst : Option Nat) (av : AV) : List AV := match dst with | some d => tmps.set d av | none => tmps
/-- A list that is seen as it is: also one whose lists are the call's own. -/
def viewA (P : Program) (g : Cs) (a : A) : Option (List Prop × D) :=
  match a with
  | .sl t id off len => match g id with
    | some (.deep u ds) => if u = t then some ([(off + len) * sz P t ≤ ds.length, flatDs P ((ds.drop (off * sz P t)).take (len * sz P t))], .list t len ((ds.drop (off * sz P t)).take (len * sz P t))) else none
    | _ => match frz P (nd g) a with | some (n, d, _) => some (n, d) | none => none
  | .isl t id p n => match g id with
    | some (.deep _ ds) => if t = 0 then none else some ([ds[p]? = some (.list t n (selL ds p)), (selL ds p).length = n * sz P t], .list t n (selL ds p))
    | _ => none
  | a => match frz P (nd g) a with | some (n, d, _) => some (n, d) | none => none
def viewX (P : Program) (g : Cs) : List A → Option (List Prop × List D)
  | [] => some ([], [])
  | a :: l => match viewA P g a, viewX P g l with
    | some (n1, d), some (n2, ds) => some (n1 ++ n2, d :: ds)
    | _, _ => none
/-- What is not to be written any more: as frz, also a list whose lists are the call's own. -/
def frzE (P : Program) (g : Cs) (a : A) : Option (List Prop × D × List Nat) :=
  match a with
  | .sl t id off len => match g id with
    | some (.deep u ds) => if u = t then some ([(off + len) * sz P t ≤ ds.length, flatDs P ((ds.drop (off * sz P t)).take (len * sz P t))], .list t len ((ds.drop (off * sz P t)).take (len * sz P t)), [id]) else none
    | _ => frz P (nd g) a
  | a => frz P (nd g) a
def frzX (P : Program) (g : Cs) : List A → Option (List Prop × List D × List Nat)
  | [] => some ([], [], [])
  | a :: l => match frzE P g a, frzX P g l with
    | some (n1, d, k1), some (n2, ds, k2) => if (k1.all fun i => !k2.contains i) = true then some (n1 ++ n2, d :: ds, k1 ++ k2) else none
    | _, _ => none
/-- Arguments, cell by cell. -/
def viewL (P : Program) (g : Cs) : List A → Option (List Prop × List D)
  | [] => some ([], [])
  | a :: l => match frz P g a, viewL P g l with
    | some (n1, d, _), some (n2, ds) => some (n1 ++ n2, d :: ds)
    | _, _ => none
def argCells (P : Program) : List Nat → List AV → Option (List A)
  | [], [] => some []
  | t :: ts, .v x :: avs => match ksOf P t, argCells P ts avs with
    | some ks, some l => (match isSt P t, x with
      | true, .agg m => if m.length = ks.length then some (m ++ l) else none
      | false, .one a => some (a :: l)
      | _, _ => none)
    | _, _ => none
  | _, _ => none
/-- Results, cell by cell: lists are new rows. -/
def resA (ys : List D) : Nat → Nat → List Kd → List A × Us
  | _, _, [] => ([], [])
  | nb, j, .list t :: ks => let r := resA ys (nb + 1) (j + 1) ks; (.sl t nb 0 (selN ys j) :: r.1, (nb, some (.sym t (selL ys j))) :: r.2)
  | nb, j, k :: ks => let r := resA ys nb (j + 1) ks; (.d (sel ys j k) :: r.1, r.2)
def wrapR : List V1 → AV
  | [x] => .v x
  | l => .tup l
def isCallF : Op → Option (Nat × Array Operand)
  | .call ⟨.value (.func f), args, _⟩ => some (f, args)
  | _ => none
/-- Arguments whose lists may be written: whole rows of the call's own, of numbers, truths and texts. -/
def wrA (P : Program) (g : Cs) : List Kd → List A → Option (List Prop × List D × List Nat)
  | [], [] => some ([], [], [])
  | .list t :: ks, .sl u id off len :: as => match g id, wrA P g ks as with
    | some row, some (ns, ds, ids) => match rowD row with
      | some l => if u = t ∧ row.t = t ∧ ids.contains id = false then some ((off = 0 ∧ l.length = len * sz P t ∧ scal l) :: ns, .list t len l :: ds, id :: ids) else none
      | none => none
    | _, _ => none
  | k :: ks, .d d :: as => match wrA P g ks as with
    | some (ns, ds, ids) => if fitK d k = true ∧ d.scalar = true then some (ns, d :: ds, ids) else none
    | none => none
  | _, _ => none
def wrU (yz : List D) : Nat → List Kd → List Nat → Us
  | i, .list t :: ks, id :: ids => (id, some (.sym t (selL yz i))) :: wrU yz (i + 1) ks ids
  | i, _ :: ks, ids => wrU yz i ks ids
  | _, [], _ => []
/-- What a call makes of its arguments: seen as they are, not to be written any more, or written. -/
def callV (P : Program) (s : Sig) (g : Cs) (pk : List Kd) (as : List A) : Option (List Prop × List D × List Nat) :=
  match s.md with
  | .fz => frzX P g as
  | .own => match viewX P g as with | some (ns, ds) => some (ns, ds, []) | none => none
  | .wr => wrA P (nd g) pk as
  | _ => none
def resU (s : Sig) (ys : List D) (nb : Nat) (kl : List Nat) (pk rk : List Kd) : List A × Us :=
  match s.md with
  | .fz => (sels ys 0 rk, kill kl)
  | .own => resA ys nb 0 rk
  | .wr => (sels ys 0 rk, wrU ys rk.length pk kl)
  | _ => ([], [])
def nRes (s : Sig) (rk : List Kd) : Nat := match s.md with | .own => lists rk | .ownD => 1 | .rd false => lists rk | _ => 0
def mdOk (s : Sig) (rk : List Kd) : Bool := match s.md with | .wr => lists rk == 0 | _ => true
def execC (P : Program) (nb : Nat) (o : Oper) (σ : St) (K : St → Tree) (f : Nat) (args : Array Operand) (s : Sig) : Tree :=
  match argCells P s.params (args.toList.map fun x => unl (evalR (opTmps o.op) σ.tmps x)), ksAll P s.params, ksAll P s.results with
  | some as, some pk, some rk => match callV P s (restr σ.H (touch o.op σ)) pk as with
    | some (ns, ds, kl) => if fits (nilsTo ds pk) pk = true ∧ nb + nRes s rk ≤ σ.H.length ∧ okU σ.H.length (kill kl) = true ∧ mdOk s rk = true then
        .needs ns (.call f (nilsTo ds pk) fun ys =>
          match splitV P s.results (resU s ys nb kl pk rk).1 with
          | some l => K ⟨putL σ.tmps o.dst (wrapR l), setH σ.H (resU s ys nb kl pk rk).2⟩
          | none => .fail)
      else .fail
    | none => .fail
  | _, _, _ => .fail
/-- A struct that is pointed to. -/
def ptrArg (g : Cs) : AV → Option (Nat × Row × List D)
  | .v (.one (.ptr id 0)) => match g id with
    | some row => (match rowD row with | some ds => some (id, row, ds) | none => none)
    | none => none
  | _ => none
def scalK : Kd → Bool
  | .list _ => false
  | _ => true
def resR (z : Bool) (ys : List D) (nb : Nat) (rk : List Kd) : List A × Us := if z = true then (sels ys 1 rk, []) else resA ys nb 1 rk
def readR (P : Program) (g : Cs) (s : Sig) (l : List AV) : Option (Nat × Row × List D × List Kd × List Kd × List Prop × List D) :=
  match l, s.params with
  | a0 :: rest, pt :: pts => match ptrArg g a0, argCells P pts rest, ksAll P pts, ksAll P s.results with
    | some (id, row, ds), some as, some pk, some rk => match viewL P g as with
      | some (ns, xs) => if isPtr P pt = some row.t ∧ pk.all scalK = true ∧ fits (nilsTo xs pk) pk = true then some (id, row, ds, pk, rk, ns, nilsTo xs pk) else none
      | none => none
    | _, _, _, _ => none
  | _, _ => none
def execR (P : Program) (nb : Nat) (o : Oper) (σ : St) (K : St → Tree) (f : Nat) (args : Array Operand) (s : Sig) (z : Bool) : Tree :=
  match readR P (nd (restr σ.H (touch o.op σ))) s (args.toList.map fun x => unl (evalR (opTmps o.op) σ.tmps x)) with
  | some (id, row, ds, pk, rk, ns, xs) => if nb + nRes s rk ≤ σ.H.length ∧ id < σ.H.length then
      .needs ns (.call f (.list 0 0 ds :: xs) fun ys =>
        match splitV P s.results (resR z ys nb rk).1 with
        | some l => K ⟨putL σ.tmps o.dst (wrapR l), setH σ.H ((id, some (.sym row.t (selL ys 0))) :: (resR z ys nb rk).2)⟩
        | none => .fail)
    else .fail
  | none => .fail
def readO (P : Program) (g : Cs) (s : Sig) (l : List AV) : Option (Nat × List Kd × List Prop × List D) :=
  match argCells P s.params l, ksAll P s.params, s.results with
  | some as, some pk, [pt] => match frzL P g as, isPtr P pt with
    | some (ns, xs, []), some t => if fits (nilsTo xs pk) pk = true then some (t, pk, ns, nilsTo xs pk) else none
    | _, _ => none
  | _, _, _ => none
def execO (P : Program) (nb : Nat) (o : Oper) (σ : St) (K : St → Tree) (f : Nat) (args : Array Operand) (s : Sig) : Tree :=
  match readO P (nd (restr σ.H (touch o.op σ))) s (args.toList.map fun x => unl (evalR (opTmps o.op) σ.tmps x)) with
  | some (t, _, ns, xs) => if nb + 1 ≤ σ.H.length then
      .needs ns (.call f xs fun ys => K ⟨putL σ.tmps o.dst (one (.ptr nb 0)), setH σ.H [(nb, some (.sym t (selL ys 0)))]⟩)
    else .fail
  | none => .fail
/-- Arguments that are no lists. -/
def scalArgs : List Kd → List A → Option (List D)
  | [], [] => some []
  | k :: ks, .d d :: as => match scalArgs ks as with
    | some ds => if fitK d k = true ∧ d.scalar = true then some (d :: ds) else none
    | none => none
  | _, _ => none
/-- A call that yields a list whose lists are the call's own. -/
def execOD (P : Program) (nb : Nat) (o : Oper) (σ : St) (K : St → Tree) (f : Nat) (args : Array Operand) (s : Sig) : Tree :=
  match argCells P s.params (args.toList.map fun x => unl (evalR (opTmps o.op) σ.tmps x)), ksAll P s.params, ksAll P s.results with
  | some as, some pk, some (.list t :: rk) => match viewX P (restr σ.H (touch o.op σ)) as with
    | some (ns, ds) => if fits (nilsTo ds pk) pk = true ∧ nb + 1 ≤ σ.H.length ∧ lists rk = 0 then
        .needs ns (.call f (nilsTo ds pk) fun ys =>
          match splitV P s.results (.sl t nb 0 (selN ys 0) :: sels ys 1 rk) with
          | some l => K ⟨putL σ.tmps o.dst (wrapR l), setH σ.H [(nb, some (.deep t (selL ys 0)))]⟩
          | none => .fail)
      else .fail
    | none => .fail
  | _, _, _ => .fail
/-- What is asked of the first argument, a list of the call's own: its row, its cells. -/
def wrDA (P : Program) (g : Cs) (t : Nat) : List A → Option (Nat × List D × Nat × List Prop)
  | .sl u id off len :: _ => match g id with
    | some (.deep v ds) => if u = t ∧ v = t then some (id, ds, len, [off = 0, ds.length = len * sz P t, flatDs P ds]) else none
    | _ => none
  | _ => none
/-- A list that is its row's own: its type. -/
def tagL (d : D) : Option Nat := if ownL d = true then (match d with | .list u _ _ => some u | _ => none) else none
/-- The same cells are lists of the row's own. -/
def sameOwn (ds ds' : List D) : Prop := ds'.length = ds.length ∧ ∀ (j : Nat), (ds[j]?).map tagL = (ds'[j]?).map tagL
/-- A call that writes into a list whose lists are the call's own. -/
def execWD (P : Program) (o : Oper) (σ : St) (K : St → Tree) (f : Nat) (args : Array Operand) (s : Sig) : Tree :=
  match argCells P s.params (args.toList.map fun x => unl (evalR (opTmps o.op) σ.tmps x)), ksAll P s.params, ksAll P s.results with
  | some as, some (.list t :: pk), some rk => match wrDA P (restr σ.H (touch o.op σ)) t as, scalArgs pk as.tail with
    | some (id, ds, len, ns), some xs => if id < σ.H.length ∧ lists rk = 0 then
        .needs ns (.call f (.list t len ds :: xs) fun ys =>
          match splitV P s.results (sels ys 0 rk) with
          | some l => .needs [sameOwn ds (selL ys rk.length)] (K ⟨putL σ.tmps o.dst (wrapR l), setH σ.H [(id, some (.deep t (selL ys rk.length)))]⟩)
          | none => .fail)
      else .fail
    | _, _ => .fail
  | _, _, _ => .fail
/-- The first argument is a list that lies in a cell of the call's own. -/
def wrIA (P : Program) (g : Cs) (t : Nat) : List A → Option (Nat × Nat × List D × Nat × Nat)
  | .isl u id p n :: _ => match g id with
    | some (.deep v ds) => if u = t ∧ t ≠ 0 then some (id, v, ds, p, n) else none
    | _ => none
  | _ => none
def isIsl : Option (List A) → Bool
  | some (.isl _ _ _ _ :: _) => true
  | _ => false
/-- A call that writes into such a list. -/
def execI (P : Program) (o : Oper) (σ : St) (K : St → Tree) (f : Nat) (args : Array Operand) (s : Sig) : Tree :=
  match argCells P s.params (args.toList.map fun x => unl (evalR (opTmps o.op) σ.tmps x)), ksAll P s.params, ksAll P s.results with
  | some as, some (.list t :: pk), some rk => match wrIA P (restr σ.H (touch o.op σ)) t as, scalArgs pk as.tail with
    | some (id, v, ds, p, n), some xs => if id < σ.H.length ∧ lists rk = 0 then
        .needs [ds[p]? = some (.list t n (selL ds p)), (selL ds p).length = n * sz P t, scal (selL ds p)] (.call f (.list t n (selL ds p) :: xs) fun ys =>
          match splitV P s.results (sels ys 0 rk) with
          | some l => K ⟨putL σ.tmps o.dst (wrapR l), setH σ.H [(id, some (.deep v (setL ds p [.list t n (selL ys rk.length)])))]⟩
          | none => .fail)
      else .fail
    | _, _ => .fail
  | _, _, _ => .fail
def okV (us : Us) : Bool := us.all fun p => decide (p.1 < big) && plainO p.2
/-- A call, by what is known of the function. -/
def execF (P : Program) (nb : Nat) (o : Oper) (σ : St) (K : St → Tree) (f : Nat) (args : Array Operand) (s : Sig) : Tree :=
  match s.md with
  | .rd z => execR P nb o σ K f args s z
  | .op => execO P nb o σ K f args s
  | .ownD => execOD P nb o σ K f args s
  | .wrD => execWD P o σ K f args s
  | .wr => if isIsl (argCells P s.params (args.toList.map fun x => unl (evalR (opTmps o.op) σ.tmps x))) = true then execI P o σ K f args s else execC P nb o σ K f args s
  | _ => execC P nb o σ K f args s
def nNew (P : Program) (F : Tb) (o : Oper) : Nat :=
  match isCallF o.op with
  | some (f, _) => match F f with
    | some s => match s.md with | .op => 1 | _ => match ksAll P s.results with | some rk => nRes s rk | none => 0
    | none => 0
  | none => if isNew o.op = true then 1 else 0
/-- One operation, whose new rows are nb and on. -/
def exec (P : Program) (F : Tb) (nb : Nat) (o : Oper) (σ : St) (K : St → Tree) : Tree :=
  if σ.H.length ≤ big ∧ nb < big ∧ nb + nNew P F o ≤ big then
  match isCallF o.op with
  | some (f, args) =>
    match F f with
    | some s => execF P nb o σ K f args s
    | none => .fail
  | none =>
    match mOpX P o.op (unlE o.op (evalR (opTmps o.op) σ.tmps)) (restr σ.H (touch o.op σ)) nb with
    | some (ns, av, us) => if okU σ.H.length us = true ∧ (dCase o.op (unlE o.op (evalR (opTmps o.op) σ.tmps)) (restr σ.H (touch o.op σ)) || okV us) = true then .needs ns (K ⟨putL σ.tmps o.dst av, setH σ.H us⟩) else .fail
    | none => .fail
  else .fail
section
variable {P : Program} {w0 : Bs} {κ : Kr} {C : Cs} {w w' : World} {F : Tb}
theorem Inv.below (h : Inv P w0 κ C w) (hb : Below w.heap.size w w') : Inv P w0 κ C w' := by
  refine ⟨hb.os.trans h.os, hb.tape.trans h.tape, hb.output.trans h.output, Nat.le_trans h.size hb.size, fun b hlt hW => ⟨(hb.block b (Nat.lt_of_lt_of_le hlt h.size)).trans (h.base b hlt hW).1, (h.base b hlt hW).2⟩, fun b x hx => (hb.block b (h.zlt hx)).trans (h.z b x hx), fun id row hr => ?_, h.apart, h.own⟩
  rcases h.live id row hr with h1 | ⟨b, o, N, arr, h1, h2, h3, h4⟩
  · exact .inl h1
  · exact .inr ⟨b, o, N, arr, h1, h2, (hb.block b (block_of h3)).trans h3, h4⟩
/-- A row more, in a block that is there. -/
theorem Inv.add (h : Inv P w0 κ C w) {id b o N : Nat} (hC : C id = none) (hA : κ.at_ id = none) (row : Row) (arr : Array Value) (hz : κ.z b = none) (hbo : w0.heap.size ≤ b ∨ b ∈ blocks w0.bs) (hb : w.heap[b]? = some (.cells arr row.t (0, 0))) (hN : arr.size = N) (hlen : o + row.as.length ≤ N)
    (hr : ∀ (j : Nat) (a : A), row.as[j]? = some a → ∃ x, arr[o + j]? = some x ∧ gA P κ a x) (hno : ∀ k r o' N', C k = some r → κ.at_ k = some (b, o', N') → False) :
    κ.le (κ.put id (b, o, N)) ∧ Inv P w0 (κ.put id (b, o, N)) (upd C [(id, some row)]) w := by
  have hle : κ.le (κ.put id (b, o, N)) := Kr.le_put hA
  refine ⟨hle, h.os, h.tape, h.output, h.size, h.base, h.z, fun k r hk => ?_, fun k k' r r' b1 o1 N1 o2 N2 h1 h2 h3 h4 => ?_, fun k r b1 o1 N1 h1 h3 => ?_⟩
  · rw [upd_one] at hk
    split at hk
    · rename_i e
      subst e
      injection hk with hk; subst hk
      refine .inr ⟨b, o, N, arr, by simp [Kr.put], hz, hb, hN, hlen, fun j a ha => ?_⟩
      obtain ⟨x, q1, q2⟩ := hr j a ha
      exact ⟨x, q1, q2.mono hle⟩
    · rename_i hne
      rcases h.live k r hk with ⟨g1, g2⟩ | ⟨b1, o1, N1, ar, g1, g2, g3, g4, g5, g6⟩
      · exact .inl ⟨by rw [put_other hne]; exact g1, g2⟩
      · refine .inr ⟨b1, o1, N1, ar, hle.at_ _ _ g1, g2, g3, g4, g5, fun j a ha => ?_⟩
        obtain ⟨x, q1, q2⟩ := g6 j a ha
        exact ⟨x, q1, q2.mono hle⟩
  · rw [upd_one] at h1 h2
    have same : (κ.put id (b, o, N)).at_ id = some (b, o, N) := by simp [Kr.put]
    by_cases e1 : k = id <;> by_cases e2 : k' = id
    · rw [e1, e2]
    · exfalso
      rw [if_neg e2] at h2
      rw [e1, same] at h3
      rw [put_other e2] at h4
      injection h3 with h3; injection h3 with h3 _
      subst h3
      exact hno k' r' o2 N2 h2 h4
    · exfalso
      rw [if_neg e1] at h1
      rw [e2, same] at h4
      rw [put_other e1] at h3
      injection h4 with h4; injection h4 with h4 _
      subst h4
      exact hno k r o1 N1 h1 h3
    · rw [if_neg e1] at h1
      rw [if_neg e2] at h2
      rw [put_other e1] at h3
      rw [put_other e2] at h4
      exact h.apart k k' r r' b1 o1 N1 o2 N2 h1 h2 h3 h4
  · rw [upd_one] at h1
    split at h1
    · rename_i e
      subst e
      have same : (κ.put k (b, o, N)).at_ k = some (b, o, N) := by simp [Kr.put]
      rw [same] at h3
      injection h3 with h3; injection h3 with h3 _
      subst h3; exact hbo
    · rename_i e
      rw [put_other e] at h3
      exact h.own k r b1 o1 N1 h1 h3
theorem frz_view {g : Cs} {a : A} {n : List Prop} {d : D} {ks : List Nat} (h : frz P g a = some (n, d, ks)) (hn : all_ n) (hi : Inv P w0 κ C w) (hg : ∀ id row, g id = some row → C id = some row) {v : Value} (hv : gA P κ a v) : gD P (Kr.of w).z d v := by
  obtain ⟨κ', _, _, h3, h4⟩ := frz_sound h hn hi (fun id _ row hr => hg id row hr) hv
  exact gD.mono h3.z h4
theorem viewL_sound {g : Cs} (hi : Inv P w0 κ C w) (hg : ∀ id row, g id = some row → C id = some row) : ∀ {l : List A} {n : List Prop} {ds : List D} {vs : List Value}, viewL P g l = some (n, ds) → all_ n → gL P κ l vs →
    ds.length = vs.length ∧ ∀ (j : Nat) (d : D), ds[j]? = some d → ∃ v, vs[j]? = some v ∧ gD P (Kr.of w).z d v
  | [], n, ds, vs, h, hn, hv => by
    injection h with h; injection h with h1 h2
    subst h2
    exact ⟨hv.len, fun j d hj => by simp at hj⟩
  | a :: l, n, ds, v :: vs, h, hn, ⟨hv1, hv2⟩ => by
    unfold viewL at h
    split at h <;> try (cases h; done)
    rename_i n1 d k1 n2 ds2 h1 h2
    injection h with h; injection h with e1 e2
    subst e1; subst e2
    obtain ⟨hn1, hn2⟩ := all_append hn
    obtain ⟨q1, q2⟩ := viewL_sound hi hg h2 hn2 hv2
    refine ⟨by simp [q1], fun j d' hj => ?_⟩
    cases j with
    | zero => simp at hj; subst hj; exact ⟨v, rfl, frz_view h1 hn1 hi hg hv1⟩
    | succ j => simpa using q2 j d' (by simpa using hj)
theorem argCells_sound : ∀ {ts : List Nat} {avs : List AV} {as : List A} {vs : List Value}, argCells P ts avs = some as → vs.length = avs.length → (∀ (i : Nat) (av : AV), avs[i]? = some av → ∃ v, vs[i]? = some v ∧ gAV P κ av v) →
    ∃ cells, splitVal P ts cells vs ∧ gL P κ as cells
  | [], [], as, vs, h, hl, _ => by
    injection h with h; subst h
    have : vs = [] := List.eq_nil_of_length_eq_zero (by simpa using hl)
    subst this
    exact ⟨[], ⟨rfl, rfl⟩, trivial⟩
  | t :: ts, av :: avs, as, [], h, hl, _ => by simp at hl
  | t :: ts, .v x :: avs, as, v :: vs, h, hl, hg => by
    unfold argCells at h
    split at h <;> try (cases h; done)
    rename_i ks l hks hl2
    obtain ⟨u, hu, hgu⟩ := hg 0 _ rfl
    simp at hu
    subst hu
    obtain ⟨cells, c1, c2⟩ := argCells_sound hl2 (by simpa using hl) (fun i av hi => by simpa using hg (i + 1) av (by simpa using hi))
    split at h <;> try (cases h; done)
    · rename_i m hst
      split at h <;> try (cases h; done)
      rename_i hm
      injection h with h; subst h
      obtain ⟨arr, rfl, harr⟩ := hgu
      have hal := harr.len
      refine ⟨arr.toList ++ cells, ?_, harr.append c2⟩
      unfold splitVal
      rw [hks]
      simp only
      rw [if_pos hst]
      refine ⟨arr, rfl, by simp at hal; simp; omega, ?_, ?_⟩
      · rw [List.take_left' (by omega)]
      · rw [List.drop_left' (by omega)]; exact c1
    · rename_i a hst
      injection h with h; subst h
      refine ⟨v :: cells, ?_, hgu, c2⟩
      unfold splitVal
      rw [hks]
      simp only
      rw [if_neg (by rw [hst]; simp)]
      exact ⟨cells, rfl, c1⟩
theorem fitK_sel {ds : List D} {j : Nat} {d : D} {k : Kd} (hj : ds[j]? = some d) (h : fitK d k = true) : needK ds j k ∧ sel ds j k = d := by
  cases d with
  | int k0 n =>
    cases k <;> simp [fitK] at h
    subst h
    have : sel ds j (.int k0) = .int k0 n := by unfold sel selI; rw [hj]
    exact ⟨hj.trans (congrArg some this.symm), this⟩
  | bool b =>
    cases k <;> simp [fitK] at h
    have : sel ds j .bool = .bool b := by unfold sel selB; rw [hj]
    exact ⟨hj.trans (congrArg some this.symm), this⟩
  | str s =>
    cases k <;> simp [fitK] at h
    have : sel ds j .str = .str s := by unfold sel selS; rw [hj]
    exact ⟨hj.trans (congrArg some this.symm), this⟩
  | list t n l =>
    cases k <;> simp [fitK] at h
    subst h
    have : sel ds j (.list t) = .list t n l := by unfold sel selN selL; rw [hj]
    exact ⟨.inl (by rw [hj]; exact congrArg some this.symm), this⟩
theorem fits_sels {κ : Kr} : ∀ (pre rest : List D) (ks : List Kd) (vs : List Value), fits rest ks = true → rest.length = vs.length → (∀ (j : Nat) (d : D), rest[j]? = some d → ∃ v, vs[j]? = some v ∧ gD P κ.z d v) →
    rest.length = ks.length ∧ all_ (needs (pre ++ rest) pre.length ks) ∧ gL P κ (sels (pre ++ rest) pre.length ks) vs
  | pre, [], [], [], _, _, _ => ⟨rfl, trivial, trivial⟩
  | pre, d :: ds, k :: ks, v :: vs, h, hl, hg => by
    unfold fits at h
    rw [Bool.and_eq_true] at h
    obtain ⟨u, hu, hgu⟩ := hg 0 d rfl
    simp at hu
    subst hu
    obtain ⟨q1, q2⟩ := fitK_sel (ds := pre ++ d :: ds) (j := pre.length) (d := d) (by simp) h.1
    obtain ⟨g1, g2, g3⟩ := fits_sels (pre ++ [d]) ds ks vs h.2 (by simpa using hl) (fun j d' hj => by simpa using hg (j + 1) d' (by simpa using hj))
    rw [List.append_assoc, List.length_append] at g2 g3
    refine ⟨by simp [g1], ⟨q1, g2⟩, ?_, g3⟩
    show gD P κ.z _ _
    rw [q2]; exact hgu
  | pre, [], k :: ks, _, h, _, _ => by simp [fits] at h
  | pre, d :: ds, [], _, h, _, _ => by simp [fits] at h
  | pre, [], [], v :: vs, _, hl, _ => by simp at hl
  | pre, d :: ds, k :: ks, [], _, hl, _ => by simp at hl
theorem nilTo_sound {z : Nat → Option Obj} {d : D} {k : Kd} {v : Value} (h : gD P z d v) : gD P z (nilTo d k) v := by
  unfold nilTo
  split
  · exact gD_nil h
  · exact h
theorem nilsTo_sound {z : Nat → Option Obj} : ∀ {ds : List D} {ks : List Kd} {vs : List Value}, (∀ (j : Nat) (d : D), ds[j]? = some d → ∃ v, vs[j]? = some v ∧ gD P z d v) → (nilsTo ds ks).length = ds.length ∧ ∀ (j : Nat) (d : D), (nilsTo ds ks)[j]? = some d → ∃ v, vs[j]? = some v ∧ gD P z d v
  | [], ks, vs, h => by cases ks <;> exact ⟨rfl, fun j d hj => by simp [nilsTo] at hj⟩
  | d :: ds, [], vs, h => ⟨rfl, h⟩
  | d :: ds, k :: ks, [], h => by obtain ⟨v, hv, _⟩ := h 0 d rfl; simp at hv
  | d :: ds, k :: ks, v :: vs, h => by
    obtain ⟨u, hu, hgu⟩ := h 0 d rfl
    simp at hu
    subst hu
    obtain ⟨g1, g2⟩ := nilsTo_sound (ds := ds) (ks := ks) (vs := vs) (fun j d' hj => by simpa using h (j + 1) d' (by simpa using hj))
    refine ⟨by simp [nilsTo, g1], fun j d' hj => ?_⟩
    cases j with
    | zero => simp [nilsTo] at hj; subst hj; exact ⟨v, rfl, nilTo_sound hgu⟩
    | succ j => simpa using g2 j d' (by simpa [nilsTo] using hj)
/-- What was handed back, as rows of the call's own. -/
theorem res_sound {ys : List D} {W : Nat} : ∀ {ks : List Kd} {j nb : Nat} {vs : List Value} {bs : List (Option (Nat × Nat × Nat))} {κ : Kr} {C : Cs}, Inv P w0 κ C w → resL P W w ys j ks vs bs → (blocks bs).Nodup →
    (∀ id, nb ≤ id → id < nb + lists ks → C id = none ∧ κ.at_ id = none) → (∀ id row b o N, C id = some row → κ.at_ id = some (b, o, N) → b ∉ blocks bs) → (∀ b ∈ blocks bs, κ.z b = none ∧ (w0.heap.size ≤ b ∨ b ∈ blocks w0.bs)) →
    ∃ κ', κ.le κ' ∧ Inv P w0 κ' (upd C (resA ys nb j ks).2) w ∧ gL P κ' (resA ys nb j ks).1 vs ∧ (∀ k, (∀ p ∈ (resA ys nb j ks).2, p.1 ≠ k) → κ'.at_ k = κ.at_ k) ∧ (∀ i x, bs[i]? = some (some x) → κ'.at_ (nb + i) = some x)
  | [], j, nb, vs, bs, κ, C, hi, h, _, _, _, _ => by
    unfold resL at h
    rw [h.1]
    exact ⟨κ, Kr.le.refl κ, hi, trivial, fun _ _ => rfl, fun i x hx => by rw [h.2] at hx; simp at hx⟩
  | .int k :: ks, j, nb, vs, bs, κ, C, hi, h, h2, h3, h4, h5 => by
    cases vs with
    | nil => cases bs <;> unfold resL at h <;> exact h.elim
    | cons v vs =>
      unfold resL at h
      obtain ⟨κ', g1, g2, g3, g4⟩ := res_sound (ks := ks) hi h.2 h2 h3 h4 h5
      exact ⟨κ', g1, g2, ⟨gD.mono (fun b x hx => by cases hx) h.1, g3⟩, g4⟩
  | .bool :: ks, j, nb, vs, bs, κ, C, hi, h, h2, h3, h4, h5 => by
    cases vs with
    | nil => cases bs <;> unfold resL at h <;> exact h.elim
    | cons v vs =>
      unfold resL at h
      obtain ⟨κ', g1, g2, g3, g4⟩ := res_sound (ks := ks) hi h.2 h2 h3 h4 h5
      exact ⟨κ', g1, g2, ⟨gD.mono (fun b x hx => by cases hx) h.1, g3⟩, g4⟩
  | .str :: ks, j, nb, vs, bs, κ, C, hi, h, h2, h3, h4, h5 => by
    cases vs with
    | nil => cases bs <;> unfold resL at h <;> exact h.elim
    | cons v vs =>
      unfold resL at h
      obtain ⟨κ', g1, g2, g3, g4⟩ := res_sound (ks := ks) hi h.2 h2 h3 h4 h5
      exact ⟨κ', g1, g2, ⟨gD.mono (fun b x hx => by cases hx) h.1, g3⟩, g4⟩
  | .list t :: ks, j, nb, vs, bs, κ, C, hi, h, h2, h3, h4, h5 => by
    cases vs with
    | nil => cases bs <;> unfold resL at h <;> exact h.elim
    | cons v vs =>
      cases bs with
      | nil => unfold resL at h; exact h.elim
      | cons ob bs =>
        unfold resL at h
        obtain ⟨ho, hr⟩ := h
        obtain ⟨hC, hA⟩ := h3 nb (Nat.le_refl _) (by simp [lists])
        have key : ∃ κ1, κ.le κ1 ∧ κ1.z = κ.z ∧ Inv P w0 κ1 (upd C [(nb, some (.sym t (selL ys j)))]) w ∧ gA P κ1 (.sl t nb 0 (selN ys j)) v ∧ (∀ k, k ≠ nb → κ1.at_ k = κ.at_ k) ∧ (∀ b o N, κ1.at_ nb = some (b, o, N) → ob.map (·.1) = some b) ∧ (∀ x, ob = some x → κ1.at_ nb = some x) := by
          cases ob with
          | none =>
            obtain ⟨e1, e2, Ad, rfl⟩ := ho
            refine ⟨κ, Kr.le.refl κ, rfl, ⟨hi.os, hi.tape, hi.output, hi.size, hi.base, hi.z, fun k r hk => ?_, fun k k' r r' b o N o' N' h1 h2 h6 h7 => ?_, fun k r b o N h1 h6 => ?_⟩, ⟨Ad, 0, by rw [e2], by omega, .inl ⟨e2, rfl⟩⟩, fun _ _ => rfl, fun b o N hb => (by rw [hA] at hb; cases hb), fun x hx => (by cases hx)⟩
            · rw [upd_one] at hk
              split at hk
              · rename_i e; subst e; injection hk with hk; subst hk; exact .inl ⟨hA, by rw [e1]; rfl⟩
              · exact hi.live k r hk
            · rw [upd_one] at h1 h2
              split at h1
              · rename_i e; subst e; rw [hA] at h6; cases h6
              · split at h2
                · rename_i e; subst e; rw [hA] at h7; cases h7
                · exact hi.apart k k' r r' b o N o' N' h1 h2 h6 h7
            · rw [upd_one] at h1
              split at h1
              · rename_i e; subst e; rw [hA] at h6; cases h6
              · exact hi.own k r b o N h1 h6
          | some x =>
            obtain ⟨b, o, N⟩ := x
            obtain ⟨c, arr, rfl, e1, e2, e3, e4, e5, e6, e7⟩ := ho
            have hmem : b ∈ blocks (some (b, o, N) :: bs) := by simp [blocks]
            have hcs : selN ys j * sz P t ≤ c * sz P t := Nat.mul_le_mul_right _ e1
            obtain ⟨q1, q2⟩ := hi.add hC hA (.sym t (selL ys j)) arr (o := o) (N := N) (h5 b hmem).1 (h5 b hmem).2 e5 e6 (by simp [Row.as, e2]; omega) (fun q a hq => by
              simp only [Row.as, List.getElem?_map] at hq
              obtain ⟨d, hd, rfl⟩ := Option.map_eq_some_iff.mp hq
              obtain ⟨x, k1, k2⟩ := e7 q d hd
              exact ⟨x, k1, gD.mono (fun b x hx => by cases hx) k2⟩) (fun k r o' N' hk ha => h4 k r b o' N' hk ha hmem)
            refine ⟨_, q1, rfl, q2, ⟨_, c, rfl, e1, .inr ⟨b, o, N, by simp [Kr.put], by simp, by simpa using e4⟩⟩, fun k hk => put_other hk, fun b' o' N' hb => ?_, fun x hx => ?_⟩
            · simp [Kr.put] at hb
              simp [hb.1]
            · injection hx with hx; subst hx; simp [Kr.put]
        obtain ⟨κ1, a1, a2, a3, a4, a5, a6, a7⟩ := key
        have hnd : (blocks bs).Nodup ∧ ∀ b, ob.map (·.1) = some b → b ∉ blocks bs := by
          cases ob with
          | none => exact ⟨by simpa [blocks] using h2, fun b hb => by cases hb⟩
          | some x =>
            simp [blocks] at h2
            refine ⟨by simpa [blocks] using h2.2, fun b hb => ?_⟩
            simp at hb
            subst hb
            simpa [blocks] using h2.1
        have hsub : ∀ b ∈ blocks bs, b ∈ blocks (ob :: bs) := fun b hb => by
          unfold blocks at hb ⊢
          cases ob with
          | none => simpa using hb
          | some x => simp only [List.filterMap_cons, Option.map_some]; exact List.mem_cons_of_mem _ hb
        obtain ⟨κ', g1, g2, g3, g4, g5⟩ := res_sound (ks := ks) (nb := nb + 1) a3 hr hnd.1 (fun id h6 h7 => by
            have := h3 id (by omega) (by simp [lists]; omega)
            rw [upd_one, if_neg (by omega), a5 id (by omega)]
            exact this) (fun id row b o N hr' ha hb => by
            rw [upd_one] at hr'
            split at hr'
            · rename_i e
              subst e
              exact hnd.2 b (a6 b o N ha) hb
            · rename_i hne
              rw [a5 id hne] at ha
              exact h4 id row b o N hr' ha (hsub b hb)) (fun b hb => by rw [a2]; exact h5 b (hsub b hb))
        refine ⟨κ', a1.trans g1, g2, ⟨a4.mono g1, g3⟩, fun k hk => ?_, fun i x hx => ?_⟩
        rotate_left
        · cases i with
          | zero => simp at hx; exact g1.at_ _ _ (a7 x hx)
          | succ i => rw [show nb + (i + 1) = nb + 1 + i by omega]; exact g5 i x (by simpa using hx)
        rw [g4 k (fun p hp => hk p (by simp only [resA]; exact List.mem_cons_of_mem _ hp)), a5 k (fun e => hk (nb, some (.sym t (selL ys j))) (by simp [resA]) e.symm)]
theorem splitV_sound {κ : Kr} : ∀ {ts : List Nat} {as : List A} {xs : List V1} {cells vs : List Value}, splitV P ts as = some xs → splitVal P ts cells vs → gL P κ as cells → gV1s P κ xs vs
  | [], [], xs, cells, vs, h, h2, h3 => by
    injection h with h; subst h
    obtain ⟨_, rfl⟩ := h2
    trivial
  | t :: ts, as, xs, cells, [], h, h2, h3 => by unfold splitVal at h2; exact h2.elim
  | t :: ts, as, xs, cells, v :: vs, h, h2, h3 => by
    unfold splitV at h
    unfold splitVal at h2
    split at h <;> try (cases h; done)
    rename_i ks hks
    rw [hks] at h2
    simp only at h2
    split at h
    · rename_i hst
      rw [if_pos hst] at h2
      obtain ⟨arr, rfl, h4, h5, h6⟩ := h2
      split at h <;> try (cases h; done)
      split at h <;> try (cases h; done)
      rename_i l hl
      injection h with h; subst h
      exact ⟨⟨arr, rfl, by rw [h5]; exact h3.take _⟩, splitV_sound hl h6 (h3.drop _)⟩
    · rename_i hst
      rw [if_neg hst] at h2
      obtain ⟨rest, rfl, h6⟩ := h2
      split at h <;> try (cases h; done)
      rename_i a as'
      split at h <;> try (cases h; done)
      rename_i l hl
      injection h with h; subst h
      exact ⟨h3.1, splitV_sound hl h6 h3.2⟩
theorem wrapR_sound {κ : Kr} {xs : List V1} {vs : List Value} (h : gV1s P κ xs vs) : gAV P κ (wrapR xs) (wrapVal vs) := by
  match xs, vs, h with
  | [], [], _ => exact ⟨#[], rfl, trivial⟩
  | [x], [v], ⟨h, _⟩ => exact h
  | x :: y :: l, v :: u :: vs, h => exact ⟨(v :: u :: vs).toArray, rfl, by simpa using h⟩
end
end Go.Proofs.Ytjleempapphlhab.Mini
end
