/- Parts of the proof in one text: Mini1, Mini2, Mini3, Mini4, Mini5, Mini5e, Mini6, Mini7, Mini8, Mini8r. -/
import Derived.Test.YtplcdadedpbkpaaTyp1
import Derived.Laws.StructEq
section
namespace Go.Proofs.Ytplcdadedpbkpaa.Mini
open Go Go.RowKit
set_option linter.unusedVariables false

/-- What a cell holds for good: numbers, texts, lists that never change (their type, how many, their cells). -/
inductive D where
  | int (k : IntKind) (n : Int)
  | bool (b : Bool)
  | str (s : ByteArray)
  | list (t n : Nat) (cs : List D)
/-- What a cell or a temporary holds: also a list or a place in the call's own rows. -/
inductive A where
  | any
  | d (x : D)
  | nil
  | sl (t id off len : Nat)
  | ptr (id off : Nat)
  | pe (t id i o : Nat)
  | rp (t : Nat) (cs : List D) (i o : Nat)
  | lit (b : Bool)
inductive V1 where
  | one (a : A)
  | agg (l : List A)
inductive AV where
  | v (x : V1)
  | tup (l : List V1)
/-- A row of the call's own. -/
inductive Row where
  | fix (t : Nat) (cs : List A)
  | sym (t : Nat) (ds : List D)
def Row.t : Row → Nat
  | .fix t _ => t
  | .sym t _ => t
def Row.as : Row → List A
  | .fix _ cs => cs
  | .sym _ ds => ds.map .d
def anyV : AV := .v (.one .any)

/-- What is known of a type. -/
structure Ti where
  und : TypeDesc
  size : Nat
  bytes : Nat
  zero : Value
def ti (P : Program) (t : Nat) : Option Ti :=
  match P.underlying t, P.info? t with
  | some d, some i => match i.zero with
    | some z => if 0 < i.size ∧ z.cells.size = i.size ∧ z.cells.all (·.oneCell') = true then some ⟨d, i.size, i.bytes, z⟩ else none
    | none => none
  | _, _ => none
def sz (P : Program) (t : Nat) : Nat := match ti P t with | some e => e.size | none => 1
theorem ti_spec {P : Program} {t : Nat} {e : Ti} (h : ti P t = some e) :
    P.underlying t = some e.und ∧ (∃ i, P.info? t = some i ∧ i.size = e.size ∧ i.bytes = e.bytes ∧ i.zero = some e.zero) ∧ 0 < e.size ∧ e.zero.cells.size = e.size ∧ e.zero.cells.all (·.oneCell') = true := by
  unfold ti at h
  split at h <;> try (cases h; done)
  rename_i d i h1 h2
  split at h <;> try (cases h; done)
  rename_i z hz
  split at h <;> try (cases h; done)
  rename_i hc
  injection h with h; subst h
  exact ⟨h1, ⟨i, h2, rfl, rfl, hz⟩, hc⟩
theorem sz_of {P : Program} {t : Nat} {e : Ti} (h : ti P t = some e) : sz P t = e.size := by unfold sz; rw [h]
theorem sz_pos (P : Program) (t : Nat) : 0 < sz P t := by
  unfold sz
  split
  · rename_i e h; exact (ti_spec h).2.2.1
  · omega

mutual
def gD (P : Program) (z : Nat → Option Obj) : D → Value → Prop
  | .int k n, v => v = .int k n
  | .bool b, v => v = .bool b
  | .str s, v => v = .string s
  | .list t n cs, v => ∃ Ad c, v = .slice Ad n c ∧ n ≤ c ∧ cs.length = n * sz P t ∧ (n = 0 ∨ ∃ b o arr ty fr, Ad = some ⟨b, o, none⟩ ∧ z b = some (.cells arr ty fr) ∧ gDs P z cs (arr.toList.drop o))
def gDs (P : Program) (z : Nat → Option Obj) : List D → List Value → Prop
  | [], _ => True
  | d :: ds, v :: vs => gD P z d v ∧ gDs P z ds vs
  | _ :: _, [] => False
end

/-- Where rows lie: their block, their first cell, the block's size; blocks that never change. -/
structure Kr where
  at_ : Nat → Option (Nat × Nat × Nat)
  z : Nat → Option Obj
structure Kr.le (κ κ' : Kr) : Prop where
  at_ : ∀ id x, κ.at_ id = some x → κ'.at_ id = some x
  z : ∀ b x, κ.z b = some x → κ'.z b = some x
theorem Kr.le.refl (κ : Kr) : κ.le κ := ⟨fun _ _ h => h, fun _ _ h => h⟩
theorem Kr.le.trans {a b c : Kr} (h : a.le b) (k : b.le c) : a.le c := ⟨fun _ _ hx => k.at_ _ _ (h.at_ _ _ hx), fun _ _ hx => k.z _ _ (h.z _ _ hx)⟩

section
variable {P : Program} {z z' : Nat → Option Obj}
mutual
theorem gD.mono (hz : ∀ b x, z b = some x → z' b = some x) : ∀ {d : D} {v : Value}, gD P z d v → gD P z' d v
  | .int .., _, h => by unfold gD at h ⊢; exact h
  | .bool .., _, h => by unfold gD at h ⊢; exact h
  | .str .., _, h => by unfold gD at h ⊢; exact h
  | .list .., _, h => by
    unfold gD at h ⊢
    obtain ⟨Ad, c, h1, h2, h3, h4⟩ := h
    exact ⟨Ad, c, h1, h2, h3, h4.imp id (fun ⟨b, o, arr, ty, fr, g1, g2, g3⟩ => ⟨b, o, arr, ty, fr, g1, hz _ _ g2, gDs.mono hz g3⟩)⟩
theorem gDs.mono (hz : ∀ b x, z b = some x → z' b = some x) : ∀ {ds : List D} {vs : List Value}, gDs P z ds vs → gDs P z' ds vs
  | [], _, h => by unfold gDs; trivial
  | _ :: _, _ :: _, h => by
    unfold gDs at h ⊢
    exact ⟨gD.mono hz h.1, gDs.mono hz h.2⟩
  | _ :: _, [], h => by unfold gDs at h; exact h.elim
end
theorem gDs.at : ∀ {ds : List D} {vs : List Value}, gDs P z ds vs → ∀ (j : Nat) (d : D), ds[j]? = some d → ∃ x, vs[j]? = some x ∧ gD P z d x
  | d :: ds, v :: vs, h, 0, d', hd => by
    unfold gDs at h
    simp at hd
    subst hd
    exact ⟨v, rfl, h.1⟩
  | d :: ds, v :: vs, h, j + 1, d', hd => by
    unfold gDs at h
    simpa using gDs.at h.2 j d' (by simpa using hd)
  | _ :: _, [], h, _, _, _ => by unfold gDs at h; exact h.elim
theorem gDs.of : ∀ {ds : List D} {vs : List Value}, (∀ (j : Nat) (d : D), ds[j]? = some d → ∃ x, vs[j]? = some x ∧ gD P z d x) → gDs P z ds vs
  | [], _, _ => by unfold gDs; trivial
  | d :: ds, [], h => by obtain ⟨x, hx, _⟩ := h 0 d rfl; simp at hx
  | d :: ds, v :: vs, h => by
    unfold gDs
    obtain ⟨x, hx, hg⟩ := h 0 d rfl
    simp at hx
    subst hx
    exact ⟨hg, gDs.of fun j d hd => by simpa using h (j + 1) d (by simpa using hd)⟩
theorem gD.one {d : D} {v : Value} (h : gD P z d v) : v.oneCell' = true := by
  cases d <;> unfold gD at h
  · rw [h]; rfl
  · rw [h]; rfl
  · rw [h]; rfl
  · obtain ⟨Ad, c, rfl, _⟩ := h; rfl
end

def gA (P : Program) (κ : Kr) : A → Value → Prop
  | .any, _ => True
  | .d x, v => gD P κ.z x v
  | .nil, v => v = .slice none 0 0
  | .sl t id off len, v => ∃ Ad c, v = .slice Ad len c ∧ len ≤ c ∧ ((len = 0 ∧ c = 0) ∨ ∃ b o N, κ.at_ id = some (b, o, N) ∧ Ad = some ⟨b, o + off * sz P t, none⟩ ∧ o + (off + c) * sz P t ≤ N)
  | .ptr id off, v => ∃ b o N, κ.at_ id = some (b, o, N) ∧ v = .pointer (some ⟨b, o + off, none⟩)
  | .pe t id i j, v => ∃ b o N, κ.at_ id = some (b, o, N) ∧ v = .pointer (some ⟨b, o + (i * sz P t + j), none⟩)
  | .rp t ds i j, v => ∃ b o arr ty fr, v = .pointer (some ⟨b, o + (i * sz P t + j), none⟩) ∧ κ.z b = some (.cells arr ty fr) ∧ gDs P κ.z ds (arr.toList.drop o)
  | .lit b, v => v = .bool b
def gL (P : Program) (κ : Kr) : List A → List Value → Prop
  | [], [] => True
  | a :: l, v :: vs => gA P κ a v ∧ gL P κ l vs
  | _, _ => False
def gV1 (P : Program) (κ : Kr) : V1 → Value → Prop
  | .one a, v => gA P κ a v
  | .agg l, v => ∃ cs, v = .agg cs ∧ gL P κ l cs.toList
def gV1s (P : Program) (κ : Kr) : List V1 → List Value → Prop
  | [], [] => True
  | a :: l, v :: vs => gV1 P κ a v ∧ gV1s P κ l vs
  | _, _ => False
def gAV (P : Program) (κ : Kr) : AV → Value → Prop
  | .v x, v => gV1 P κ x v
  | .tup l, v => ∃ vs, v = .tuple vs ∧ gV1s P κ l vs.toList

section
variable {P : Program} {κ κ' : Kr}
theorem gA.mono (hle : κ.le κ') : ∀ {a : A} {v : Value}, gA P κ a v → gA P κ' a v
  | .any, _, _ => trivial
  | .d _, _, h => gD.mono hle.z h
  | .nil, _, h => h
  | .sl .., _, ⟨Ad, c, h1, h2, h3⟩ => ⟨Ad, c, h1, h2, h3.imp id (fun ⟨b, o, N, g1, g2⟩ => ⟨b, o, N, hle.at_ _ _ g1, g2⟩)⟩
  | .ptr .., _, ⟨b, o, N, h1, h2⟩ => ⟨b, o, N, hle.at_ _ _ h1, h2⟩
  | .pe .., _, ⟨b, o, N, h1, h2⟩ => ⟨b, o, N, hle.at_ _ _ h1, h2⟩
  | .rp .., _, ⟨b, o, arr, ty, fr, h1, h2, h3⟩ => ⟨b, o, arr, ty, fr, h1, hle.z _ _ h2, gDs.mono hle.z h3⟩
  | .lit _, _, h => h
theorem gL.mono (hle : κ.le κ') : ∀ {l : List A} {vs : List Value}, gL P κ l vs → gL P κ' l vs
  | [], [], _ => trivial
  | _ :: _, _ :: _, ⟨h1, h2⟩ => ⟨h1.mono hle, gL.mono hle h2⟩
theorem gV1.mono (hle : κ.le κ') : ∀ {x : V1} {v : Value}, gV1 P κ x v → gV1 P κ' x v
  | .one _, _, h => gA.mono hle h
  | .agg _, _, ⟨cs, h1, h2⟩ => ⟨cs, h1, h2.mono hle⟩
theorem gV1s.mono (hle : κ.le κ') : ∀ {l : List V1} {vs : List Value}, gV1s P κ l vs → gV1s P κ' l vs
  | [], [], _ => trivial
  | _ :: _, _ :: _, ⟨h1, h2⟩ => ⟨h1.mono hle, gV1s.mono hle h2⟩
theorem gAV.mono (hle : κ.le κ') : ∀ {x : AV} {v : Value}, gAV P κ x v → gAV P κ' x v
  | .v _, _, h => gV1.mono hle h
  | .tup _, _, ⟨cs, h1, h2⟩ => ⟨cs, h1, h2.mono hle⟩
theorem gL.len : ∀ {l : List A} {vs : List Value}, gL P κ l vs → l.length = vs.length
  | [], [], _ => rfl
  | _ :: _, _ :: _, ⟨_, h2⟩ => by simp [gL.len h2]
theorem gL.at : ∀ {l : List A} {vs : List Value} {i : Nat} {a : A}, gL P κ l vs → l[i]? = some a → ∃ v, vs[i]? = some v ∧ gA P κ a v
  | _ :: _, v :: _, 0, _, ⟨h1, _⟩, ha => by simp at ha; subst ha; exact ⟨v, rfl, h1⟩
  | _ :: _, _ :: _, i + 1, _, ⟨_, h2⟩, ha => by simpa using gL.at h2 (by simpa using ha)
theorem gL.of : ∀ {l : List A} {vs : List Value}, l.length = vs.length → (∀ (i : Nat) (a : A), l[i]? = some a → ∃ v, vs[i]? = some v ∧ gA P κ a v) → gL P κ l vs
  | [], [], _, _ => trivial
  | a :: l, v :: vs, hl, h => by
    obtain ⟨x, h1, h2⟩ := h 0 a rfl
    simp at h1
    subst h1
    exact ⟨h2, gL.of (by simpa using hl) fun i a ha => by simpa using h (i + 1) a (by simpa using ha)⟩
  | [], _ :: _, hl, _ => by simp at hl
  | _ :: _, [], hl, _ => by simp at hl
theorem gL.append : ∀ {a b : List A} {x y : List Value}, gL P κ a x → gL P κ b y → gL P κ (a ++ b) (x ++ y)
  | [], _, [], _, _, h => h
  | _ :: _, _, _ :: _, _, ⟨h1, h2⟩, h => ⟨h1, gL.append h2 h⟩
theorem gL.take : ∀ {a : List A} {x : List Value} (n : Nat), gL P κ a x → gL P κ (a.take n) (x.take n)
  | [], [], n, _ => by simp; trivial
  | _ :: _, _ :: _, 0, _ => trivial
  | _ :: _, _ :: _, n + 1, ⟨h1, h2⟩ => ⟨h1, gL.take n h2⟩
theorem gL.drop : ∀ {a : List A} {x : List Value} (n : Nat), gL P κ a x → gL P κ (a.drop n) (x.drop n)
  | [], [], n, _ => by simp; trivial
  | _ :: _, _ :: _, 0, h => h
  | _ :: _, _ :: _, n + 1, ⟨h1, h2⟩ => gL.drop n h2
theorem gV1s.at : ∀ {l : List V1} {vs : List Value} {i : Nat} {a : V1}, gV1s P κ l vs → l[i]? = some a → ∃ v, vs[i]? = some v ∧ gV1 P κ a v
  | _ :: _, v :: _, 0, _, ⟨h1, _⟩, ha => by simp at ha; subst ha; exact ⟨v, rfl, h1⟩
  | _ :: _, _ :: _, i + 1, _, ⟨_, h2⟩, ha => by simpa using gV1s.at h2 (by simpa using ha)
theorem gV1s.len : ∀ {l : List V1} {vs : List Value}, gV1s P κ l vs → l.length = vs.length
  | [], [], _ => rfl
  | _ :: _, _ :: _, ⟨_, h2⟩ => by simp [gV1s.len h2]
end
/-- Something is known of it. -/
def A.known : A → Bool
  | .any => false
  | _ => true
theorem gA.one {P : Program} {κ : Kr} {a : A} {v : Value} (ha : a.known = true) (h : gA P κ a v) : v.oneCell' = true := by
  cases a with
  | any => cases ha
  | d x => exact gD.one h
  | nil => rw [show v = _ from h]; rfl
  | sl => obtain ⟨Ad, c, rfl, _⟩ := h; rfl
  | ptr => obtain ⟨b, o, N, _, rfl⟩ := h; rfl
  | pe => obtain ⟨b, o, N, _, rfl⟩ := h; rfl
  | rp => obtain ⟨b, o, arr, ty, fr, rfl, _⟩ := h; rfl
  | lit b => obtain rfl := h; rfl
theorem gL.ones {P : Program} {κ : Kr} {l : List A} {vs : List Value} (hl : l.all A.known = true) (h : gL P κ l vs) : ∀ v ∈ vs, v.oneCell' = true := by
  intro v hv
  obtain ⟨i, hi, rfl⟩ := List.getElem_of_mem hv
  have h1 : i < l.length := by rw [h.len]; exact hi
  obtain ⟨v', h2, h3⟩ := h.at (i := i) (List.getElem?_eq_getElem h1)
  rw [List.getElem?_eq_getElem hi] at h2
  injection h2 with h2
  rw [h2]
  exact gA.one (List.all_eq_true.mp hl _ (List.getElem_mem h1)) h3

/-- A row of the call's own, as it lies in memory. -/
def RowIn (P : Program) (κ : Kr) (w : World) (id : Nat) (row : Row) : Prop :=
  (κ.at_ id = none ∧ row.as = []) ∨ ∃ b o N arr, κ.at_ id = some (b, o, N) ∧ κ.z b = none ∧ w.heap[b]? = some (.cells arr row.t (0, 0)) ∧ arr.size = N ∧ o + row.as.length ≤ N ∧
    ∀ (j : Nat) (a : A), row.as[j]? = some a → ∃ x, arr[o + j]? = some x ∧ gA P κ a x
abbrev Cs := Nat → Option Row
/-- Where a call began: its world, and what of it is known to stay. -/
structure Bs where
  w : World
  zz : Nat → Option Obj
  bs : List (Option (Nat × Nat × Nat))
/-- The blocks of lists. -/
def blocks (bs : List (Option (Nat × Nat × Nat))) : List Nat := bs.filterMap (fun o => o.map (·.1))
abbrev Bs.heap (b : Bs) : Array Obj := b.w.heap
/-- A world in which all is as said. -/
structure Inv (P : Program) (w0 : Bs) (κ : Kr) (C : Cs) (w : World) : Prop where
  os : w.os = w0.w.os
  tape : w.tape = w0.w.tape
  output : w.output = w0.w.output
  size : w0.heap.size ≤ w.heap.size
  base : ∀ b, b < w0.heap.size → b ∉ blocks w0.bs → w.heap[b]? = w0.heap[b]? ∧ ∀ x, κ.z b = some x → w0.zz b = some x
  z : ∀ b x, κ.z b = some x → w.heap[b]? = some x
  live : ∀ id row, C id = some row → RowIn P κ w id row
  apart : ∀ id id' row row' b o N o' N', C id = some row → C id' = some row' → κ.at_ id = some (b, o, N) → κ.at_ id' = some (b, o', N') → id = id'
  own : ∀ id row b o N, C id = some row → κ.at_ id = some (b, o, N) → w0.heap.size ≤ b ∨ b ∈ blocks w0.bs
/-- Fewer rows are spoken of. -/
theorem Inv.less {P : Program} {w0 : Bs} {κ : Kr} {C C' : Cs} {w : World} (h : Inv P w0 κ C w) (hc : ∀ id row, C' id = some row → C id = some row) : Inv P w0 κ C' w :=
  ⟨h.os, h.tape, h.output, h.size, h.base, h.z, fun id row hr => h.live id row (hc id row hr), fun id id' row row' b o N o' N' h1 h2 => h.apart id id' row row' b o N o' N' (hc _ _ h1) (hc _ _ h2), fun id row b o N h1 => h.own id row b o N (hc _ _ h1)⟩
theorem Inv.drew {P : Program} {w0 : Bs} {κ : Kr} {C : Cs} {w : World} (h : Inv P w0 κ C w) : Inv P w0 κ C w.drew :=
  ⟨h.os, h.tape, h.output, h.size, h.base, h.z, h.live, h.apart, h.own⟩
/-- What changes of the rows. -/
abbrev Us := List (Nat × Option Row)
def upd (C : Cs) (us : Us) : Cs := us.foldl (fun C p => fun id => if id = p.1 then p.2 else C id) C
def Kr.put (κ : Kr) (id : Nat) (x : Nat × Nat × Nat) : Kr := ⟨fun k => if k = id then some x else κ.at_ k, κ.z⟩
theorem Kr.le_put {κ : Kr} {id : Nat} {x : Nat × Nat × Nat} (h : κ.at_ id = none) : κ.le (κ.put id x) :=
  ⟨fun k y hy => by
    unfold Kr.put
    simp only
    split
    · rename_i e; subst e; rw [h] at hy; cases hy
    · exact hy, fun _ _ hx => hx⟩
section
variable {P : Program} {w0 : Bs} {κ : Kr} {C : Cs} {w : World}
theorem block_of {w : World} {b : Nat} {x : Obj} (h : w.heap[b]? = some x) : b < w.heap.size := (Array.getElem?_eq_some_iff.mp h).1
theorem Inv.zlt (h : Inv P w0 κ C w) {b : Nat} {x : Obj} (hx : κ.z b = some x) : b < w.heap.size := block_of (h.z b x hx)
theorem Inv.atlt (h : Inv P w0 κ C w) {id b o N : Nat} {row : Row} (hr : C id = some row) (ha : κ.at_ id = some (b, o, N)) : b < w.heap.size := by
  rcases h.live id row hr with ⟨h1, _⟩ | ⟨b', o', N', arr, h1, _, h2, _⟩
  · rw [h1] at ha; cases ha
  · rw [h1] at ha
    injection ha with ha
    injection ha with ha _
    subst ha
    exact block_of h2
/-- A row more, in a new block. -/
theorem Inv.alloc (h : Inv P w0 κ C w) {id : Nat} (hC : C id = none) (hA : κ.at_ id = none) (row : Row) (arr : Array Value) (hlen : row.as.length ≤ arr.size)
    (hr : ∀ (j : Nat) (a : A), row.as[j]? = some a → ∃ x, arr[j]? = some x ∧ gA P κ a x) :
    κ.le (κ.put id (w.heap.size, 0, arr.size)) ∧ Inv P w0 (κ.put id (w.heap.size, 0, arr.size)) (upd C [(id, some row)]) (w.alloc (.cells arr row.t)) := by
  have hle : κ.le (κ.put id (w.heap.size, 0, arr.size)) := Kr.le_put hA
  have old : ∀ b, b < w.heap.size → (w.alloc (.cells arr row.t)).heap[b]? = w.heap[b]? := fun b hb => Below.heap_alloc w _ b hb
  refine ⟨hle, h.os, h.tape, h.output, by have := h.size; simp; omega, fun b hb hW => ⟨(old b (Nat.lt_of_lt_of_le hb h.size)).trans (h.base b hb hW).1, (h.base b hb hW).2⟩, fun b x hx => ?_, fun k r hk => ?_, fun k k' r r' b o N o' N' h1 h2 h3 h4 => ?_, fun k r b o N h1 h3 => ?_⟩
  · have hx' : κ.z b = some x := hx
    rw [old b (h.zlt hx')]; exact h.z b x hx'
  · simp only [upd, List.foldl] at hk
    split at hk
    · rename_i e
      subst e
      injection hk with hk; subst hk
      refine .inr ⟨w.heap.size, 0, arr.size, arr, by simp [Kr.put], ?_, by show (w.heap.push _)[_]? = _; simp, rfl, by omega, fun j a ha => ?_⟩
      · show κ.z _ = none
        cases hz : κ.z w.heap.size with
        | none => rfl
        | some x => have := h.zlt hz; omega
      · obtain ⟨x, h1, h2⟩ := hr j a ha
        exact ⟨x, by simpa using h1, h2.mono hle⟩
    · rename_i hne
      rcases h.live k r hk with ⟨h1, h2⟩ | ⟨b, o, N, ar, h1, h2, h3, h4, h5, h6⟩
      · exact .inl ⟨by unfold Kr.put; simp only; rw [if_neg hne]; exact h1, h2⟩
      · refine .inr ⟨b, o, N, ar, hle.at_ _ _ h1, h2, by rw [old b (block_of h3)]; exact h3, h4, h5, fun j a ha => ?_⟩
        obtain ⟨x, g1, g2⟩ := h6 j a ha
        exact ⟨x, g1, g2.mono hle⟩
  · simp only [upd, List.foldl] at h1 h2
    have key : ∀ k r, (if k = id then some row else C k) = some r → k ≠ id → C k = some r := fun k r hk hne => by rwa [if_neg hne] at hk
    have fresh : ∀ k r b o N, C k = some r → κ.at_ k = some (b, o, N) → b ≠ w.heap.size := fun k r b o N hk ha e => by have := h.atlt hk ha; omega
    by_cases e1 : k = id <;> by_cases e2 : k' = id
    · rw [e1, e2]
    · exfalso
      have g2 := key k' r' h2 e2
      unfold Kr.put at h3 h4
      simp only [if_pos e1, if_neg e2] at h3 h4
      injection h3 with h3; injection h3 with h3 _
      exact fresh k' r' b o' N' g2 h4 h3.symm
    · exfalso
      have g1 := key k r h1 e1
      unfold Kr.put at h3 h4
      simp only [if_neg e1, if_pos e2] at h3 h4
      injection h4 with h4; injection h4 with h4 _
      exact fresh k r b o N g1 h3 h4.symm
    · have g1 := key k r h1 e1
      have g2 := key k' r' h2 e2
      unfold Kr.put at h3 h4
      simp only [if_neg e1, if_neg e2] at h3 h4
      exact h.apart k k' r r' b o N o' N' g1 g2 h3 h4
  · simp only [upd, List.foldl] at h1
    unfold Kr.put at h3
    simp only at h3
    split at h1
    · rename_i e
      rw [if_pos e] at h3
      injection h3 with h3; injection h3 with h3 _
      exact .inl (by have := h.size; omega)
    · rename_i e
      rw [if_neg e] at h3
      exact h.own k r b o N h1 h3
/-- The cells of a row's block change; the row is gone, and another one may lie in its block. -/
theorem Inv.reuse (h : Inv P w0 κ C w) {id b o N : Nat} {row : Row} (hr : C id = some row) (ha : κ.at_ id = some (b, o, N)) (arr' : Array Value) (hsz : arr'.size = N)
    (id' : Nat) (o' : Nat) (row' : Row) (hid : id' = id ∧ o' = o ∨ C id' = none ∧ κ.at_ id' = none) (hty : row'.t = row.t) (hlen : o' + row'.as.length ≤ N)
    (hcs : ∀ (j : Nat) (a : A), row'.as[j]? = some a → ∃ x, arr'[o' + j]? = some x ∧ gA P κ a x) (w' : World) (hw : w'.os = w.os ∧ w'.tape = w.tape ∧ w'.output = w.output ∧ w'.heap.size = w.heap.size)
    (hx : w'.heap[b]? = some (.cells arr' row.t (0, 0))) (ho : ∀ k, k ≠ b → w'.heap[k]? = w.heap[k]?) :
    ∃ κ', κ.le κ' ∧ κ'.at_ id' = some (b, o', N) ∧ (∀ k, k ≠ id' → κ'.at_ k = κ.at_ k) ∧ κ'.z = κ.z ∧ Inv P w0 κ' (upd C [(id, none), (id', some row')]) w' := by
  have hzb : κ.z b = none := by
    rcases h.live id row hr with ⟨h1, _⟩ | ⟨b2, o2, N2, arr, h1, h2, _⟩
    · rw [h1] at ha; cases ha
    · rw [h1] at ha
      injection ha with ha
      injection ha with ha _
      subst ha; exact h2
  have hκ : ∃ κ' : Kr, κ.le κ' ∧ κ'.at_ id' = some (b, o', N) ∧ (∀ k, k ≠ id' → κ'.at_ k = κ.at_ k) ∧ κ'.z = κ.z := by
    rcases hid with ⟨rfl, rfl⟩ | ⟨_, h2⟩
    · exact ⟨κ, Kr.le.refl κ, ha, fun _ _ => rfl, rfl⟩
    · exact ⟨κ.put id' (b, o', N), Kr.le_put h2, by simp [Kr.put], fun k hk => by unfold Kr.put; simp only; rw [if_neg hk], rfl⟩
  obtain ⟨κ', hle, k1, k2, k3⟩ := hκ
  refine ⟨κ', hle, k1, k2, k3, hw.1.trans h.os, hw.2.1.trans h.tape, hw.2.2.1.trans h.output, by rw [hw.2.2.2]; exact h.size, fun k hk hW => by rw [k3, ho k (fun e => by subst e; rcases h.own id row k o N hr ha with h9 | h9 <;> first | omega | exact hW h9)]; exact h.base k hk hW, fun k x hk => ?_, fun k r hk => ?_, fun k k' r r' b1 o1 N1 o2 N2 h1 h2 h3 h4 => ?_, fun k r b1 o1 N1 h1 h3 => ?_⟩
  · rw [k3] at hk
    rw [ho k (fun e => by rw [e, hzb] at hk; cases hk)]; exact h.z k x hk
  · simp only [upd, List.foldl] at hk
    split at hk
    · rename_i e
      subst e
      injection hk with hk; subst hk
      refine .inr ⟨b, o', N, arr', k1, by rw [k3]; exact hzb, by rw [hty]; exact hx, hsz, hlen, fun j a hj => ?_⟩
      obtain ⟨x, g1, g2⟩ := hcs j a hj
      exact ⟨x, g1, g2.mono hle⟩
    · rename_i hne
      split at hk
      · cases hk
      · rename_i hne2
        rcases h.live k r hk with ⟨h1, h2⟩ | ⟨b1, o1, N1, ar, h1, h2, h3, h4, h5, h6⟩
        · exact .inl ⟨by rw [k2 k hne]; exact h1, h2⟩
        · have hb : b1 ≠ b := fun e => by
            subst e
            exact hne2 (h.apart k id r row b1 o1 N1 o N hk hr h1 ha)
          refine .inr ⟨b1, o1, N1, ar, hle.at_ _ _ h1, by rw [k3]; exact h2, by rw [ho b1 hb]; exact h3, h4, h5, fun j a hj => ?_⟩
          obtain ⟨x, g1, g2⟩ := h6 j a hj
          exact ⟨x, g1, g2.mono hle⟩
  · simp only [upd, List.foldl] at h1 h2
    have key : ∀ k r, (if k = id' then some row' else if k = id then none else C k) = some r → k ≠ id' → k ≠ id ∧ C k = some r := fun k r hk hne => by
      rw [if_neg hne] at hk
      split at hk
      · cases hk
      · rename_i hne2; exact ⟨hne2, hk⟩
    by_cases e1 : k = id' <;> by_cases e2 : k' = id'
    · rw [e1, e2]
    · exfalso
      obtain ⟨g1, g2⟩ := key k' r' h2 e2
      rw [e1, k1] at h3
      rw [k2 k' e2] at h4
      injection h3 with h3; injection h3 with h3 _
      subst h3
      exact g1 (h.apart k' id r' row b o2 N2 o N g2 hr h4 ha)
    · exfalso
      obtain ⟨g1, g2⟩ := key k r h1 e1
      rw [e2, k1] at h4
      rw [k2 k e1] at h3
      injection h4 with h4; injection h4 with h4 _
      subst h4
      exact g1 (h.apart k id r row b o1 N1 o N g2 hr h3 ha)
    · obtain ⟨_, g2⟩ := key k r h1 e1
      obtain ⟨_, g3⟩ := key k' r' h2 e2
      rw [k2 k e1] at h3
      rw [k2 k' e2] at h4
      exact h.apart k k' r r' b1 o1 N1 o2 N2 g2 g3 h3 h4
  · simp only [upd, List.foldl] at h1
    split at h1
    · rename_i e
      subst e
      rw [k1] at h3
      injection h3 with h3; injection h3 with h3 _
      subst h3
      exact h.own id row b o N hr ha
    · rename_i e
      split at h1
      · cases h1
      rw [k2 k e] at h3
      exact h.own k r b1 o1 N1 h1 h3
/-- A row that never changes from here on. -/
theorem Inv.freeze (h : Inv P w0 κ C w) {id b o N : Nat} {row : Row} (hr : C id = some row) (ha : κ.at_ id = some (b, o, N)) :
    ∃ κ' arr, κ.le κ' ∧ κ'.at_ = κ.at_ ∧ w.heap[b]? = some (.cells arr row.t (0, 0)) ∧ κ'.z b = some (.cells arr row.t (0, 0)) ∧ (∀ (j : Nat) (a : A), row.as[j]? = some a → ∃ x, arr[o + j]? = some x ∧ gA P κ a x) ∧ o + row.as.length ≤ arr.size ∧ Inv P w0 κ' (upd C [(id, none)]) w := by
  rcases h.live id row hr with ⟨h1, _⟩ | ⟨b2, o2, N2, arr, h1, h2, h3, h4, h5, h6⟩
  · rw [h1] at ha; cases ha
  rw [h1] at ha
  injection ha with ha
  injection ha with e1 e2
  injection e2 with e2 e3
  subst e1; subst e2; subst e3
  have hle : κ.le ⟨κ.at_, fun k => if k = b2 then some (.cells arr row.t (0, 0)) else κ.z k⟩ := ⟨fun _ _ hx => hx, fun k x hx => by
    simp only
    split
    · rename_i e; subst e; rw [h2] at hx; cases hx
    · exact hx⟩
  refine ⟨_, arr, hle, rfl, h3, by simp, h6, by omega, h.os, h.tape, h.output, h.size, fun k hk hW => ⟨(h.base k hk hW).1, fun x hx => ?_⟩, fun k x hk => ?_, fun k r hk => ?_, fun k k' r r' b1 o1 N1 o2 N2 h1 h2 h3 h4 => ?_, fun k r b1 o1 N1 h1 h3 => ?_⟩
  · simp only at hx
    split at hx
    · rename_i e
      subst e
      rcases h.own id row k o2 N2 hr h1 with h9 | h9
      · omega
      · exact absurd h9 hW
    · exact (h.base k hk hW).2 x hx
  · simp only at hk
    split at hk
    · rename_i e
      subst e
      injection hk with hk; subst hk; exact h3
    · exact h.z k x hk
  · simp only [upd, List.foldl] at hk
    split at hk
    · cases hk
    · rename_i hne
      rcases h.live k r hk with ⟨g1, g2⟩ | ⟨b1, o1, N1, ar, g1, g2, g3, g4, g5, g6⟩
      · exact .inl ⟨g1, g2⟩
      · have hb : b1 ≠ b2 := fun e => by
          subst e
          exact hne (h.apart k id r row b1 o1 N1 o2 N2 hk hr g1 h1)
        refine .inr ⟨b1, o1, N1, ar, g1, by simp only; rw [if_neg hb]; exact g2, g3, g4, g5, fun j a hj => ?_⟩
        obtain ⟨x, q1, q2⟩ := g6 j a hj
        exact ⟨x, q1, q2.mono hle⟩
  · simp only [upd, List.foldl] at h1 h2
    split at h1
    · cases h1
    split at h2
    · cases h2
    exact h.apart k k' r r' b1 o1 N1 o2 N2 h1 h2 h3 h4
  · simp only [upd, List.foldl] at h1
    split at h1
    · cases h1
    exact h.own k r b1 o1 N1 h1 h3
end
end Go.Proofs.Ytplcdadedpbkpaa.Mini
end
section
/- Exact values: what one operation yields (numbers, texts, structs, loads, stores). -/
namespace Go.Proofs.Ytplcdadedpbkpaa.Mini
open Go Go.RowKit
set_option linter.unusedVariables false

def all_ : List Prop → Prop
  | [] => True
  | p :: ps => p ∧ all_ ps
theorem all_append : ∀ {a b : List Prop}, all_ (a ++ b) → all_ a ∧ all_ b
  | [], _, h => ⟨trivial, h⟩
  | _ :: _, _, ⟨h1, h2⟩ => ⟨⟨h1, (all_append h2).1⟩, (all_append h2).2⟩
/-- What must hold, what is yielded, what changes of the rows. -/
abbrev R := Option (List Prop × AV × Us)
def one (a : A) : AV := .v (.one a)
def int (k : IntKind) (n : Int) : AV := one (.d (.int k n))
def bool (b : Bool) : AV := one (.d (.bool b))
def str (s : ByteArray) : AV := one (.d (.str s))

/-- An operation yields what is said, and memory is as said. -/
def Yields (P : Program) (w0 : Bs) (κ : Kr) (C : Cs) (s : Result Next) (av : AV) (us : Us) : Prop :=
  ∃ n κ' w', s = .ok n w' ∧ κ.le κ' ∧ Inv P w0 κ' (upd C us) w' ∧ (∀ k, (∀ p ∈ us, p.1 ≠ k) → κ'.at_ k = κ.at_ k) ∧ ((∃ v, n = .value v ∧ gAV P κ' av v) ∨ (n = .skip ∧ av = anyV))
section
variable {P : Program} {w0 : Bs} {κ : Kr} {C : Cs} {w : World}
theorem Yields.val (hi : Inv P w0 κ C w) {av : AV} {v : Value} (h : gAV P κ av v) : Yields P w0 κ C (.ok (.value v) w) av [] :=
  ⟨_, κ, w, rfl, Kr.le.refl κ, hi, fun _ _ => rfl, .inl ⟨v, rfl, h⟩⟩
end

/-- Numbers that a kind of numbers has. -/
def inK : IntKind → Int → Prop
  | .i64, n => -9223372036854775808 ≤ n ∧ n ≤ 9223372036854775807
  | .u8, n => 0 ≤ n ∧ n ≤ 255
  | _, _ => False
theorem wrap_in {k : IntKind} {n : Int} (h : inK k n) : k.wrap n = n := by
  cases k <;> first | exact h.elim | skip
  · exact IntWalk.i64_in _ h
  · have h1 : 0 ≤ n ∧ n ≤ 255 := h
    simp [IntKind.wrap, IntKind.bits, IntKind.signed]; omega

/-! ### Numbers, texts, truth -/
def isBool : TypeDesc → Bool
  | .bool => true
  | _ => false
/-- Numbers compared. -/
def ltI (n m : Int) : Bool := decide (n < m)
def leI (n m : Int) : Bool := decide (n ≤ m)
theorem ltI_t {n m : Int} : (ltI n m = true) = (n < m) := by simp [ltI]
theorem ltI_f {n m : Int} : (ltI n m = false) = ¬ (n < m) := by simp [ltI]
theorem leI_t {n m : Int} : (leI n m = true) = (n ≤ m) := by simp [leI]
theorem leI_f {n m : Int} : (leI n m = false) = ¬ (n ≤ m) := by simp [leI]
def mBin (P : Program) (e : Operand → AV) (op : BinOp) (t : Nat) (x y : Operand) : R :=
  match e x, e y with
  | .v (.one (.d (.int k n))), .v (.one (.d (.int k' m))) =>
    if k = k' then
      match op with
      | .add => some ([inK k (n + m)], int k (n + m), [])
      | .sub => some ([inK k (n - m)], int k (n - m), [])
      | .mul => some ([inK k (n * m)], int k (n * m), [])
      | .quo => some ([m ≠ 0, inK k (n.tdiv m)], int k (n.tdiv m), [])
      | .rem => some ([m ≠ 0], int k (n.tmod m), [])
      | .eql => some ([], bool (n == m), [])
      | .neq => some ([], bool (n != m), [])
      | .lss => some ([], bool (ltI n m), [])
      | .leq => some ([], bool (leI n m), [])
      | .gtr => some ([], bool (ltI m n), [])
      | .geq => some ([], bool (leI m n), [])
      | _ => none
    else none
  | .v (.one (.d (.str s))), .v (.one (.d (.str r))) =>
    match op with
    | .add => some ([s.size + r.size ≤ 100000000], str (s ++ r), [])
    | .eql => some ([], bool (s.toList == r.toList), [])
    | .neq => some ([], bool (!(s.toList == r.toList)), [])
    | .lss => some ([], bool (Op.bytesLess s.toList r.toList), [])
    | .leq => some ([], bool (Op.bytesLess s.toList r.toList || s.toList == r.toList), [])
    | .gtr => some ([], bool (!(Op.bytesLess s.toList r.toList || s.toList == r.toList)), [])
    | .geq => some ([], bool (!(Op.bytesLess s.toList r.toList)), [])
    | _ => none
  | .v (.one (.d (.bool a))), .v (.one (.d (.bool b))) =>
    match ti P t with
    | some et => if isBool et.und = true then (match op with
      | .eql => some ([], bool (a == b), [])
      | .neq => some ([], bool (!(a == b)), [])
      | _ => none) else none
    | none => none
  | _, _ => none
def mUn (e : Operand → AV) (op : UnOp) (x : Operand) : R :=
  match op, e x with
  | .not, .v (.one (.d (.bool b))) => some ([], bool (!b), [])
  | .neg, .v (.one (.d (.int k n))) => some ([inK k (-n)], int k (-n), [])
  | _, _ => none
def isStr : TypeDesc → Bool
  | .string => true
  | _ => false
/-- The byte at a place of a text. -/
def byteI (s : ByteArray) (j : Nat) : Int := ((s.data.toList.getD j 0).toNat : Int)
def mIndex (P : Program) (e : Operand → AV) (t : Nat) (x ix : Operand) : R :=
  match ti P t, e x, e ix with
  | some et, .v (.one (.d (.str s))), .v (.one (.d (.int _ n))) => if isStr et.und = true then some ([0 ≤ n ∧ n < (s.size : Int)], int .u8 (byteI s n.toNat), []) else none
  | _, _, _ => none
def mConvI (P : Program) (e : Operand → AV) (src dst : Nat) (x : Operand) : R :=
  match ti P src, ti P dst, e x with
  | some _, some ed, .v (.one (.d (.int _ n))) =>
    match ed.und with
    | .int k => some ([inK k n], int k n, [])
    | _ => none
  | _, _, _ => none
/-- Known truths are put aside. -/
def lit (b : Bool) : AV := one (.lit b)
/-- What is picked: a constant is a known truth. -/
def pickV (x : Operand) (av : AV) : AV := match x with
  | .const _ => (match av with
    | .v (.one (.d (.bool true))) => lit true
    | .v (.one (.d (.bool false))) => lit false
    | y => y)
  | _ => av
def litB : AV → Option Bool
  | .v (.one (.lit b)) => some b
  | _ => none
def mPick (e : Operand → AV) (c a b : Operand) : R :=
  match litB (e c) with
  | some true => some ([], pickV a (e a), [])
  | some false => some ([], pickV b (e b), [])
  | none => none
def mExtract (e : Operand → AV) (x : Operand) (i : Nat) : R :=
  match e x with
  | .tup l => match l[i]? with | some y => some ([], .v y, []) | none => none
  | _ => none
section
variable {P : Program} {w0 : Bs} {κ : Kr} {C : Cs} {w : World} {ρ : Operand → Value} {e : Operand → AV} {ns : List Prop} {av : AV} {us : Us}
theorem gint {k : IntKind} {n : Int} {v : Value} (h : gAV P κ (int k n) v) : v = .int k n := by
  have h1 : gD P κ.z (.int k n) v := h
  unfold gD at h1; exact h1
theorem gint' (k : IntKind) (n : Int) : gAV P κ (int k n) (.int k n) := by show gD P κ.z (.int k n) _; unfold gD; rfl
theorem gbool {b : Bool} {v : Value} (h : gAV P κ (bool b) v) : v = .bool b := by
  have h1 : gD P κ.z (.bool b) v := h
  unfold gD at h1; exact h1
theorem gbool' (b : Bool) : gAV P κ (bool b) (.bool b) := by show gD P κ.z (.bool b) _; unfold gD; rfl
theorem gstr {s : ByteArray} {v : Value} (h : gAV P κ (str s) v) : v = .string s := by
  have h1 : gD P κ.z (.str s) v := h
  unfold gD at h1; exact h1
theorem gstr' (s : ByteArray) : gAV P κ (str s) (.string s) := by show gD P κ.z (.str s) _; unfold gD; rfl
theorem equal_bool {t : Nat} (hu : P.underlying t = some .bool) (a b : Bool) (w : World) : (Op.equal t (.bool a) (.bool b)).run P w = .ok (a == b) w := by
  show (Op.equalIn (9999 + 1) t _ _).run P w = _
  rw [Op.equalIn]
  simp [run_underlying hu]
theorem s_bin (hi : Inv P w0 κ C w) (he : ∀ x, gAV P κ (e x) (ρ x)) {op : BinOp} {t : Nat} {x y : Operand} (h : mBin P e op t x y = some (ns, av, us)) (hn : all_ ns) :
    Yields P w0 κ C ((do pure (.value (← (do eqGuard op t x y (ρ x) (ρ y); binOp op t (ρ x) (ρ y) : Sem Value))) : Sem Next).run P w) av us := by
  unfold mBin at h
  have hx := he x
  have hy := he y
  split at h <;> try (cases h; done)
  · rename_i k n k' m ex ey
    rw [ex] at hx
    rw [ey] at hy
    rw [gint hx, gint hy]
    split at h <;> try (cases h; done)
    rename_i hk
    subst hk
    cases op <;> simp only at h <;> try (cases h; done)
    all_goals
      injection h with h
      injection h with h1 h2
      injection h2 with h2 h3
      subst h1; subst h2; subst h3
    · have hr : (do pure (.value (← (do eqGuard .add t x y (.int k n) (.int k m); binOp .add t (.int k n) (.int k m) : Sem Value))) : Sem Next).run P w = .ok (.value (.int k (n + m))) w := by
        cases k <;> first | exact hn.1.elim | simp [eqGuard, binOp, Op.intArith, wrap_in hn.1]
      rw [hr]; exact .val hi (gint' _ _)
    · have hr : (do pure (.value (← (do eqGuard .sub t x y (.int k n) (.int k m); binOp .sub t (.int k n) (.int k m) : Sem Value))) : Sem Next).run P w = .ok (.value (.int k (n - m))) w := by
        cases k <;> first | exact hn.1.elim | simp [eqGuard, binOp, Op.intArith, wrap_in hn.1]
      rw [hr]; exact .val hi (gint' _ _)
    · have hr : (do pure (.value (← (do eqGuard .mul t x y (.int k n) (.int k m); binOp .mul t (.int k n) (.int k m) : Sem Value))) : Sem Next).run P w = .ok (.value (.int k (n * m))) w := by
        cases k <;> first | exact hn.1.elim | simp [eqGuard, binOp, Op.intArith, wrap_in hn.1]
      rw [hr]; exact .val hi (gint' _ _)
    · have hm : m ≠ 0 := hn.1
      have hr : (do pure (.value (← (do eqGuard .quo t x y (.int k n) (.int k m); binOp .quo t (.int k n) (.int k m) : Sem Value))) : Sem Next).run P w = .ok (.value (.int k (n.tdiv m))) w := by
        cases k <;> first | exact hn.2.1.elim | simp [eqGuard, binOp, Op.intDiv, hm, wrap_in hn.2.1]
      rw [hr]; exact .val hi (gint' _ _)
    · have hm : m ≠ 0 := hn.1
      have hr : (do pure (.value (← (do eqGuard .rem t x y (.int k n) (.int k m); binOp .rem t (.int k n) (.int k m) : Sem Value))) : Sem Next).run P w = .ok (.value (.int k (n.tmod m))) w := by
        simp [eqGuard, binOp, Op.intDiv, hm]
      rw [hr]; exact .val hi (gint' _ _)
    all_goals
      refine ⟨_, κ, w, ?_, Kr.le.refl κ, hi, fun _ _ => rfl, .inl ⟨_, rfl, gbool' _⟩⟩
      simp [eqGuard, binOp, Op.intCmp, ltI, leI]
      try rfl
  · rename_i s r ex ey
    rw [ex] at hx
    rw [ey] at hy
    rw [gstr hx, gstr hy]
    cases op <;> simp only at h <;> try (cases h; done)
    all_goals
      injection h with h
      injection h with h1 h2
      injection h2 with h2 h3
      subst h1; subst h2; subst h3
    · have hr : (do pure (.value (← (do eqGuard .add t x y (.string s) (.string r); binOp .add t (.string s) (.string r) : Sem Value))) : Sem Next).run P w = .ok (.value (.string (s ++ r))) w := by
        have hm : s.size + r.size ≤ 100000000 := hn.1
        simp [eqGuard, binOp, Op.stringOp]
        omega
      rw [hr]; exact .val hi (gstr' _)
    all_goals
      refine ⟨_, κ, w, ?_, Kr.le.refl κ, hi, fun _ _ => rfl, .inl ⟨_, rfl, gbool' _⟩⟩
      rfl
  · rename_i a b ex ey
    rw [ex] at hx
    rw [ey] at hy
    rw [gbool hx, gbool hy]
    split at h <;> try (cases h; done)
    rename_i et ht
    split at h <;> try (cases h; done)
    rename_i hbt
    have hu := (ti_spec ht).1
    have hud : et.und = .bool := by cases hd : et.und <;> rw [hd] at hbt <;> first | rfl | cases hbt
    rw [hud] at hu
    cases op <;> simp only at h <;> try (cases h; done)
    all_goals
      injection h with h
      injection h with h1 h2
      injection h2 with h2 h3
      subst h1; subst h2; subst h3
      refine ⟨_, κ, w, ?_, Kr.le.refl κ, hi, fun _ _ => rfl, .inl ⟨_, rfl, gbool' _⟩⟩
      simp [eqGuard, binOp, equal_bool hu]
theorem s_un (hi : Inv P w0 κ C w) (he : ∀ x, gAV P κ (e x) (ρ x)) {op : UnOp} {x : Operand} (h : mUn e op x = some (ns, av, us)) (hn : all_ ns) :
    Yields P w0 κ C ((do pure (.value (← Op.unary op (ρ x))) : Sem Next).run P w) av us := by
  unfold mUn at h
  have hx := he x
  split at h <;> try (cases h; done)
  all_goals
    rename_i ex
    rw [ex] at hx
    injection h with h
    injection h with h1 h2
    injection h2 with h2 h3
    subst h1; subst h2; subst h3
  · rw [gbool hx]; exact .val hi (gbool' _)
  · rename_i k n
    rw [gint hx]
    have hr : (do pure (.value (← Op.unary .neg (.int k n))) : Sem Next).run P w = .ok (.value (.int k (-n))) w := by
      cases k <;> first | exact hn.1.elim | simp [Op.unary, Op.intArith, wrap_in hn.1]
    rw [hr]; exact .val hi (gint' _ _)
theorem s_index (hi : Inv P w0 κ C w) (he : ∀ x, gAV P κ (e x) (ρ x)) {t : Nat} {x ix : Operand} (h : mIndex P e t x ix = some (ns, av, us)) (hn : all_ ns) :
    Yields P w0 κ C ((do pure (.value (← Instr.index t (ρ x) (ρ ix))) : Sem Next).run P w) av us := by
  unfold mIndex at h
  have hx := he x
  have hy := he ix
  split at h <;> try (cases h; done)
  rename_i et s k n ht ex ey
  rw [ex] at hx
  rw [ey] at hy
  rw [gstr hx, gint hy]
  split at h <;> try (cases h; done)
  rename_i hst
  have hu := (ti_spec ht).1
  have hud : et.und = .string := by cases hd : et.und <;> rw [hd] at hst <;> first | rfl | cases hst
  rw [hud] at hu
  injection h with h
  injection h with h1 h2
  injection h2 with h2 h3
  subst h1; subst h2; subst h3
  have hb : 0 ≤ n ∧ n < (s.size : Int) := hn.1
  have hlt : n.toNat < s.size := by omega
  have hlt2 : n.toNat < s.data.toList.length := by simpa using hlt
  have hr : (do pure (.value (← Instr.index t (.string s) (.int k n))) : Sem Next).run P w = .ok (.value (.int .u8 (byteI s n.toNat))) w := by
    have e1 : s[n.toNat]? = some s[n.toNat] := by rw [getElem?_pos]
    have e2 : byteI s n.toNat = (s[n.toNat].toNat : Int) := by
      unfold byteI
      rw [List.getD_eq_getElem?_getD, List.getElem?_eq_getElem hlt2]
      rfl
    simp [Instr.index, asIntOf, run_underlying hu, hb.1, e1, e2]
  rw [hr]; exact .val hi (gint' _ _)
theorem s_convI (hi : Inv P w0 κ C w) (he : ∀ x, gAV P κ (e x) (ρ x)) {src dst : Nat} {x : Operand} (h : mConvI P e src dst x = some (ns, av, us)) (hn : all_ ns) :
    Yields P w0 κ C ((do pure (.value (← convert src dst (ρ x))) : Sem Next).run P w) av us := by
  unfold mConvI at h
  have hx := he x
  split at h <;> try (cases h; done)
  rename_i es ed k n hs hd ex
  rw [ex] at hx
  rw [gint hx]
  have hus := (ti_spec hs).1
  have hud := (ti_spec hd).1
  split at h <;> try (cases h; done)
  rename_i k' hdd
  rw [hdd] at hud
  injection h with h
  injection h with h1 h2
  injection h2 with h2 h3
  subst h1; subst h2; subst h3
  have hr : (do pure (.value (← convert src dst (.int k n))) : Sem Next).run P w = .ok (.value (.int k' n)) w := by
    cases k' <;> first | exact hn.1.elim | simp [convert, run_underlying hus, run_underlying hud, Conv.intToInt, wrap_in hn.1]
  rw [hr]; exact .val hi (gint' _ _)
theorem glit {b : Bool} {v : Value} (h : gAV P κ (lit b) v) : v = .bool b := h
theorem pickV_sound {x : Operand} {y : AV} {v : Value} (h : gAV P κ y v) : gAV P κ (pickV x y) v := by
  unfold pickV
  split
  · split
    · exact gbool h
    · exact gbool h
    · exact h
  · exact h
theorem litB_spec {av : AV} {v : Bool} (h : litB av = some v) : av = lit v := by
  unfold litB at h
  split at h <;> try (cases h; done)
  injection h with h; subst h; rfl
theorem s_pick (hi : Inv P w0 κ C w) (he : ∀ x, gAV P κ (e x) (ρ x)) {c a b : Operand} (h : mPick e c a b = some (ns, av, us)) :
    Yields P w0 κ C ((do pure (.value (if ← asBool (ρ c) then ρ a else ρ b)) : Sem Next).run P w) av us := by
  unfold mPick at h
  have hc := he c
  split at h <;> try (cases h; done)
  all_goals
    rename_i ex
    rw [litB_spec ex] at hc
    injection h with h
    injection h with h1 h2
    injection h2 with h2 h3
    subst h1; subst h2; subst h3
    rw [glit hc]
  · exact .val hi (pickV_sound (he a))
  · exact .val hi (pickV_sound (he b))
theorem s_extract (hi : Inv P w0 κ C w) (he : ∀ x, gAV P κ (e x) (ρ x)) {x : Operand} {j : Nat} (h : mExtract e x j = some (ns, av, us)) :
    Yields P w0 κ C ((do pure (.value (← Instr.extract (ρ x) j)) : Sem Next).run P w) av us := by
  unfold mExtract at h
  have hx := he x
  split at h <;> try (cases h; done)
  rename_i l ex
  rw [ex] at hx
  obtain ⟨vs, h1, h2⟩ := hx
  rw [h1]
  split at h <;> try (cases h; done)
  rename_i y hy
  injection h with h
  injection h with h3 h4
  injection h4 with h4 h5
  subst h3; subst h4; subst h5
  obtain ⟨v, h3, h4⟩ := h2.at hy
  have hr : (do pure (.value (← Instr.extract (.tuple vs) j)) : Sem Next).run P w = .ok (.value v) w := by
    have : vs[j]? = some v := by rw [← Array.getElem?_toList]; exact h3
    simp [Instr.extract, this]
  rw [hr]
  exact .val hi h4
end
end Go.Proofs.Ytplcdadedpbkpaa.Mini
end
section
/- Exact values: structs, variables, loads and stores. -/
namespace Go.Proofs.Ytplcdadedpbkpaa.Mini
open Go Go.RowKit
set_option linter.unusedVariables false

/-! ### Constants, cells of values -/
def absZ : Value → A
  | .int k n => .d (.int k n)
  | .bool b => .d (.bool b)
  | .string s => .d (.str s)
  | .slice none 0 0 => .nil
  | _ => .any
def absC (v : Value) : AV :=
  match v with
  | .agg cs => .v (.agg (cs.toList.map absZ))
  | _ => .v (.one (absZ v))
def V1.cells : V1 → Option (List A)
  | .one a => if a.known = true then some [a] else none
  | .agg l => some l
def A.toD : A → Option D
  | .d x => some x
  | .nil => some (.list 0 0 [])
  | _ => none
def toDs : List A → Option (List D)
  | [] => some []
  | a :: l => match a.toD, toDs l with | some d, some ds => some (d :: ds) | _, _ => none
def rowD : Row → Option (List D)
  | .fix _ cs => toDs cs
  | .sym _ ds => some ds
section
variable {P : Program} {κ : Kr}
theorem gA_absZ (v : Value) : gA P κ (absZ v) v := by
  unfold absZ
  split
  · show gD P κ.z _ _; unfold gD; rfl
  · show gD P κ.z _ _; unfold gD; rfl
  · show gD P κ.z _ _; unfold gD; rfl
  · rfl
  · trivial
theorem gL_absZ : ∀ l : List Value, gL P κ (l.map absZ) l
  | [] => trivial
  | v :: l => ⟨gA_absZ v, gL_absZ l⟩
theorem absC_sound (v : Value) : gAV P κ (absC v) v := by
  unfold absC
  split
  · exact ⟨_, rfl, gL_absZ _⟩
  · exact gA_absZ _
theorem V1.cells_sound {x : V1} {v : Value} {l : List A} (h : x.cells = some l) (hg : gV1 P κ x v) : gL P κ l v.cells.toList := by
  cases x with
  | one a =>
    by_cases hk : a.known = true
    case neg => simp [V1.cells, hk] at h
    simp [V1.cells, hk] at h
    subst h
    have h3 := gA.one hk hg
    have h4 : v.cells = #[v] := by cases v <;> first | rfl | simp [Value.oneCell'] at h3
    rw [h4]
    exact ⟨hg, trivial⟩
  | agg m =>
    obtain ⟨cs, rfl, h1⟩ := hg
    simp [V1.cells] at h
    subst h
    exact h1
theorem A.toD_sound {a : A} {d : D} {v : Value} (h : a.toD = some d) (hg : gA P κ a v) : gD P κ.z d v := by
  cases a <;> simp [A.toD] at h
  · subst h; exact hg
  · subst h
    rw [show v = _ from hg]
    unfold gD
    exact ⟨none, 0, rfl, Nat.le_refl _, by simp, .inl rfl⟩
theorem toDs_at : ∀ {l : List A} {ds : List D}, toDs l = some ds → l.length = ds.length ∧ ∀ (j : Nat) (d : D), ds[j]? = some d → ∃ a, l[j]? = some a ∧ a.toD = some d
  | [], ds, h => by simp [toDs] at h; subst h; exact ⟨rfl, fun j d h => by simp at h⟩
  | a :: l, ds, h => by
    unfold toDs at h
    split at h <;> try (cases h; done)
    rename_i d ds' h1 h2
    injection h with h; subst h
    obtain ⟨g1, g2⟩ := toDs_at h2
    refine ⟨by simp [g1], fun j d' hd => ?_⟩
    cases j with
    | zero => simp at hd; subst hd; exact ⟨a, rfl, h1⟩
    | succ j => simpa using g2 j d' (by simpa using hd)
theorem rowD_at {row : Row} {ds : List D} (h : rowD row = some ds) : row.as.length = ds.length ∧ ∀ (j : Nat) (d : D), ds[j]? = some d → ∃ a, row.as[j]? = some a ∧ a.toD = some d := by
  cases row with
  | fix t cs => exact toDs_at h
  | sym t l =>
    simp [rowD] at h
    subst h
    exact ⟨by simp [Row.as], fun j d hd => ⟨.d d, by simp [Row.as, hd], rfl⟩⟩
/-- The cells of a row, as they lie. -/
theorem RowIn.ds {w : World} {id : Nat} {row : Row} {ds : List D} (h : RowIn P κ w id row) (hd : rowD row = some ds) :
    (κ.at_ id = none ∧ ds = []) ∨ ∃ b o N arr, κ.at_ id = some (b, o, N) ∧ κ.z b = none ∧ w.heap[b]? = some (.cells arr row.t (0, 0)) ∧ arr.size = N ∧ o + ds.length ≤ N ∧ ∀ (j : Nat) (d : D), ds[j]? = some d → ∃ x, arr[o + j]? = some x ∧ gD P κ.z d x := by
  obtain ⟨g1, g2⟩ := rowD_at hd
  rcases h with ⟨h1, h2⟩ | ⟨b, o, N, arr, h1, h2, h3, h4, h5, h6⟩
  · exact .inl ⟨h1, List.eq_nil_of_length_eq_zero (by rw [← g1, h2]; rfl)⟩
  · refine .inr ⟨b, o, N, arr, h1, h2, h3, h4, by omega, fun j d hj => ?_⟩
    obtain ⟨a, k1, k2⟩ := g2 j d hj
    obtain ⟨x, k3, k4⟩ := h6 j a k1
    exact ⟨x, k3, A.toD_sound k2 k4⟩
end

/-! ### Structs -/
def fieldOf (P : Program) (s : Nat) (f : Nat) : Option (Nat × Ti) :=
  match ti P s with
  | some e => match e.und with
    | .struct fs => match fs[f]? with
      | some fd => match ti P fd.type with
        | some g => some (fd.offset, g)
        | none => none
      | none => none
    | _ => none
  | none => none
def mField (P : Program) (e : Operand → AV) (s : Nat) (x : Operand) (f : Nat) : R :=
  match fieldOf P s f, e x with
  | some (o, g), .v (.agg l) =>
    if Typ.isStruct g.und = true then if o + g.size ≤ l.length then some ([], .v (.agg ((l.drop o).take g.size)), []) else none
    else if Typ.isFlat g.und = true then (match l[o]? with | some a => some ([], one a, []) | none => none) else none
  | _, _ => none
def mFieldAddr (P : Program) (e : Operand → AV) (s : Nat) (x : Operand) (f : Nat) : R :=
  match fieldOf P s f, e x with
  | some (o, _), .v (.one (.ptr id off)) => some ([], one (.ptr id (off + o)), [])
  | some (o, _), .v (.one (.pe u id i j)) => some ([], one (.pe u id i (j + o)), [])
  | some (o, _), .v (.one (.rp u ds i j)) => some ([], one (.rp u ds i (j + o)), [])
  | _, _ => none
def placesOf (P : Program) : List Field → Option (List (Nat × Nat))
  | [] => some []
  | f :: fs => match ti P f.type, placesOf P fs with
    | some g, some l => some ((f.offset, g.size) :: l)
    | _, _ => none
def afill (pl : Nat → Option (Nat × Nat)) : List A → List (Nat × AV) → Option (List A)
  | acc, [] => some acc
  | acc, (i, x) :: rest =>
    match pl i, x with
    | some (off, size), .v y => match y.cells with
      | some l => if l.length = size ∧ off + l.length ≤ acc.length then afill pl (acc.take off ++ l ++ acc.drop (off + l.length)) rest else none
      | none => none
    | _, _ => none
def mBuild (P : Program) (e : Operand → AV) (t : Nat) (parts : Array (Nat × Operand)) : R :=
  match ti P t with
  | some et => match et.und with
    | .struct fs => match placesOf P fs.toList with
      | some pl => match afill (fun i => pl[i]?) (et.zero.cells.toList.map absZ) (parts.toList.map fun p => (p.1, e p.2)) with
        | some l => some ([], .v (.agg l), [])
        | none => none
      | none => none
    | _ => none
  | none => none
def mAlloc (P : Program) (t nb : Nat) : R :=
  match ti P t with
  | some et => some ([], one (.ptr nb 0), [(nb, some (.fix t (et.zero.cells.toList.map absZ)))])
  | none => none
section
variable {P : Program} {w0 : Bs} {κ : Kr} {C : Cs} {w : World} {ρ : Operand → Value} {e : Operand → AV} {ns : List Prop} {av : AV} {us : Us}
theorem fieldOf_spec {s f o : Nat} {g : Ti} (h : fieldOf P s f = some (o, g)) :
    ∃ fs fd, P.underlying s = some (.struct fs) ∧ fs[f]? = some fd ∧ fd.offset = o ∧ ti P fd.type = some g := by
  unfold fieldOf at h
  split at h <;> try (cases h; done)
  rename_i es hs
  split at h <;> try (cases h; done)
  rename_i fs hfs
  split at h <;> try (cases h; done)
  rename_i fd hfd
  split at h <;> try (cases h; done)
  rename_i g' hg
  injection h with h
  injection h with h1 h2
  subst h2
  have hu := (ti_spec hs).1
  rw [hfs] at hu
  exact ⟨fs, fd, hu, hfd, h1, hg⟩
theorem s_field (hi : Inv P w0 κ C w) (he : ∀ x, gAV P κ (e x) (ρ x)) {s f : Nat} {x : Operand} (h : mField P e s x f = some (ns, av, us)) :
    Yields P w0 κ C ((do pure (.value (← Instr.field s (ρ x) f)) : Sem Next).run P w) av us := by
  unfold mField at h
  have hx := he x
  split at h <;> try (cases h; done)
  rename_i o g l hf ex
  rw [ex] at hx
  obtain ⟨cs, h1, h2⟩ := hx
  rw [h1]
  obtain ⟨fs, fd, hu, hfd, ho, hg⟩ := fieldOf_spec hf
  obtain ⟨hug, ⟨i, j1, j2, j3, j4⟩, _⟩ := ti_spec hg
  have hlen := h2.len
  split at h
  · rename_i hst
    obtain ⟨fs', hfs'⟩ := Typ.isStruct_not hst
    split at h <;> try (cases h; done)
    rename_i hle
    injection h with h
    injection h with h3 h4
    injection h4 with h4 h5
    subst h3; subst h4; subst h5
    have hr : (do pure (.value (← Instr.field s (.agg cs) f)) : Sem Next).run P w = .ok (.value (.agg (cs.extract o (o + g.size)))) w := by
      simp [Instr.field, run_underlying hu, hfd, asAgg, part, isAgg, run_underlying hug, hfs', sizeOf, Typ.run_info j1, j2, ho]
    rw [hr]
    refine .val hi ⟨_, rfl, ?_⟩
    have : (cs.extract o (o + g.size)).toList = (cs.toList.drop o).take g.size := by simp [List.extract_eq_take_drop]
    rw [this]
    exact (h2.drop o).take _
  · split at h <;> try (cases h; done)
    rename_i hfl
    split at h <;> try (cases h; done)
    rename_i a ha
    injection h with h
    injection h with h3 h4
    injection h4 with h4 h5
    subst h3; subst h4; subst h5
    obtain ⟨v, hv, hgv⟩ := h2.at ha
    have hv2 : cs[o]? = some v := by rw [← Array.getElem?_toList]; exact hv
    have hr : (do pure (.value (← Instr.field s (.agg cs) f)) : Sem Next).run P w = .ok (.value v) w := by
      cases hd : g.und <;> rw [hd] at hfl hug <;> simp [Typ.isFlat] at hfl <;> simp [Instr.field, run_underlying hu, hfd, asAgg, part, isAgg, run_underlying hug, ho, hv2]
    rw [hr]
    exact .val hi hgv
theorem fieldAt_run {s f o : Nat} {g : Ti} {fs : Array Field} {fd : Field} (hu : P.underlying s = some (.struct fs)) (hfd : fs[f]? = some fd) (ho : fd.offset = o) (hg : ti P fd.type = some g) (b p : Nat) :
    (do pure (.value (← Instr.fieldAt s (.pointer (some ⟨b, p, none⟩)) f)) : Sem Next).run P w = .ok (.value (.pointer (some ⟨b, p + o, none⟩))) w := by
  obtain ⟨hug, ⟨i, j1, j2, j3, j4⟩, hs1, _⟩ := ti_spec hg
  have hz : ¬ i.size = 0 := by omega
  simp [Instr.fieldAt, run_underlying hu, hfd, Instr.sureAddr, fieldPlace, sizeOf, Typ.run_info j1, hz, Typ.addr_add, ho]
theorem s_fieldAddr (hi : Inv P w0 κ C w) (he : ∀ x, gAV P κ (e x) (ρ x)) {s f : Nat} {x : Operand} (h : mFieldAddr P e s x f = some (ns, av, us)) :
    Yields P w0 κ C ((do pure (.value (← Instr.fieldAt s (ρ x) f)) : Sem Next).run P w) av us := by
  unfold mFieldAddr at h
  have hx := he x
  split at h <;> try (cases h; done)
  all_goals
    rename_i hf ex
    rw [ex] at hx
    obtain ⟨fs, fd, hu, hfd, ho, hg⟩ := fieldOf_spec hf
    injection h with h
    injection h with h3 h4
    injection h4 with h4 h5
    subst h3; subst h4; subst h5
  · obtain ⟨b, o1, N, h1, h2⟩ := hx
    rw [h2, fieldAt_run hu hfd ho hg]
    exact .val hi ⟨b, o1, N, h1, by rw [Nat.add_assoc]⟩
  · obtain ⟨b, o1, N, h1, h2⟩ := hx
    rw [h2, fieldAt_run hu hfd ho hg]
    exact .val hi ⟨b, o1, N, h1, by rw [Nat.add_assoc, Nat.add_assoc]⟩
  · obtain ⟨b, o1, arr, ty, fr, h2, h1⟩ := hx
    rw [h2, fieldAt_run hu hfd ho hg]
    exact .val hi ⟨b, o1, arr, ty, fr, by rw [Nat.add_assoc, Nat.add_assoc], h1⟩
theorem places_run : ∀ (fs : List Field) (pl : List (Nat × Nat)), placesOf P fs = some pl →
    (fs.mapM (fun f => do pure (f.offset, ← sizeOf f.type)) : Sem (List (Nat × Nat))).run P w = .ok pl w
  | [], pl, h => by simp [placesOf] at h; subst h; rfl
  | f :: fs, pl, h => by
    unfold placesOf at h
    split at h <;> try (cases h; done)
    rename_i g l hg hl
    injection h with h; subst h
    obtain ⟨hu, ⟨i, j1, j2, _⟩, _⟩ := ti_spec hg
    have ih := places_run fs l hl
    rw [List.mapM_cons]
    simp [sizeOf, Typ.run_info j1, j2] at ih ⊢
    simp [ih]
theorem fill_sound {pl place : Nat → Option (Nat × Nat)} (hp : ∀ i, place i = pl i) : ∀ (parts : List (Nat × AV)) (vs : List (Nat × Value)) (acc l : List A) (cs : Array Value),
    parts.length = vs.length → (∀ (k i : Nat) (x : AV), parts[k]? = some (i, x) → ∃ v, vs[k]? = some (i, v) ∧ gAV P κ x v) → gL P κ acc cs.toList → afill pl acc parts = some l →
    ∃ cs', Instr.fill place cs vs = some cs' ∧ gL P κ l cs'.toList
  | [], [], acc, l, cs, _, _, hg, h => by
    injection h with h; subst h
    exact ⟨cs, rfl, hg⟩
  | [], _ :: _, _, _, _, hl, _, _, _ => by simp at hl
  | _ :: _, [], _, _, _, hl, _, _, _ => by simp at hl
  | (i, x) :: parts, (j, v) :: vs, acc, l, cs, hl, hps, hg, h => by
    obtain ⟨v', h1, h2⟩ := hps 0 i x rfl
    injection h1 with h1
    injection h1 with h3 h4
    subst h3; subst h4
    unfold afill at h
    split at h <;> try (cases h; done)
    rename_i off size y hpl
    split at h <;> try (cases h; done)
    rename_i lc hlc
    split at h <;> try (cases h; done)
    rename_i hc
    have hcl := V1.cells_sound hlc h2
    have n1 := hcl.len
    have n2 := hg.len
    simp at n1 n2
    have hsz : off + v.cells.size ≤ cs.size := by omega
    unfold Instr.fill
    rw [hp, hpl]
    simp only
    rw [if_neg (show ¬ ((decide (v.cells.size ≠ size) || decide (off + v.cells.size > cs.size)) = true) by simp; omega)]
    refine fill_sound hp parts vs _ l _ (by simpa using hl) (fun k i x hk => hps (k + 1) i x (by simpa using hk)) ?_ h
    rw [Typ.fill_one off v cs hsz]
    rw [n1]
    exact ((hg.take off).append hcl).append (hg.drop _)
theorem parts_map (he : ∀ x, gAV P κ (e x) (ρ x)) (ps : List (Nat × Operand)) : ∀ (k i : Nat) (x : AV), (ps.map fun p => (p.1, e p.2))[k]? = some (i, x) → ∃ v, (ps.map fun p => (p.1, ρ p.2))[k]? = some (i, v) ∧ gAV P κ x v := by
  intro k i x hk
  rw [List.getElem?_map] at hk
  cases hp : ps[k]? with
  | none => rw [hp] at hk; cases hk
  | some p =>
    rw [hp] at hk
    injection hk with hk
    injection hk with h1 h2
    subst h1; subst h2
    exact ⟨ρ p.2, by rw [List.getElem?_map, hp]; rfl, he p.2⟩
theorem s_build (hi : Inv P w0 κ C w) (he : ∀ x, gAV P κ (e x) (ρ x)) {t : Nat} {parts : Array (Nat × Operand)} (h : mBuild P e t parts = some (ns, av, us)) :
    Yields P w0 κ C ((do pure (.value (← Instr.build t (parts.map fun (i, x) => (i, ρ x)))) : Sem Next).run P w) av us := by
  unfold mBuild at h
  split at h <;> try (cases h; done)
  rename_i et ht
  split at h <;> try (cases h; done)
  rename_i fs hfs
  split at h <;> try (cases h; done)
  rename_i pl hpl
  split at h <;> try (cases h; done)
  rename_i l hl
  injection h with h
  injection h with h3 h4
  injection h4 with h4 h5
  subst h3; subst h4; subst h5
  obtain ⟨hut, ⟨i, j1, j2, j3, j4⟩, _⟩ := ti_spec ht
  rw [hfs] at hut
  obtain ⟨cs', f1, f2⟩ := fill_sound (κ := κ) (place := (pl.toArray[·]?)) (fun i => by simp) _ (parts.toList.map fun p => (p.1, ρ p.2)) _ l et.zero.cells (by simp) (parts_map he parts.toList) (gL_absZ _) hl
  have hpr := places_run (P := P) (w := w) fs.toList pl hpl
  have hpr' : (fs.mapM (fun f => do pure (f.offset, ← sizeOf f.type)) : Sem (Array (Nat × Nat))).run P w = .ok pl.toArray w := by
    rw [Array.mapM_eq_mapM_toList]
    simp only [Sem.run_map, hpr]
    rfl
  have hr : (do pure (.value (← Instr.build t (parts.map fun (i, x) => (i, ρ x)))) : Sem Next).run P w = .ok (.value (.agg cs')) w := by
    have hm : (parts.map fun (i, x) => (i, ρ x)).toList = parts.toList.map fun p => (p.1, ρ p.2) := by simp
    simp only [Instr.build, Sem.run_bind, zeroValue, Typ.run_info j1, j4, Result.andThen_ok, run_underlying hut, Sem.run_pure, hpr', hm]
    rw [f1]
    rfl
  rw [hr]
  exact .val hi ⟨cs', rfl, f2⟩
theorem upd_one (C : Cs) (id : Nat) (r : Option Row) (k : Nat) : upd C [(id, r)] k = if k = id then r else C k := rfl
theorem put_other {κ : Kr} {id : Nat} {x : Nat × Nat × Nat} {k : Nat} (h : k ≠ id) : (κ.put id x).at_ k = κ.at_ k := by unfold Kr.put; simp only; rw [if_neg h]
theorem s_alloc (hi : Inv P w0 κ C w) {t nb : Nat} (h : mAlloc P t nb = some (ns, av, us)) (hC : C nb = none) (hA : κ.at_ nb = none) :
    Yields P w0 κ C ((do pure (.value (← Instr.alloc t true (.tuple #[]))) : Sem Next).run P w) av us := by
  unfold mAlloc at h
  split at h <;> try (cases h; done)
  rename_i et ht
  injection h with h
  injection h with h3 h4
  injection h4 with h4 h5
  subst h3; subst h4; subst h5
  obtain ⟨hu, ⟨i, h1, h2, h3, h4⟩, _⟩ := ti_spec ht
  obtain ⟨hle, hinv⟩ := hi.alloc hC hA (.fix t (et.zero.cells.toList.map absZ)) et.zero.cells (by simp [Row.as]) (fun j a ha => by
    obtain ⟨x, g1, g2⟩ := (gL_absZ (P := P) (κ := κ) et.zero.cells.toList).at ha
    exact ⟨x, by rw [← Array.getElem?_toList]; exact g1, g2⟩)
  refine ⟨_, _, _, ?_, hle, hinv, fun k hk => put_other (fun e => hk _ (List.mem_singleton.mpr rfl) e.symm), .inl ⟨.pointer (some ⟨w.heap.size, 0, none⟩), rfl, w.heap.size, 0, _, by unfold Kr.put; simp only [if_true]; rfl, by simp⟩⟩
  simp [Instr.alloc, zeroValue, Typ.run_info h1, h4, newVar, newRow, Row.t]
end

/-! ### Loads -/
inductive Kd where
  | int (k : IntKind)
  | bool
  | str
  | list (t : Nat)
  deriving DecidableEq
def kinds (P : Program) : Nat → Nat → Option (List Kd)
  | 0, _ => none
  | f + 1, t => match P.underlying t with
    | some (.int k) => some [.int k]
    | some .bool => some [.bool]
    | some .string => some [.str]
    | some (.slice el) => some [.list el]
    | some (.struct fs) => fs.toList.foldr (fun fd acc => match kinds P f fd.type, acc with | some a, some b => some (a ++ b) | _, _ => none) (some [])
    | _ => none
def selI (ds : List D) (j : Nat) : Int := match ds[j]? with | some (.int _ n) => n | _ => 0
def selB (ds : List D) (j : Nat) : Bool := match ds[j]? with | some (.bool b) => b | _ => false
def selS (ds : List D) (j : Nat) : ByteArray := match ds[j]? with | some (.str s) => s | _ => ByteArray.empty
def selN (ds : List D) (j : Nat) : Nat := match ds[j]? with | some (.list _ n _) => n | _ => 0
def selL (ds : List D) (j : Nat) : List D := match ds[j]? with | some (.list _ _ l) => l | _ => []
def sel (ds : List D) (j : Nat) : Kd → D
  | .int k => .int k (selI ds j)
  | .bool => .bool (selB ds j)
  | .str => .str (selS ds j)
  | .list t => .list t (selN ds j) (selL ds j)
/-- Cells that are read: what must hold of them, what they are. -/
def needK (ds : List D) (j : Nat) : Kd → Prop
  | .list t => ds[j]? = some (.list t (selN ds j) (selL ds j)) ∨ ds[j]? = some (.list 0 0 [])
  | k => ds[j]? = some (sel ds j k)
def needs (ds : List D) : Nat → List Kd → List Prop
  | _, [] => []
  | j, k :: ks => needK ds j k :: needs ds (j + 1) ks
def sels (ds : List D) : Nat → List Kd → List A
  | _, [] => []
  | j, k :: ks => .d (sel ds j k) :: sels ds (j + 1) ks
def loadD (P : Program) (et : Ti) (t : Nat) (ds : List D) (j : Nat) : R :=
  match kinds P 6 t with
  | some ks => if ks.length = et.size then
      if Typ.isStruct et.und = true then some (needs ds j ks, .v (.agg (sels ds j ks)), [])
      else if Typ.isFlat et.und = true then (match ks with | [k] => some ([needK ds j k], one (.d (sel ds j k)), []) | _ => none) else none
    else none
  | none => none
def mLoad (P : Program) (e : Operand → AV) (g : Cs) (t : Nat) (x : Operand) : R :=
  match e x, ti P t with
  | .v (.one (.ptr id off)), some et =>
    match g id with
    | some (.fix _ cs) =>
      if Typ.isStruct et.und = true then if off + et.size ≤ cs.length then some ([], .v (.agg ((cs.drop off).take et.size)), []) else none
      else if Typ.isFlat et.und = true then (match cs[off]? with | some a => some ([], one a, []) | none => none) else none
    | _ => none
  | .v (.one (.pe u id i j)), some et =>
    match g id with
    | some row => match rowD row with
      | some ds => loadD P et t ds (i * sz P u + j)
      | none => none
    | none => none
  | .v (.one (.rp u ds i j)), some et => loadD P et t ds (i * sz P u + j)
  | _, _ => none
section
variable {P : Program} {w0 : Bs} {κ : Kr} {C : Cs} {w : World} {ρ : Operand → Value} {e : Operand → AV} {ns : List Prop} {av : AV} {us : Us}
theorem cell_of {b i : Nat} {arr : Array Value} {ty : TypeId} {fr : Nat × Nat} {x : Value} (h : w.heap[b]? = some (.cells arr ty fr)) (hx : arr[i]? = some x) : w.cell? ⟨b, i, none⟩ = some x := by simp [World.cell?, h, hx]
theorem run_load_struct {t b p : Nat} {arr : Array Value} {ty : TypeId} {fr : Nat × Nat} {et : Ti} (ht : ti P t = some et) (hst : Typ.isStruct et.und = true) (h : w.heap[b]? = some (.cells arr ty fr)) (vs : List Value) (hl : vs.length = et.size)
    (hv : ∀ (j : Nat) (x : Value), vs[j]? = some x → arr[p + j]? = some x) : (loadVar t ⟨b, p, none⟩).run P w = .ok (.agg vs.toArray) w := by
  obtain ⟨hu, ⟨i, j1, j2, j3, j4⟩, _⟩ := ti_spec ht
  obtain ⟨fs, hfs⟩ := Typ.isStruct_not hst
  have := run_loadCells_list (P := P) w ⟨b, p, none⟩ vs (fun j v hj => by
    rw [Typ.addr_add]
    exact cell_of h (hv j v hj))
  rw [hl] at this
  simp [loadVar, isAgg, run_underlying hu, hfs, sizeOf, Typ.run_info j1, j2, this]
theorem run_load_flat {t b p : Nat} {arr : Array Value} {ty : TypeId} {fr : Nat × Nat} {et : Ti} {x : Value} (ht : ti P t = some et) (hfl : Typ.isFlat et.und = true) (h : w.heap[b]? = some (.cells arr ty fr)) (hx : arr[p]? = some x) :
    (loadVar t ⟨b, p, none⟩).run P w = .ok x w := by
  have hu := (ti_spec ht).1
  have hc := cell_of h hx
  cases hd : et.und <;> rw [hd] at hfl hu <;> simp [Typ.isFlat] at hfl <;> simp [loadVar, isAgg, run_underlying hu, hc]
theorem gD_nil {z : Nat → Option Obj} {t : Nat} {v : Value} (h : gD P z (.list 0 0 []) v) : gD P z (.list t 0 []) v := by
  unfold gD at h ⊢
  obtain ⟨Ad, c, h1, h2, _, _⟩ := h
  exact ⟨Ad, c, h1, h2, by simp, .inl rfl⟩
/-- What is read of a cell that is as it must be. -/
theorem needK_sel {z : Nat → Option Obj} {ds : List D} {j : Nat} {k : Kd} (h : needK ds j k) : ∃ d, ds[j]? = some d ∧ ∀ v, gD P z d v → gD P z (sel ds j k) v := by
  cases k with
  | list t =>
    rcases h with h | h
    · exact ⟨_, h, fun _ hv => hv⟩
    · refine ⟨_, h, fun v hv => ?_⟩
      have e1 : selN ds j = 0 := by unfold selN; rw [h]
      have e2 : selL ds j = [] := by unfold selL; rw [h]
      show gD P z (.list t (selN ds j) (selL ds j)) v
      rw [e1, e2]; exact gD_nil hv
  | _ => exact ⟨_, h, fun _ hv => hv⟩
theorem needs_sels {z : Nat → Option Obj} {ds : List D} {arr : Array Value} {o : Nat} (hd : ∀ (j : Nat) (d : D), ds[j]? = some d → ∃ x, arr[o + j]? = some x ∧ gD P z d x) {κ : Kr} (hz : κ.z = z) :
    ∀ (ks : List Kd) (j : Nat), all_ (needs ds j ks) → ∃ vs : List Value, vs.length = ks.length ∧ (∀ (q : Nat) (x : Value), vs[q]? = some x → arr[o + j + q]? = some x) ∧ gL P κ (sels ds j ks) vs
  | [], j, _ => ⟨[], rfl, fun q x h => by simp at h, trivial⟩
  | k :: ks, j, ⟨h1, h2⟩ => by
    obtain ⟨d, hd1, hd2⟩ := needK_sel (P := P) (z := z) h1
    obtain ⟨x, h3, h4⟩ := hd j d hd1
    obtain ⟨vs, g1, g2, g3⟩ := needs_sels hd hz ks (j + 1) h2
    refine ⟨x :: vs, by simp [g1], fun q y hq => ?_, ?_, g3⟩
    · cases q with
      | zero => simp at hq; subst hq; exact h3
      | succ q =>
        have := g2 q y (by simpa using hq)
        rw [show o + j + (q + 1) = o + (j + 1) + q by omega]; exact this
    · show gD P κ.z _ _
      rw [hz]; exact hd2 _ h4
theorem loadD_sound {et : Ti} {t b o j : Nat} {ds : List D} {arr : Array Value} {ty : TypeId} {fr : Nat × Nat} (hi : Inv P w0 κ C w) (ht : ti P t = some et) (h : loadD P et t ds j = some (ns, av, us)) (hn : all_ ns)
    (hb : w.heap[b]? = some (.cells arr ty fr)) (hd : ∀ (j : Nat) (d : D), ds[j]? = some d → ∃ x, arr[o + j]? = some x ∧ gD P κ.z d x) :
    ∃ v, (loadVar t ⟨b, o + j, none⟩).run P w = .ok v w ∧ gAV P κ av v ∧ us = [] := by
  unfold loadD at h
  split at h <;> try (cases h; done)
  rename_i ks hks
  split at h <;> try (cases h; done)
  rename_i hlen
  split at h
  · rename_i hst
    injection h with h
    injection h with h3 h4
    injection h4 with h4 h5
    subst h3; subst h4; subst h5
    obtain ⟨vs, g1, g2, g3⟩ := needs_sels hd rfl ks j hn
    exact ⟨_, run_load_struct ht hst hb vs (by omega) g2, ⟨_, rfl, by simpa using g3⟩, rfl⟩
  · split at h <;> try (cases h; done)
    rename_i hfl
    split at h <;> try (cases h; done)
    rename_i k _
    injection h with h
    injection h with h3 h4
    injection h4 with h4 h5
    subst h3; subst h4; subst h5
    obtain ⟨d, hd1, hd2⟩ := needK_sel (P := P) (z := κ.z) hn.1
    obtain ⟨x, g1, g2⟩ := hd j d hd1
    exact ⟨x, run_load_flat ht hfl hb g1, hd2 _ g2, rfl⟩
theorem s_load0 (hi : Inv P w0 κ C w) (he : ∀ x, gAV P κ (e x) (ρ x)) {g : Cs} (hg : ∀ id row, g id = some row → C id = some row) {t : Nat} {x : Operand} (h : mLoad P e g t x = some (ns, av, us)) (hn : all_ ns) :
    ∃ a v, ρ x = .pointer (some a) ∧ (loadVar t a).run P w = .ok v w ∧ gAV P κ av v ∧ us = [] := by
  unfold mLoad at h
  have hx := he x
  split at h <;> try (cases h; done)
  · rename_i id off et ex ht
    rw [ex] at hx
    obtain ⟨b, o, N, h1, h2⟩ := hx
    split at h <;> try (cases h; done)
    rename_i u cs hrow
    rcases hi.live id _ (hg _ _ hrow) with ⟨g1, _⟩ | ⟨b2, o2, N2, arr, g1, g2, g3, g4, g5, g6⟩
    · rw [g1] at h1; cases h1
    rw [g1] at h1
    injection h1 with h1
    injection h1 with e1 e2
    injection e2 with e2 e3
    subst e1; subst e2; subst e3
    rw [h2]
    split at h
    · rename_i hst
      split at h <;> try (cases h; done)
      rename_i hle
      injection h with h
      injection h with h3 h4
      injection h4 with h4 h5
      subst h3; subst h4; subst h5
      have hall : ∃ vs : List Value, vs.length = et.size ∧ (∀ (q : Nat) (x : Value), vs[q]? = some x → arr[o2 + off + q]? = some x) ∧ gL P κ ((cs.drop off).take et.size) vs := by
        refine ⟨(arr.toList.drop (o2 + off)).take et.size, ?_, fun q x hq => ?_, gL.of ?_ (fun q a hq => ?_)⟩
        · change o2 + cs.length ≤ N2 at g5
          simp; omega
        · have hql := (List.getElem?_eq_some_iff.mp hq).1
          simp at hql
          rw [List.getElem?_take_of_lt (by omega), List.getElem?_drop] at hq
          simpa using hq
        · change o2 + cs.length ≤ N2 at g5
          simp; omega
        · have hql := (List.getElem?_eq_some_iff.mp hq).1
          simp at hql
          rw [List.getElem?_take_of_lt (by omega), List.getElem?_drop] at hq
          obtain ⟨x, k1, k2⟩ := g6 _ a hq
          refine ⟨x, ?_, k2⟩
          rw [List.getElem?_take_of_lt (by omega), List.getElem?_drop]
          rw [show o2 + off + q = o2 + (off + q) by omega]
          simpa using k1
      obtain ⟨vs, k1, k2, k3⟩ := hall
      exact ⟨_, _, rfl, run_load_struct ht hst g3 vs k1 k2, ⟨_, rfl, by simpa using k3⟩, rfl⟩
    · split at h <;> try (cases h; done)
      rename_i hfl
      split at h <;> try (cases h; done)
      rename_i a ha
      injection h with h
      injection h with h3 h4
      injection h4 with h4 h5
      subst h3; subst h4; subst h5
      obtain ⟨x, k1, k2⟩ := g6 _ a ha
      exact ⟨_, _, rfl, run_load_flat ht hfl g3 k1, k2, rfl⟩
  · rename_i u id i j et ex ht
    rw [ex] at hx
    obtain ⟨b, o, N, h1, h2⟩ := hx
    split at h <;> try (cases h; done)
    rename_i row hrow
    split at h <;> try (cases h; done)
    rename_i ds hds
    rcases (hi.live id _ (hg _ _ hrow)).ds hds with ⟨g1, _⟩ | ⟨b2, o2, N2, arr, g1, g2, g3, g4, g5, g6⟩
    · rw [g1] at h1; cases h1
    rw [g1] at h1
    injection h1 with h1
    injection h1 with e1 e2
    injection e2 with e2 e3
    subst e1; subst e2; subst e3
    rw [h2]
    obtain ⟨v, k1, k2, k3⟩ := loadD_sound hi ht h hn g3 g6
    exact ⟨_, v, rfl, k1, k2, k3⟩
  · rename_i u ds i j et ex ht
    rw [ex] at hx
    obtain ⟨b, o, arr, ty, fr, h2, h3, h4⟩ := hx
    rw [h2]
    obtain ⟨v, k1, k2, k3⟩ := loadD_sound (o := o) hi ht h hn (hi.z _ _ h3) (fun q d hq => by
      obtain ⟨x, m1, m2⟩ := h4.at q d hq
      rw [List.getElem?_drop] at m1
      exact ⟨x, by simpa using m1, m2⟩)
    exact ⟨_, v, rfl, k1, k2, k3⟩
theorem s_load (hi : Inv P w0 κ C w) (he : ∀ x, gAV P κ (e x) (ρ x)) {g : Cs} (hg : ∀ id row, g id = some row → C id = some row) {t : Nat} {x : Operand} (h : mLoad P e g t x = some (ns, av, us)) (hn : all_ ns) :
    Yields P w0 κ C ((do pure (.value (← Instr.loadAt t (ρ x))) : Sem Next).run P w) av us := by
  obtain ⟨a, v, h1, h2, h3, h4⟩ := s_load0 hi he hg h hn
  subst h4
  rw [h1]
  have : (do pure (.value (← Instr.loadAt t (.pointer (some a)))) : Sem Next).run P w = .ok (.value v) w := by
    simp [Instr.loadAt, Instr.sureAddr, h2]
  rw [this]
  exact .val hi h3
end
end Go.Proofs.Ytplcdadedpbkpaa.Mini
end
section
/- Exact values: stores, places in lists, what is frozen. -/
namespace Go.Proofs.Ytplcdadedpbkpaa.Mini
open Go Go.RowKit
set_option linter.unusedVariables false

def kill (ks : List Nat) : Us := ks.map fun k => (k, none)
/-- A value that lies in a list for good. -/
def frz (P : Program) (g : Cs) (a : A) : Option (List Prop × D × List Nat) :=
  match a with
  | .d x => some ([], x, [])
  | .nil => some ([], .list 0 0 [], [])
  | .sl t id off len => match g id with
    | some row => match rowD row with
      | some ds => some ([(off + len) * sz P t ≤ ds.length], .list t len ((ds.drop (off * sz P t)).take (len * sz P t)), [id])
      | none => none
    | none => none
  | _ => none
def frzL (P : Program) (g : Cs) : List A → Option (List Prop × List D × List Nat)
  | [] => some ([], [], [])
  | a :: l => match frz P g a, frzL P g l with
    | some (n1, d, k1), some (n2, ds, k2) => if (k1.all fun i => !k2.contains i) = true then some (n1 ++ n2, d :: ds, k1 ++ k2) else none
    | _, _ => none
def setL (ds : List D) (p : Nat) (ls : List D) : List D := ds.take p ++ ls ++ ds.drop (p + ls.length)
def mStore (P : Program) (e : Operand → AV) (g : Cs) (t : Nat) (x y : Operand) : R :=
  match e x, e y, ti P t with
  | .v (.one (.ptr id off)), .v y, some et =>
    match g id, y.cells with
    | some (.fix u cs), some l =>
      if et.size = l.length ∧ off + l.length ≤ cs.length ∧ l.all A.known = true then
        some ([], anyV, [(id, none), (id, some (.fix u (cs.take off ++ l ++ cs.drop (off + l.length))))])
      else none
    | _, _ => none
  | .v (.one (.pe u id i j)), .v y, some et =>
    match g id, y.cells with
    | some row, some l =>
      match rowD row, frzL P g l with
      | some ds, some (n, ls, ks) =>
        if et.size = l.length ∧ l.all A.known = true ∧ ks.contains id = false then
          some (n ++ [i * sz P u + j + ls.length ≤ ds.length], anyV, kill ks ++ [(id, none), (id, some (.sym row.t (setL ds (i * sz P u + j) ls)))])
        else none
      | _, _ => none
    | _, _ => none
  | _, _, _ => none
def isSl : TypeDesc → Option Nat
  | .slice el => some el
  | _ => none
def mIndexAddr (P : Program) (e : Operand → AV) (t : Nat) (x ix : Operand) : R :=
  match ti P t, e x, e ix with
  | some et, .v (.one (.sl u id off len)), .v (.one (.d (.int _ n))) =>
    match isSl et.und, ti P u with
    | some el, some _ => if el = u then some ([0 ≤ n ∧ n < (len : Int)], one (.pe u id (off + n.toNat) 0), []) else none
    | _, _ => none
  | some et, .v (.one (.d (.list u m ds))), .v (.one (.d (.int _ n))) =>
    match isSl et.und, ti P u with
    | some el, some _ => if el = u then some ([0 ≤ n ∧ n < (m : Int)], one (.rp u ds n.toNat 0), []) else none
    | _, _ => none
  | _, _, _ => none
section
variable {P : Program} {w0 : Bs} {κ : Kr} {C : Cs} {w : World} {ρ : Operand → Value} {e : Operand → AV} {ns : List Prop} {av : AV} {us : Us}
theorem upd_append (C : Cs) (a b : Us) : upd C (a ++ b) = upd (upd C a) b := by unfold upd; rw [List.foldl_append]
theorem upd_kill (C : Cs) : ∀ (ks : List Nat) (k : Nat), upd C (kill ks) k = if ks.contains k = true then none else C k := by
  intro ks
  induction ks generalizing C with
  | nil => intro k; rfl
  | cons i ks ih =>
    intro k
    show upd (fun id => if id = i then none else C id) (kill ks) k = _
    rw [ih]
    by_cases h1 : ks.contains k = true
    · rw [if_pos h1, if_pos (by simp at h1 ⊢; exact .inr h1)]
    · rw [if_neg h1]
      by_cases h2 : k = i
      · subst h2; simp
      · rw [if_neg h2, if_neg (by simp at h1 ⊢; exact ⟨h2, h1⟩)]
theorem isSl_spec {d : TypeDesc} {el : Nat} (h : isSl d = some el) : d = .slice el := by
  cases d <;> simp [isSl] at h
  subst h; rfl
/-- What a list is that lies in one of the call's rows. -/
theorem frz_sound {g : Cs} {a : A} {n : List Prop} {d : D} {ks : List Nat} (h : frz P g a = some (n, d, ks)) (hn : all_ n) (hi : Inv P w0 κ C w) (hg : ∀ id, id ∈ ks → ∀ row, g id = some row → C id = some row) {v : Value} (hv : gA P κ a v) :
    ∃ κ', κ.le κ' ∧ κ'.at_ = κ.at_ ∧ Inv P w0 κ' (upd C (kill ks)) w ∧ gD P κ'.z d v := by
  unfold frz at h
  split at h <;> try (cases h; done)
  · injection h with h; injection h with h1 h2; injection h2 with h2 h3
    subst h2; subst h3
    exact ⟨κ, Kr.le.refl κ, rfl, hi, hv⟩
  · injection h with h; injection h with h1 h2; injection h2 with h2 h3
    subst h2; subst h3
    exact ⟨κ, Kr.le.refl κ, rfl, hi, A.toD_sound (a := .nil) rfl hv⟩
  · rename_i t id off len
    split at h <;> try (cases h; done)
    rename_i row hrow
    split at h <;> try (cases h; done)
    rename_i ds hds
    injection h with h; injection h with h1 h2; injection h2 with h2 h3
    subst h1; subst h2; subst h3
    have hCr := hg id (by simp) row hrow
    obtain ⟨Ad, c, rfl, hc, hv⟩ := hv
    have hle : (off + len) * sz P t ≤ ds.length := hn.1
    rw [Nat.add_mul] at hle
    have hl : ((ds.drop (off * sz P t)).take (len * sz P t)).length = len * sz P t := by simp; omega
    have hkill : upd C (kill [id]) = upd C [(id, none)] := rfl
    rcases (hi.live id row hCr).ds hds with ⟨g1, g2⟩ | ⟨b, o, N, arr, g1, g2, g3, g4, g5, g6⟩
    · have hz : len = 0 := by
        rcases hv with ⟨hv, _⟩ | ⟨b, o, N, hv, _⟩
        · exact hv
        · rw [g1] at hv; cases hv
      refine ⟨κ, Kr.le.refl κ, rfl, hi.less (fun k r hk => ?_), ?_⟩
      · rw [upd_kill] at hk
        split at hk
        · cases hk
        · exact hk
      · unfold gD
        exact ⟨Ad, c, rfl, hc, hl, .inl hz⟩
    · obtain ⟨κ', arr', q1, q2, q3, q4, q5, q6, q7⟩ := hi.freeze hCr g1
      refine ⟨κ', q1, q2, q7, ?_⟩
      unfold gD
      refine ⟨Ad, c, rfl, hc, hl, ?_⟩
      rcases hv with ⟨hv, _⟩ | ⟨b', o', N', hv, rfl, hv2⟩
      · exact .inl hv
      rw [g1] at hv
      injection hv with hv; injection hv with e1 e2; injection e2 with e2 e3
      subst e1; subst e2; subst e3
      refine .inr ⟨b, o + off * sz P t, arr', row.t, (0, 0), rfl, q4, gDs.of fun j d hj => ?_⟩
      have hjl : j < len * sz P t := by have := (List.getElem?_eq_some_iff.mp hj).1; simp at this; omega
      rw [List.getElem?_take_of_lt hjl, List.getElem?_drop] at hj
      rw [g3] at q3
      injection q3 with q3; injection q3 with q3
      subst q3
      obtain ⟨x, k1, k2⟩ := g6 _ d hj
      refine ⟨x, ?_, gD.mono q1.z k2⟩
      rw [List.getElem?_drop, show o + off * sz P t + j = o + (off * sz P t + j) by omega]
      simpa using k1
theorem frzL_sound {g : Cs} : ∀ {l : List A} {n : List Prop} {ds : List D} {ks : List Nat} {κ : Kr} {C : Cs}, frzL P g l = some (n, ds, ks) → all_ n → Inv P w0 κ C w → (∀ id, id ∈ ks → ∀ row, g id = some row → C id = some row) → ∀ {vs : List Value}, gL P κ l vs →
    ∃ κ', κ.le κ' ∧ κ'.at_ = κ.at_ ∧ Inv P w0 κ' (upd C (kill ks)) w ∧ ds.length = vs.length ∧ ∀ (j : Nat) (d : D), ds[j]? = some d → ∃ x, vs[j]? = some x ∧ gD P κ'.z d x
  | [], n, ds, ks, κ, C, h, hn, hi, hg, vs, hv => by
    injection h with h; injection h with h1 h2; injection h2 with h2 h3
    subst h2; subst h3
    have hl := hv.len
    exact ⟨κ, Kr.le.refl κ, rfl, hi, hl, fun j d hj => by simp at hj⟩
  | a :: l, n, ds, ks, κ, C, h, hn, hi, hg, v :: vs, ⟨hv1, hv2⟩ => by
    unfold frzL at h
    split at h <;> try (cases h; done)
    rename_i n1 d k1 n2 ds2 k2 h1 h2
    split at h <;> try (cases h; done)
    rename_i hk
    injection h with h; injection h with e1 e2; injection e2 with e2 e3
    subst e1; subst e2; subst e3
    obtain ⟨hn1, hn2⟩ := all_append hn
    obtain ⟨κ1, a1, a2, a3, a4⟩ := frz_sound h1 hn1 hi (fun id hid => hg id (List.mem_append_left _ hid)) hv1
    obtain ⟨κ2, b1, b2, b3, b4, b5⟩ := frzL_sound h2 hn2 a3 (fun id hid row hr => by
      rw [upd_kill, if_neg (fun hc => ?_)]
      · exact hg id (List.mem_append_right _ hid) row hr
      · have := List.all_eq_true.mp hk id (by simpa using hc)
        simp at this
        exact this hid) (hv2.mono a1)
    refine ⟨κ2, a1.trans b1, b2.trans a2, ?_, by simp [b4], fun j d' hj => ?_⟩
    · have : kill (k1 ++ k2) = kill k1 ++ kill k2 := by simp [kill]
      rw [this, upd_append]
      exact b3
    · cases j with
      | zero => simp at hj; subst hj; exact ⟨v, rfl, gD.mono b1.z a4⟩
      | succ j => simpa using b5 j d' (by simpa using hj)
theorem setRow_other (w : World) (b : Nat) (a : Array Value) (k : Nat) (h : k ≠ b) : (w.setRow b a).heap[k]? = w.heap[k]? := by
  unfold World.setRow
  simp only
  rw [Array.getElem?_modify, if_neg (fun e => h e.symm)]
theorem setRow_size (w : World) (b : Nat) (a : Array Value) : (w.setRow b a).heap.size = w.heap.size := by simp [World.setRow]
/-- Cells that are set: what a place holds behind it. -/
theorem spliced {arr : Array Value} {p : Nat} {vs : List Value} (hp : p + vs.length ≤ arr.size) (i : Nat) :
    ((arr.toList.take p ++ vs ++ arr.toList.drop (p + vs.length)).toArray)[i]? = if i < p then arr[i]? else if i < p + vs.length then vs[i - p]? else arr[i]? := by
  rw [List.getElem?_toArray]
  by_cases h1 : i < p
  · rw [if_pos h1, List.getElem?_append_left (by simp; omega), List.getElem?_append_left (by simp; omega), List.getElem?_take_of_lt h1]
    simp
  · rw [if_neg h1]
    have hl : (arr.toList.take p).length = p := by simp; omega
    by_cases h2 : i < p + vs.length
    · rw [if_pos h2, List.getElem?_append_left (by simp; omega), List.getElem?_append_right (by omega), hl]
    · rw [if_neg h2, List.getElem?_append_right (by simp; omega), List.getElem?_drop, List.length_append, hl, show p + vs.length + (i - (p + vs.length)) = i by omega]
      simp
theorem setL_at {ds : List D} {p : Nat} {ls : List D} (hp : p + ls.length ≤ ds.length) (i : Nat) :
    (setL ds p ls)[i]? = if i < p then ds[i]? else if i < p + ls.length then ls[i - p]? else ds[i]? := by
  unfold setL
  have hl : (ds.take p).length = p := by simp; omega
  by_cases h1 : i < p
  · rw [if_pos h1, List.getElem?_append_left (by simp; omega), List.getElem?_append_left (by omega), List.getElem?_take_of_lt h1]
  · rw [if_neg h1]
    by_cases h2 : i < p + ls.length
    · rw [if_pos h2, List.getElem?_append_left (by simp; omega), List.getElem?_append_right (by omega), hl]
    · rw [if_neg h2, List.getElem?_append_right (by simp; omega), List.getElem?_drop, List.length_append, hl, show p + ls.length + (i - (p + ls.length)) = i by omega]
theorem setL_len {ds : List D} {p : Nat} {ls : List D} (hp : p + ls.length ≤ ds.length) : (setL ds p ls).length = ds.length := by unfold setL; simp; omega
theorem storeAt_run {t b p : Nat} {et : Ti} (ht : ti P t = some et) {v : Value} (hv : v.cells.size = et.size) {arr : Array Value} {ty : TypeId} (h : w.heap[b]? = some (.cells arr ty (0, 0))) (hp : p + v.cells.size ≤ arr.size) (h1 : ∀ u ∈ v.cells.toList, u.oneCell' = true) :
    (do Instr.storeAt t (.pointer (some ⟨b, p, none⟩)) v; pure .skip : Sem Next).run P w = .ok .skip (w.setRow b (arr.toList.take p ++ v.cells.toList ++ arr.toList.drop (p + v.cells.toList.length)).toArray) := by
  obtain ⟨_, ⟨i, j1, j2, j3, j4⟩, _⟩ := ti_spec ht
  have hst := run_storeCells_at P b p ty v.cells.toList 0 arr w h (by simpa using hp) h1
  simp only [Nat.add_zero] at hst
  have hsz : v.cells.size = i.size := by omega
  simp [Instr.storeAt, Instr.sureAddr, storeVar, sizeOf, Typ.run_info j1, hsz] at hst ⊢
  rw [hst]
  rfl
theorem s_store (hi : Inv P w0 κ C w) (he : ∀ x, gAV P κ (e x) (ρ x)) {g : Cs} (hg : ∀ id row, g id = some row → C id = some row) {t : Nat} {x y : Operand} (h : mStore P e g t x y = some (ns, av, us)) (hn : all_ ns) :
    Yields P w0 κ C ((do Instr.storeAt t (ρ x) (ρ y); pure .skip : Sem Next).run P w) av us := by
  unfold mStore at h
  have hx := he x
  have hy := he y
  split at h <;> try (cases h; done)
  · rename_i id off yv et ex ey ht
    rw [ex] at hx
    rw [ey] at hy
    obtain ⟨b, o, N, h1, h2⟩ := hx
    split at h <;> try (cases h; done)
    rename_i u cs l hrow hl
    split at h <;> try (cases h; done)
    rename_i hc
    obtain ⟨c1, c2, c3⟩ := hc
    injection h with h; injection h with e1 e2; injection e2 with e2 e3
    subst e1; subst e2; subst e3
    have hcl := V1.cells_sound hl hy
    have hlen := hcl.len
    have hCr := hg _ _ hrow
    rcases hi.live id _ hCr with ⟨g1, _⟩ | ⟨b2, o2, N2, arr, g1, g2, g3, g4, g5, g6⟩
    · rw [g1] at h1; cases h1
    rw [g1] at h1
    injection h1 with h1; injection h1 with e1 e2; injection e2 with e2 e3
    subst e1; subst e2; subst e3
    change o2 + cs.length ≤ N2 at g5
    have hcs : (ρ y).cells.size = l.length := by rw [hlen]; simp
    have hp : o2 + off + (ρ y).cells.toList.length ≤ arr.size := by simp; omega
    rw [h2]
    have hr := storeAt_run (b := b2) (p := o2 + off) ht (v := ρ y) (by omega) g3 (by omega) (gL.ones c3 hcl)
    have hrel : ∀ (j : Nat) (a : A), (Row.fix u (cs.take off ++ l ++ cs.drop (off + l.length))).as[j]? = some a → ∃ x, ((arr.toList.take (o2 + off) ++ (ρ y).cells.toList ++ arr.toList.drop (o2 + off + (ρ y).cells.toList.length)).toArray)[o2 + j]? = some x ∧ gA P κ a x := by
      intro j a hj
      rw [spliced hp]
      change (cs.take off ++ l ++ cs.drop (off + l.length))[j]? = some a at hj
      have hl1 : (cs.take off).length = off := by simp; omega
      by_cases j1 : j < off
      · rw [List.getElem?_append_left (by simp; omega), List.getElem?_append_left (by omega), List.getElem?_take_of_lt j1] at hj
        obtain ⟨x, k1, k2⟩ := g6 j a hj
        exact ⟨x, by rw [if_pos (by omega)]; exact k1, k2⟩
      · by_cases j2 : j < off + l.length
        · rw [List.getElem?_append_left (by simp; omega), List.getElem?_append_right (by omega), hl1] at hj
          obtain ⟨x, k1, k2⟩ := hcl.at hj
          exact ⟨x, by rw [if_neg (by omega), if_pos (by rw [← hlen]; omega), show o2 + j - (o2 + off) = j - off by omega]; exact k1, k2⟩
        · rw [List.getElem?_append_right (by simp; omega), List.getElem?_drop, List.length_append, hl1, show off + l.length + (j - (off + l.length)) = j by omega] at hj
          obtain ⟨x, k1, k2⟩ := g6 j a hj
          exact ⟨x, by rw [if_neg (by omega), if_neg (by rw [← hlen]; omega)]; exact k1, k2⟩
    obtain ⟨κ', q1, q2, q3, q4, q5⟩ := hi.reuse hCr g1 _ (by simp; omega) id o2 (.fix u (cs.take off ++ l ++ cs.drop (off + l.length))) (.inl ⟨rfl, rfl⟩) rfl (by simp [Row.as]; omega) hrel (w.setRow b2 (arr.toList.take (o2 + off) ++ (ρ y).cells.toList ++ arr.toList.drop (o2 + off + (ρ y).cells.toList.length)).toArray) ⟨rfl, rfl, rfl, setRow_size _ _ _⟩ (setRow_heap w b2 arr _ _ (0, 0) g3) (fun k hk => setRow_other _ _ _ _ hk)
    refine ⟨_, κ', _, hr, q1, q5, fun k hk => q3 k (fun e => hk (id, none) (by simp) e.symm), .inr ⟨rfl, rfl⟩⟩
  · rename_i u id i j0 yv et ex ey ht
    rw [ex] at hx
    rw [ey] at hy
    obtain ⟨b, o, N, h1, h2⟩ := hx
    split at h <;> try (cases h; done)
    rename_i row l hrow hl
    split at h <;> try (cases h; done)
    rename_i ds n ls ks hds hfz
    split at h <;> try (cases h; done)
    rename_i hc
    obtain ⟨c1, c2, c3⟩ := hc
    injection h with h; injection h with e1 e2; injection e2 with e2 e3
    subst e1; subst e2; subst e3
    obtain ⟨hn1, hn2⟩ := all_append hn
    have hcl := V1.cells_sound hl hy
    have hlen := hcl.len
    obtain ⟨κ1, a1, a2, a3, a4, a5⟩ := frzL_sound hfz hn1 hi (fun k _ row hr => hg k row hr) hcl
    have hCr : upd C (kill ks) id = some row := by rw [upd_kill, if_neg (by rw [c3]; simp)]; exact hg _ _ hrow
    have h1' : κ1.at_ id = some (b, o, N) := by rw [a2]; exact h1
    rcases (a3.live id _ hCr).ds hds with ⟨g1, _⟩ | ⟨b2, o2, N2, arr, g1, g2, g3, g4, g5, g6⟩
    · rw [g1] at h1'; cases h1'
    rw [g1] at h1'
    injection h1' with h1'; injection h1' with e1 e2; injection e2 with e2 e3
    subst e1; subst e2; subst e3
    have hfit : i * sz P u + j0 + ls.length ≤ ds.length := hn2.1
    generalize hpp : i * sz P u + j0 = pp at hfit h2 ⊢
    have hcs : (ρ y).cells.size = l.length := by rw [hlen]; simp
    have hls : ls.length = (ρ y).cells.size := by rw [a4]; simp
    have hp : o2 + pp + (ρ y).cells.toList.length ≤ arr.size := by simp; omega
    rw [h2]
    have hr := storeAt_run (b := b2) (p := o2 + pp) ht (v := ρ y) (by omega) g3 (by omega) (gL.ones c2 hcl)
    have hrel : ∀ (j : Nat) (a : A), (Row.sym row.t (setL ds pp ls)).as[j]? = some a → ∃ x, ((arr.toList.take (o2 + pp) ++ (ρ y).cells.toList ++ arr.toList.drop (o2 + pp + (ρ y).cells.toList.length)).toArray)[o2 + j]? = some x ∧ gA P κ1 a x := by
      intro j a hj
      simp only [Row.as, List.getElem?_map] at hj
      obtain ⟨d, hd, rfl⟩ := Option.map_eq_some_iff.mp hj
      rw [spliced hp]
      rw [setL_at hfit] at hd
      by_cases j1 : j < pp
      · rw [if_pos j1] at hd
        obtain ⟨x, k1, k2⟩ := g6 j d hd
        exact ⟨x, by rw [if_pos (by omega)]; exact k1, k2⟩
      · rw [if_neg j1] at hd
        by_cases j2 : j < pp + ls.length
        · rw [if_pos j2] at hd
          obtain ⟨x, k1, k2⟩ := a5 _ d hd
          exact ⟨x, by rw [if_neg (by omega), if_pos (by rw [← a4]; omega), show o2 + j - (o2 + pp) = j - pp by omega]; exact k1, k2⟩
        · rw [if_neg j2] at hd
          obtain ⟨x, k1, k2⟩ := g6 j d hd
          exact ⟨x, by rw [if_neg (by omega), if_neg (by rw [← a4]; omega)]; exact k1, k2⟩
    obtain ⟨κ', q1, q2, q3, q4, q5⟩ := a3.reuse hCr g1 _ (by simp; omega) id o2 (.sym row.t (setL ds pp ls)) (.inl ⟨rfl, rfl⟩) rfl (by simp [Row.as, setL_len hfit]; omega) hrel (w.setRow b2 (arr.toList.take (o2 + pp) ++ (ρ y).cells.toList ++ arr.toList.drop (o2 + pp + (ρ y).cells.toList.length)).toArray) ⟨rfl, rfl, rfl, setRow_size _ _ _⟩ (setRow_heap w b2 arr _ _ (0, 0) g3) (fun k hk => setRow_other _ _ _ _ hk)
    refine ⟨_, κ', _, hr, a1.trans q1, by rw [upd_append]; exact q5, fun k hk => ?_, .inr ⟨rfl, rfl⟩⟩
    rw [q3 k (fun e => hk (id, none) (by simp) e.symm), a2]
theorem s_indexAddr (hi : Inv P w0 κ C w) (he : ∀ x, gAV P κ (e x) (ρ x)) {t : Nat} {x ix : Operand} (h : mIndexAddr P e t x ix = some (ns, av, us)) (hn : all_ ns) :
    Yields P w0 κ C ((do pure (.value (← Instr.indexAt t (ρ x) (ρ ix))) : Sem Next).run P w) av us := by
  unfold mIndexAddr at h
  have hx := he x
  have hix := he ix
  split at h <;> try (cases h; done)
  · rename_i et u id off len kk n ht ex eix
    rw [ex] at hx
    rw [eix] at hix
    split at h <;> try (cases h; done)
    rename_i el eu hel hu
    split at h <;> try (cases h; done)
    rename_i hc
    subst hc
    injection h with h; injection h with e1 e2; injection e2 with e2 e3
    subst e1; subst e2; subst e3
    have hb : 0 ≤ n ∧ n < (len : Int) := hn.1
    obtain ⟨Ad, c, h1, h2, h3⟩ := hx
    have hut := (ti_spec ht).1
    rw [isSl_spec hel] at hut
    obtain ⟨_, ⟨i, j1, j2, j3, j4⟩, _⟩ := ti_spec hu
    rw [h1, gint hix]
    rcases h3 with ⟨h3, _⟩ | ⟨b, o, N, h4, rfl, h5⟩
    · omega
    have hr : (do pure (.value (← Instr.indexAt t (.slice (some ⟨b, o + off * sz P el, none⟩) len c) (.int kk n))) : Sem Next).run P w = .ok (.value (.pointer (some ⟨b, o + ((off + n.toNat) * sz P el + 0), none⟩))) w := by
      simp [Instr.indexAt, asIntOf, run_underlying hut, hb, sizeOf, Typ.run_info j1, j2, Typ.addr_add, sz_of hu, Nat.add_mul, Nat.add_assoc]
    rw [hr]
    exact .val hi ⟨b, o, N, h4, rfl⟩
  · rename_i et u m ds kk n ht ex eix
    rw [ex] at hx
    rw [eix] at hix
    split at h <;> try (cases h; done)
    rename_i el eu hel hu
    split at h <;> try (cases h; done)
    rename_i hc
    subst hc
    injection h with h; injection h with e1 e2; injection e2 with e2 e3
    subst e1; subst e2; subst e3
    have hb : 0 ≤ n ∧ n < (m : Int) := hn.1
    have hx' : gD P κ.z (.list el m ds) (ρ x) := hx
    unfold gD at hx'
    obtain ⟨Ad, c, h1, h2, h3, h4⟩ := hx'
    have hut := (ti_spec ht).1
    rw [isSl_spec hel] at hut
    obtain ⟨_, ⟨i, j1, j2, j3, j4⟩, _⟩ := ti_spec hu
    rw [h1, gint hix]
    rcases h4 with h4 | ⟨b, o, arr, ty, fr, rfl, h4, h5⟩
    · omega
    have hr : (do pure (.value (← Instr.indexAt t (.slice (some ⟨b, o, none⟩) m c) (.int kk n))) : Sem Next).run P w = .ok (.value (.pointer (some ⟨b, o + (n.toNat * sz P el + 0), none⟩))) w := by
      simp [Instr.indexAt, asIntOf, run_underlying hut, hb, sizeOf, Typ.run_info j1, j2, Typ.addr_add, sz_of hu]
    rw [hr]
    exact .val hi ⟨b, o, arr, ty, fr, rfl, h4, h5⟩
end
end Go.Proofs.Ytplcdadedpbkpaa.Mini
end
section
/- Exact values: lists. -/
namespace Go.Proofs.Ytplcdadedpbkpaa.Mini
open Go Go.RowKit
set_option linter.unusedVariables false

def bnd (e : Operand → AV) : Option Operand → Option (Option Int)
  | none => some none
  | some x => match e x with | .v (.one (.d (.int _ n))) => some (some n) | _ => none
def mSlice (P : Program) (e : Operand → AV) (t : Nat) (x : Operand) (lo hi mx : Option Operand) : R :=
  match ti P t, mx, bnd e lo, bnd e hi with
  | some et, none, some a, some b =>
    match e x with
    | .v (.one (.d (.str s))) => if isStr et.und = true then
        some ([0 ≤ a.getD 0 ∧ a.getD 0 ≤ b.getD s.size ∧ b.getD s.size ≤ (s.size : Int)], str (s.extract (a.getD 0).toNat (b.getD s.size).toNat), []) else none
    | .v (.one (.sl u id off len)) =>
      match isSl et.und, ti P u with
      | some el, some _ => if el = u then
          some ([0 ≤ a.getD 0 ∧ a.getD 0 ≤ b.getD len ∧ b.getD len ≤ (len : Int)], one (.sl u id (off + (a.getD 0).toNat) (b.getD len - a.getD 0).toNat), []) else none
      | _, _ => none
    | .v (.one (.d (.list u m ds))) =>
      match isSl et.und, ti P u with
      | some el, some _ => if el = u then
          some ([0 ≤ a.getD 0 ∧ a.getD 0 ≤ b.getD m ∧ b.getD m ≤ (m : Int)], one (.d (.list u (b.getD m - a.getD 0).toNat ((ds.drop ((a.getD 0).toNat * sz P u)).take ((b.getD m - a.getD 0).toNat * sz P u)))), []) else none
      | _, _ => none
    | _ => none
  | _, _, _, _ => none
def mLen (P : Program) (ts : Array Nat) (args : List AV) : R :=
  match ts.toList, args with
  | [t], [.v (.one a)] =>
    match ti P t with
    | some et => match a with
      | .d (.str s) => if isStr et.und = true then some ([], int .i64 s.size, []) else none
      | .d (.list _ n _) => if (isSl et.und).isSome = true then some ([], int .i64 n, []) else none
      | .sl _ _ _ n => if (isSl et.und).isSome = true then some ([], int .i64 n, []) else none
      | .nil => if (isSl et.und).isSome = true then some ([], int .i64 0, []) else none
      | _ => none
    | none => none
  | _, _ => none
def rep {α : Type} (n : Nat) (l : List α) : List α := (List.replicate n l).flatten
theorem rep_len {α : Type} (n : Nat) (l : List α) : (rep n l).length = n * l.length := by simp [rep]
theorem rep_at {α : Type} (l : List α) : ∀ (n j : Nat) (d : α), (rep n l)[j]? = some d → j < n * l.length ∧ l[j % l.length]? = some d
  | 0, j, d, h => by simp [rep] at h
  | n + 1, j, d, h => by
    have e : rep (n + 1) l = l ++ rep n l := by simp [rep, List.replicate_succ]
    rw [e] at h
    by_cases hj : j < l.length
    · rw [List.getElem?_append_left hj] at h
      have : 1 * l.length ≤ (n + 1) * l.length := Nat.mul_le_mul_right _ (by omega)
      exact ⟨by omega, by rw [Nat.mod_eq_of_lt hj]; exact h⟩
    · rw [List.getElem?_append_right (by omega)] at h
      obtain ⟨h1, h2⟩ := rep_at l n _ d h
      refine ⟨by rw [Nat.succ_mul]; omega, ?_⟩
      rw [← Nat.mod_eq_sub_mod (by omega)] at h2
      exact h2
def mMake (P : Program) (e : Operand → AV) (t : Nat) (x y : Operand) (nb : Nat) : R :=
  match ti P t, e x, e y with
  | some et, .v (.one (.d (.int _ n))), .v (.one (.d (.int _ m))) =>
    match isSl et.und with
    | some el => match ti P el with
      | some ee => match toDs (ee.zero.cells.toList.map absZ) with
        | some zs => some ([m = n ∧ 0 ≤ n ∧ n * ee.size ≤ 16777216 ∧ ee.bytes * n ≤ 281474976710656], one (.sl el nb 0 n.toNat), [(nb, some (.sym el (rep n.toNat zs)))])
        | none => none
      | none => none
    | none => none
  | _, _, _ => none
def mBuildSlice (P : Program) (e : Operand → AV) (t n : Nat) (parts : Array (Nat × Operand)) (nb : Nat) : R :=
  match ti P t with
  | some et => match isSl et.und with
    | some el => match ti P el with
      | some ee => if n * ee.size ≤ 16777216 then
          match afill (fun i => some (i * ee.size, ee.size)) (rep n (ee.zero.cells.toList.map absZ)) (parts.toList.map fun p => (p.1, e p.2)) with
          | some l => some ([], one (.sl el nb 0 n), [(nb, some (.fix el l))])
          | none => none
        else none
      | none => none
    | none => none
  | none => none

section
variable {P : Program} {w0 : Bs} {κ : Kr} {C : Cs} {w : World} {ρ : Operand → Value} {e : Operand → AV} {ns : List Prop} {av : AV} {us : Us}
theorem isStr_spec {d : TypeDesc} (h : isStr d = true) : d = .string := by cases d <;> first | rfl | cases h
theorem isSl_some {d : TypeDesc} (h : (isSl d).isSome = true) : ∃ el, d = .slice el := by
  cases d <;> simp [isSl] at h
  exact ⟨_, rfl⟩
theorem bnd_spec (he : ∀ x, gAV P κ (e x) (ρ x)) {lo : Option Operand} {a : Option Int} (h : bnd e lo = some a) :
    (lo = none ∧ a = none) ∨ ∃ x k n, lo = some x ∧ a = some n ∧ ρ x = .int k n := by
  unfold bnd at h
  split at h
  · injection h with h; exact .inl ⟨rfl, h.symm⟩
  · rename_i x
    have hx := he x
    split at h <;> try (cases h; done)
    rename_i k n ex
    rw [ex] at hx
    injection h with h
    exact .inr ⟨x, k, n, rfl, h.symm, gint hx⟩
/-- The bounds of a cut. -/
theorem bounds_run (he : ∀ x, gAV P κ (e x) (ρ x)) {lo hi : Option Operand} {a b : Option Int} (ha : bnd e lo = some a) (hb : bnd e hi = some b) (sl : Bool) {len cap : Nat} (hlc : len ≤ cap)
    (h : 0 ≤ a.getD 0 ∧ a.getD 0 ≤ b.getD len ∧ b.getD len ≤ (len : Int)) :
    (Instr.sliceBounds sl len cap (lo.map ρ) (hi.map ρ) none).run P w = .ok ((a.getD 0).toNat, (b.getD len).toNat, cap) w := by
  rcases bnd_spec he ha with ⟨rfl, rfl⟩ | ⟨x, k, n, rfl, rfl, hx⟩ <;> rcases bnd_spec he hb with ⟨rfl, rfl⟩ | ⟨y, k', m, rfl, rfl, hy⟩
  · simp [Instr.sliceBounds]
  · simp only [Option.getD] at h
    have hm : 0 ≤ m ∧ m ≤ (cap : Int) := by omega
    simp [Instr.sliceBounds, Instr.sliceBound, hy, asIntOf, hm]
  · simp only [Option.getD] at h
    have hm : 0 ≤ n ∧ n ≤ (len : Int) := by omega
    simp [Instr.sliceBounds, Instr.sliceBound, hx, asIntOf, hm]
  · simp only [Option.getD] at h
    have hm : 0 ≤ m ∧ m ≤ (cap : Int) := by omega
    have hn : 0 ≤ n ∧ n ≤ max m 0 := by omega
    simp [Instr.sliceBounds, Instr.sliceBound, hx, hy, asIntOf, hm, hn]
theorem s_slice (hi : Inv P w0 κ C w) (he : ∀ x, gAV P κ (e x) (ρ x)) {t : Nat} {x : Operand} {lo hi' mx : Option Operand} (h : mSlice P e t x lo hi' mx = some (ns, av, us)) (hn : all_ ns) :
    Yields P w0 κ C ((do pure (.value (← Instr.sliceAt t (ρ x) (lo.map ρ) (hi'.map ρ) (mx.map ρ))) : Sem Next).run P w) av us := by
  unfold mSlice at h
  have hx := he x
  split at h <;> try (cases h; done)
  rename_i et a b ht ha hb
  have hut := (ti_spec ht).1
  split at h <;> try (cases h; done)
  · rename_i s ex
    rw [ex] at hx
    split at h <;> try (cases h; done)
    rename_i hst
    rw [isStr_spec hst] at hut
    injection h with h; injection h with e1 e2; injection e2 with e2 e3
    subst e1; subst e2; subst e3
    have hbr := bounds_run (w := w) he ha hb false (Nat.le_refl s.size) hn.1
    have hr : (do pure (.value (← Instr.sliceAt t (ρ x) (lo.map ρ) (hi'.map ρ) ((none : Option Operand).map ρ))) : Sem Next).run P w = .ok (.value (.string (s.extract (a.getD 0).toNat (b.getD s.size).toNat))) w := by
      rw [gstr hx]
      simp [Instr.sliceAt, run_underlying hut, Instr.slice, hbr]
    rw [hr]; exact .val hi (gstr' _)
  · rename_i u id off len ex
    rw [ex] at hx
    split at h <;> try (cases h; done)
    rename_i el eu hel hu
    split at h <;> try (cases h; done)
    rename_i hc
    subst hc
    rw [isSl_spec hel] at hut
    injection h with h; injection h with e1 e2; injection e2 with e2 e3
    subst e1; subst e2; subst e3
    obtain ⟨Ad, c, h1, h2, h3⟩ := hx
    obtain ⟨_, ⟨i, j1, j2, j3, j4⟩, _⟩ := ti_spec hu
    have hbr := bounds_run (w := w) he ha hb true h2 hn.1
    have hbd := hn.1
    generalize a.getD 0 = p at hbr hbd ⊢
    generalize b.getD len = q at hbr hbd ⊢
    have hr : (do pure (.value (← Instr.sliceAt t (ρ x) (lo.map ρ) (hi'.map ρ) ((none : Option Operand).map ρ))) : Sem Next).run P w = .ok (.value (.slice (if c = p.toNat then Ad else Ad.map (·.add (p.toNat * i.size))) (q.toNat - p.toNat) (c - p.toNat))) w := by
      rw [h1]
      simp [Instr.sliceAt, run_underlying hut, Instr.slice, hbr, sizeOf, Typ.run_info j1]
    rw [hr]
    refine .val hi ⟨_, _, by rw [show (q - p).toNat = q.toNat - p.toNat by omega], by omega, ?_⟩
    by_cases hcp : c = p.toNat
    · exact .inl ⟨by omega, by omega⟩
    rcases h3 with ⟨h3, h4⟩ | ⟨bk, o, N, h4, rfl, h5⟩
    · exfalso; omega
    refine .inr ⟨bk, o, N, h4, ?_, ?_⟩
    · rw [if_neg hcp]
      simp [Typ.addr_add, sz_of hu, j2, Nat.add_mul, Nat.add_assoc]
    · rw [show off + p.toNat + (c - p.toNat) = off + c by omega]; exact h5
  · rename_i u m ds ex
    rw [ex] at hx
    split at h <;> try (cases h; done)
    rename_i el eu hel hu
    split at h <;> try (cases h; done)
    rename_i hc
    subst hc
    rw [isSl_spec hel] at hut
    injection h with h; injection h with e1 e2; injection e2 with e2 e3
    subst e1; subst e2; subst e3
    have hx' : gD P κ.z (.list el m ds) (ρ x) := hx
    unfold gD at hx'
    obtain ⟨Ad, c, h1, h2, h3, h4⟩ := hx'
    obtain ⟨_, ⟨i, j1, j2, j3, j4⟩, _⟩ := ti_spec hu
    have hbr := bounds_run (w := w) he ha hb true h2 hn.1
    have hbd := hn.1
    generalize a.getD 0 = p at hbr hbd ⊢
    generalize b.getD m = q at hbr hbd ⊢
    have hr : (do pure (.value (← Instr.sliceAt t (ρ x) (lo.map ρ) (hi'.map ρ) ((none : Option Operand).map ρ))) : Sem Next).run P w = .ok (.value (.slice (if c = p.toNat then Ad else Ad.map (·.add (p.toNat * i.size))) (q.toNat - p.toNat) (c - p.toNat))) w := by
      rw [h1]
      simp [Instr.sliceAt, run_underlying hut, Instr.slice, hbr, sizeOf, Typ.run_info j1]
    rw [hr]
    refine .val hi ?_
    show gD P κ.z _ _
    unfold gD
    have hle : (p.toNat + (q - p).toNat) * sz P el ≤ m * sz P el := Nat.mul_le_mul_right _ (by omega)
    rw [Nat.add_mul] at hle
    refine ⟨_, _, by rw [show (q - p).toNat = q.toNat - p.toNat by omega], by omega, by simp; omega, ?_⟩
    by_cases hz : (q - p).toNat = 0
    · exact .inl (by omega)
    rcases h4 with h4 | ⟨bk, o, arr, ty, fr, rfl, h4, h5⟩
    · exfalso; omega
    refine .inr ⟨bk, o + p.toNat * sz P el, arr, ty, fr, ?_, h4, gDs.of fun j d hj => ?_⟩
    · rw [if_neg (by omega)]
      simp [Typ.addr_add, sz_of hu, j2]
    · have hjl : j < (q - p).toNat * sz P el := by have := (List.getElem?_eq_some_iff.mp hj).1; simp at this; omega
      rw [List.getElem?_take_of_lt hjl, List.getElem?_drop] at hj
      obtain ⟨y, k1, k2⟩ := h5.at _ d hj
      rw [List.getElem?_drop] at k1
      exact ⟨y, by rw [List.getElem?_drop, Nat.add_assoc]; exact k1, k2⟩
theorem one_arg {vs : Array Value} {a : AV} {args : List AV} (hargs : args = [a]) (hl : vs.size = args.length) (hg : ∀ (i : Nat) (a : AV), args[i]? = some a → ∃ v, vs[i]? = some v ∧ gAV P κ a v) : ∃ v, vs = #[v] ∧ gAV P κ a v := by
  subst hargs
  obtain ⟨v, hv, hgv⟩ := hg 0 _ rfl
  refine ⟨v, ?_, hgv⟩
  apply Array.ext (by simpa using hl)
  intro i h1 h2
  obtain rfl : i = 0 := by simp at h2; omega
  rw [Array.getElem?_eq_getElem h1] at hv
  injection hv
theorem two_args {vs : Array Value} {a b : AV} {args : List AV} (hargs : args = [a, b]) (hl : vs.size = args.length) (hg : ∀ (i : Nat) (a : AV), args[i]? = some a → ∃ v, vs[i]? = some v ∧ gAV P κ a v) : ∃ v u, vs = #[v, u] ∧ gAV P κ a v ∧ gAV P κ b u := by
  subst hargs
  obtain ⟨v, hv, hgv⟩ := hg 0 _ rfl
  obtain ⟨u, hu, hgu⟩ := hg 1 _ rfl
  refine ⟨v, u, ?_, hgv, hgu⟩
  apply Array.ext (by simpa using hl)
  intro i h1 h2
  rcases (show i = 0 ∨ i = 1 by simp at h2; omega) with rfl | rfl
  · rw [Array.getElem?_eq_getElem h1] at hv; injection hv
  · rw [Array.getElem?_eq_getElem h1] at hu; injection hu
theorem s_len (hi : Inv P w0 κ C w) {ts : Array Nat} {args : List AV} {vs : Array Value} {ty : Nat} (hg : ∀ (i : Nat) (a : AV), args[i]? = some a → ∃ v, vs[i]? = some v ∧ gAV P κ a v) (hl : vs.size = args.length) (h : mLen P ts args = some (ns, av, us)) :
    Yields P w0 κ C ((do pure (.value (← Builtin.len_ ts ty vs)) : Sem Next).run P w) av us := by
  unfold mLen at h
  split at h <;> try (cases h; done)
  rename_i t a hts
  have hts' : ts = #[t] := by rw [← Array.toArray_toList (xs := ts), hts]
  subst hts'
  obtain ⟨v, rfl, hgv⟩ := one_arg rfl hl hg
  split at h <;> try (cases h; done)
  rename_i et ht
  have hut := (ti_spec ht).1
  split at h <;> try (cases h; done)
  all_goals
    split at h <;> try (cases h; done)
    rename_i hst
    injection h with h; injection h with e1 e2; injection e2 with e2 e3
    subst e1; subst e2; subst e3
  · rename_i s
    rw [isStr_spec hst] at hut
    have hv : v = .string s := by have h1 : gD P κ.z (.str s) v := hgv; unfold gD at h1; exact h1
    subst hv
    have hr : (do pure (.value (← Builtin.len_ #[t] ty #[.string s])) : Sem Next).run P w = .ok (.value (.int .i64 s.size)) w := by
      simp [Builtin.len_, run_underlying hut, goInt]
    rw [hr]; exact .val hi (gint' _ _)
  · rename_i u n ds
    obtain ⟨el, hel⟩ := isSl_some hst
    rw [hel] at hut
    have h1 : gD P κ.z (.list u n ds) v := hgv
    unfold gD at h1
    obtain ⟨Ad, c, rfl, _⟩ := h1
    have hr : (do pure (.value (← Builtin.len_ #[t] ty #[.slice Ad n c])) : Sem Next).run P w = .ok (.value (.int .i64 n)) w := by
      simp [Builtin.len_, run_underlying hut, goInt]
    rw [hr]; exact .val hi (gint' _ _)
  · rename_i u id off n
    obtain ⟨el, hel⟩ := isSl_some hst
    rw [hel] at hut
    obtain ⟨Ad, c, rfl, _⟩ := hgv
    have hr : (do pure (.value (← Builtin.len_ #[t] ty #[.slice Ad n c])) : Sem Next).run P w = .ok (.value (.int .i64 n)) w := by
      simp [Builtin.len_, run_underlying hut, goInt]
    rw [hr]; exact .val hi (gint' _ _)
  · obtain ⟨el, hel⟩ := isSl_some hst
    rw [hel] at hut
    rw [show v = _ from hgv]
    have hr : (do pure (.value (← Builtin.len_ #[t] ty #[.slice none 0 0])) : Sem Next).run P w = .ok (.value (.int .i64 0)) w := by
      simp [Builtin.len_, run_underlying hut, goInt]
    rw [hr]; exact .val hi (gint' _ _)
/-- The cells of zeros. -/
theorem zeros_at {z : Value} {zs : List D} (h : toDs (z.cells.toList.map absZ) = some zs) : zs.length = z.cells.size ∧ ∀ (j : Nat) (d : D), zs[j]? = some d → ∃ x, z.cells[j]? = some x ∧ gD P κ.z d x := by
  obtain ⟨h1, h2⟩ := toDs_at h
  refine ⟨by simp at h1; omega, fun j d hj => ?_⟩
  obtain ⟨a, k1, k2⟩ := h2 j d hj
  obtain ⟨x, k3, k4⟩ := (gL_absZ (P := P) (κ := κ) z.cells.toList).at k1
  exact ⟨x, by rw [← Array.getElem?_toList]; exact k3, A.toD_sound k2 k4⟩
theorem made_at (z : Array Value) (m j : Nat) (hz : 0 < z.size) (hj : j < m * z.size) : (madeCells z (m * z.size))[j]? = z[j % z.size]? := by
  have h1 : j % z.size < z.size := Nat.mod_lt _ hz
  simp [madeCells, hj, h1]
theorem s_make (hi : Inv P w0 κ C w) (he : ∀ x, gAV P κ (e x) (ρ x)) {t nb : Nat} {x y : Operand} (h : mMake P e t x y nb = some (ns, av, us)) (hn : all_ ns) (hC : C nb = none) (hA : κ.at_ nb = none) :
    Yields P w0 κ C ((do pure (.value (← Instr.makeSlice t (ρ x) (ρ y))) : Sem Next).run P w) av us := by
  unfold mMake at h
  have hx := he x
  have hy := he y
  split at h <;> try (cases h; done)
  rename_i et k1 n k2 m ht ex ey
  rw [ex] at hx
  rw [ey] at hy
  split at h <;> try (cases h; done)
  rename_i el hel
  split at h <;> try (cases h; done)
  rename_i ee hee
  split at h <;> try (cases h; done)
  rename_i zs hzs
  injection h with h; injection h with e1 e2; injection e2 with e2 e3
  subst e1; subst e2; subst e3
  obtain ⟨⟨rfl, c1, c2, c3⟩, _⟩ := hn
  rw [gint hx, gint hy]
  have hut := (ti_spec ht).1
  rw [isSl_spec hel] at hut
  obtain ⟨hue, ⟨i, j1, j2, j3, j4⟩, hs1, hs2, hs3⟩ := ti_spec hee
  obtain ⟨hz1, hz2⟩ := zeros_at (P := P) (κ := κ) hzs
  have hm0 : m.toNat * i.size ≤ 16777216 := by
    rw [j2]
    have : ((m.toNat * ee.size : Nat) : Int) = m * ee.size := by rw [Int.natCast_mul]; congr 1; omega
    omega
  have hr := run_makeSlice (P := P) w t el i ee.zero hut j1 j4 k1 k2 m m c1 (Int.le_refl _) hm0 (by rw [j3]; exact c3) (by
    have h0 : m * 1 ≤ m * ee.size := Int.mul_le_mul_of_nonneg_left (by omega) c1
    omega)
  have hsz : (madeCells ee.zero.cells (m.toNat * i.size)).size = m.toNat * ee.size := by simp [madeCells, j2]
  obtain ⟨hle, hinv⟩ := hi.alloc hC hA (.sym el (rep m.toNat zs)) (madeCells ee.zero.cells (m.toNat * i.size)) (by rw [hsz]; simp [Row.as, rep_len, hz1, hs2]) (fun j a ha => by
    simp only [Row.as, List.getElem?_map] at ha
    obtain ⟨d, hd, rfl⟩ := Option.map_eq_some_iff.mp ha
    obtain ⟨q1, q2⟩ := rep_at zs _ j d hd
    obtain ⟨v, q3, q4⟩ := hz2 _ d q2
    refine ⟨v, ?_, q4⟩
    rw [j2, ← hs2, made_at _ _ _ (by omega) (by rw [← hz1]; exact q1), ← hz1]
    exact q3)
  refine ⟨_, _, _, by rw [Sem.run_bind, hr]; rfl, hle, hinv, fun k hk => put_other (fun e => hk _ (List.mem_singleton.mpr rfl) e.symm), .inl ⟨_, rfl, some ⟨w.heap.size, 0, none⟩, m.toNat, rfl, Nat.le_refl _, .inr ⟨w.heap.size, 0, _, by unfold Kr.put; simp only [if_true]; rfl, by simp, ?_⟩⟩⟩
  rw [hsz, sz_of hee]
  simp
theorem s_buildSlice (hi : Inv P w0 κ C w) (he : ∀ x, gAV P κ (e x) (ρ x)) {t n nb : Nat} {parts : Array (Nat × Operand)} (h : mBuildSlice P e t n parts nb = some (ns, av, us)) (hC : C nb = none) (hA : κ.at_ nb = none) :
    Yields P w0 κ C ((do pure (.value (← Instr.buildSlice t n (parts.map fun (i, x) => (i, ρ x)))) : Sem Next).run P w) av us := by
  unfold mBuildSlice at h
  split at h <;> try (cases h; done)
  rename_i et ht
  split at h <;> try (cases h; done)
  rename_i el hel
  split at h <;> try (cases h; done)
  rename_i ee hee
  split at h <;> try (cases h; done)
  rename_i hbig
  split at h <;> try (cases h; done)
  rename_i l hl
  injection h with h; injection h with e1 e2; injection e2 with e2 e3
  subst e1; subst e2; subst e3
  have hut := (ti_spec ht).1
  rw [isSl_spec hel] at hut
  obtain ⟨hue, ⟨i, j1, j2, j3, j4⟩, hs1, hs2, hs3⟩ := ti_spec hee
  have h0 : gL P κ (rep n (ee.zero.cells.toList.map absZ)) ((Array.range (n * ee.size)).map (ee.zero.cells[· % ee.zero.cells.size]!)).toList := by
    refine gL.of (by simp [rep_len, hs2]) (fun j a ha => ?_)
    obtain ⟨q1, q2⟩ := rep_at _ _ j a ha
    simp only [List.length_map, Array.length_toList] at q1 q2
    obtain ⟨v, q3, q4⟩ := (gL_absZ (P := P) (κ := κ) ee.zero.cells.toList).at q2
    refine ⟨v, ?_, q4⟩
    have hm : j % ee.zero.cells.size < ee.zero.cells.size := Nat.mod_lt _ (by omega)
    rw [hs2] at q1
    simp [q1, hm] at q3 ⊢
    exact q3
  obtain ⟨cs', f1, f2⟩ := fill_sound (κ := κ) (place := fun i => some (i * ee.size, ee.size)) (fun i => rfl) _ (parts.toList.map fun p => (p.1, ρ p.2)) _ l _ (by simp) (parts_map he parts.toList) h0 hl
  have hlen : l.length = n * ee.size := by
    have : ∀ (ps : List (Nat × AV)) (acc l : List A), afill (fun i => some (i * ee.size, ee.size)) acc ps = some l → l.length = acc.length := by
      intro ps
      induction ps with
      | nil => intro acc l h; injection h with h; rw [h]
      | cons p ps ih =>
        intro acc l h
        obtain ⟨i, x⟩ := p
        unfold afill at h
        split at h <;> try (cases h; done)
        split at h <;> try (cases h; done)
        split at h <;> try (cases h; done)
        rename_i hc
        rw [ih _ _ h]
        simp
        omega
    rw [this _ _ _ hl, rep_len]
    simp [hs2]
  have hcs : cs'.size = n * ee.size := by have := f2.len; simp at this; omega
  obtain ⟨hle, hinv⟩ := hi.alloc hC hA (.fix el l) cs' (by simp [Row.as]; omega) (fun j a ha => by
    obtain ⟨x, g1, g2⟩ := f2.at ha
    exact ⟨x, by rw [← Array.getElem?_toList]; exact g1, g2⟩)
  have hm : (parts.map fun (i, x) => (i, ρ x)).toList = parts.toList.map fun p => (p.1, ρ p.2) := by simp
  have hr : (do pure (.value (← Instr.buildSlice t n (parts.map fun (i, x) => (i, ρ x)))) : Sem Next).run P w = .ok (.value (.slice (some ⟨w.heap.size, 0, none⟩) n n)) (w.alloc (.cells cs' el)) := by
    have hbig2 : ¬ (n * ee.size > 2 ^ 24) := by omega
    by_cases hz : n * ee.size = 0
    · have hn : n = 0 := by
        rcases Nat.mul_eq_zero.mp hz with h | h
        · exact h
        · omega
      rw [hz] at f1
      simp only [Instr.buildSlice, Sem.run_bind, run_underlying hut, Result.andThen_ok, sizeOf, Typ.run_info j1, Sem.run_pure, j2, hm, hz, if_true]
      simp only [Array.range_zero', Array.map_empty] at f1 ⊢
      simp [f1, newRow]
    · simp only [Instr.buildSlice, Sem.run_bind, run_underlying hut, Result.andThen_ok, sizeOf, Typ.run_info j1, Sem.run_pure, j2, hm, if_neg hbig2, if_neg hz, zeroValue, j4]
      rw [f1]
      simp [newRow]
  refine ⟨_, _, _, hr, hle, hinv, fun k hk => put_other (fun e => hk _ (List.mem_singleton.mpr rfl) e.symm), .inl ⟨_, rfl, some ⟨w.heap.size, 0, none⟩, n, rfl, Nat.le_refl _, .inr ⟨w.heap.size, 0, _, by unfold Kr.put; simp only [if_true]; rfl, by simp, ?_⟩⟩⟩
  rw [hcs, sz_of hee]
  simp
end
end Go.Proofs.Ytplcdadedpbkpaa.Mini
end
section
/- Exact values: structs compared; the least and the greatest. -/
namespace Go.Proofs.Ytplcdadedpbkpaa.Mini
open Go Go.RowKit
set_option linter.unusedVariables false

/-- A part of a struct. -/
def partA (P : Program) (t : Nat) (l : List A) (off : Nat) : Option V1 :=
  match ti P t with
  | some g =>
    if Typ.isStruct g.und = true then if off + g.size ≤ l.length then some (.agg ((l.drop off).take g.size)) else none
    else if Typ.isFlat g.und = true then (match l[off]? with | some a => some (.one a) | none => none) else none
  | none => none
def eqFs (P : Program) (f : Nat → V1 → V1 → Option Bool) (l m : List A) : List Field → Option Bool
  | [] => some true
  | fd :: fs => if fd.name ≠ "_" then
      match partA P fd.type l fd.offset, partA P fd.type m fd.offset with
      | some x, some y => match f fd.type x y, eqFs P f l m fs with
        | some a, some b => some (a && b)
        | _, _ => none
      | _, _ => none
    else none
def eqT (P : Program) : Nat → Nat → V1 → V1 → Option Bool
  | 0, _, _, _ => none
  | d + 1, t, x, y => match ti P t with
    | some g => match g.und, x, y with
      | .bool, .one (.d (.bool a)), .one (.d (.bool b)) => some (a == b)
      | .int _, .one (.d (.int k n)), .one (.d (.int k' m)) => if k = k' then some (n == m) else none
      | .string, .one (.d (.str a)), .one (.d (.str b)) => some (a.toList == b.toList)
      | .struct fs, .agg l, .agg m => if P.stoodInHeld t = false then eqFs P (eqT P d) l m fs.toList else none
      | _, _, _ => none
    | none => none
def mEq (P : Program) (e : Operand → AV) (op : BinOp) (t : Nat) (x y : Operand) : R :=
  match e x, e y with
  | .v (.agg l), .v (.agg m) =>
    if P.eqGuardType P.depth t = false then
      match eqT P 9 t (.agg l) (.agg m) with
      | some b => (match op with
        | .eql => some ([], bool b, [])
        | .neq => some ([], bool (!b), [])
        | _ => none)
      | none => none
    else none
  | _, _ => none
/-- A variable that holds a value from the beginning. -/
def mBox (e : Operand → AV) (t : Nat) (x : Operand) (nb : Nat) : R :=
  match e x with
  | .v y => match y.cells with
    | some l => some ([], one (.ptr nb 0), [(nb, some (.fix t l))])
    | none => none
  | _ => none
def mMM (mx : Bool) (args : List AV) : R :=
  match args with
  | [.v (.one (.d (.int k n))), .v (.one (.d (.int k' m)))] => if k = k' then some ([], int k (if mx = true then max n m else min n m), []) else none
  | _ => none
section
variable {P : Program} {w0 : Bs} {κ : Kr} {C : Cs} {w : World} {ρ : Operand → Value} {e : Operand → AV} {ns : List Prop} {av : AV} {us : Us}
theorem partA_run {t off : Nat} {l : List A} {x : V1} {cs : Array Value} (h : partA P t l off = some x) (hg : gL P κ l cs.toList) : ∃ v, (part t cs off).run P w = .ok v w ∧ gV1 P κ x v := by
  unfold partA at h
  split at h <;> try (cases h; done)
  rename_i g ht
  obtain ⟨hu, ⟨i, j1, j2, j3, j4⟩, _⟩ := ti_spec ht
  split at h
  · rename_i hst
    obtain ⟨fs', hfs'⟩ := Typ.isStruct_not hst
    split at h <;> try (cases h; done)
    injection h with h
    subst h
    refine ⟨.agg (cs.extract off (off + g.size)), ?_, _, rfl, ?_⟩
    · simp [part, isAgg, run_underlying hu, hfs', sizeOf, Typ.run_info j1, j2]
    · have : (cs.extract off (off + g.size)).toList = (cs.toList.drop off).take g.size := by simp [List.extract_eq_take_drop]
      rw [this]
      exact (hg.drop off).take _
  · split at h <;> try (cases h; done)
    rename_i hfl
    split at h <;> try (cases h; done)
    rename_i a ha
    injection h with h
    subst h
    obtain ⟨v, hv, hgv⟩ := hg.at ha
    have hv2 : cs[off]? = some v := by rw [← Array.getElem?_toList]; exact hv
    refine ⟨v, ?_, hgv⟩
    cases hd : g.und <;> rw [hd] at hfl hu <;> simp [Typ.isFlat] at hfl <;> simp [part, isAgg, run_underlying hu, hv2]
theorem eqFs_run {d : Nat} {f : Nat → V1 → V1 → Option Bool} (hf : ∀ t x y b vx vy, f t x y = some b → gV1 P κ x vx → gV1 P κ y vy → (Op.equalIn d t vx vy).run P w = .ok b w) {l m : List A} {xs ys : Array Value} (hl : gL P κ l xs.toList) (hm : gL P κ m ys.toList) :
    ∀ (fs : List Field) (b : Bool), eqFs P f l m fs = some b → (Op.eqFields d xs ys fs).run P w = .ok b w
  | [], b, h => by injection h with h; subst h; rfl
  | fd :: fs, b, h => by
    unfold eqFs at h
    split at h <;> try (cases h; done)
    rename_i hn
    split at h <;> try (cases h; done)
    rename_i x y hx hy
    split at h <;> try (cases h; done)
    rename_i a1 a2 h1 h2
    injection h with h
    subst h
    obtain ⟨vx, r1, g1⟩ := partA_run (w := w) hx hl
    obtain ⟨vy, r2, g2⟩ := partA_run (w := w) hy hm
    have r3 := hf _ _ _ _ _ _ h1 g1 g2
    have ih := eqFs_run hf hl hm fs _ h2
    unfold Op.eqFields
    rw [if_pos hn]
    simp only [Sem.run_bind, r1, r2, r3, Result.andThen_ok, Sem.run_ite]
    cases a1 with
    | true => simpa using ih
    | false => simp
theorem eqT_run : ∀ (d q t : Nat) (x y : V1) (b : Bool) (vx vy : Value), eqT P d t x y = some b → gV1 P κ x vx → gV1 P κ y vy → (Op.equalIn (q + d) t vx vy).run P w = .ok b w
  | 0, _, _, _, _, _, _, _, h, _, _ => by cases h
  | d + 1, q, t, x, y, b, vx, vy, h, hx, hy => by
    unfold eqT at h
    split at h <;> try (cases h; done)
    rename_i g ht
    have hu := (ti_spec ht).1
    rw [show q + (d + 1) = (q + d) + 1 from rfl]
    split at h <;> try (cases h; done)
    · rename_i a c hg
      rw [hg] at hu
      injection h with h; subst h
      rw [gbool (show gAV P κ (bool a) vx from hx), gbool (show gAV P κ (bool c) vy from hy)]
      exact run_equalIn_bool' w _ t _ _ hu
    · rename_i k0 k n k' m hg
      rw [hg] at hu
      split at h <;> try (cases h; done)
      rename_i hk
      subst hk
      injection h with h; subst h
      rw [gint (show gAV P κ (int k n) vx from hx), gint (show gAV P κ (int k m) vy from hy)]
      exact run_equalIn_int w _ t k k0 _ _ hu
    · rename_i a c hg
      rw [hg] at hu
      injection h with h; subst h
      rw [gstr (show gAV P κ (str a) vx from hx), gstr (show gAV P κ (str c) vy from hy)]
      exact run_equalIn_string w _ t _ _ hu
    · rename_i fs l m hg
      rw [hg] at hu
      split at h <;> try (cases h; done)
      rename_i hst
      obtain ⟨xs, rfl, gx⟩ := hx
      obtain ⟨ys, rfl, gy⟩ := hy
      have hfs : P.fieldsOf t = fs := by unfold Program.fieldsOf; rw [hu]
      rw [run_equalIn_struct w (q + d) t xs ys (by rw [hfs]; exact hu) hst, hfs]
      exact eqFs_run (fun t x y b vx vy => eqT_run d q t x y b vx vy) gx gy _ _ h
theorem s_eq (hi : Inv P w0 κ C w) (he : ∀ x, gAV P κ (e x) (ρ x)) {op : BinOp} {t : Nat} {x y : Operand} (h : mEq P e op t x y = some (ns, av, us)) :
    Yields P w0 κ C ((do pure (.value (← (do eqGuard op t x y (ρ x) (ρ y); binOp op t (ρ x) (ρ y) : Sem Value))) : Sem Next).run P w) av us := by
  unfold mEq at h
  have hx := he x
  have hy := he y
  split at h <;> try (cases h; done)
  rename_i l m ex ey
  rw [ex] at hx
  rw [ey] at hy
  split at h <;> try (cases h; done)
  rename_i hgt
  split at h <;> try (cases h; done)
  rename_i b hb
  have hr := eqT_run (w := w) 9 9991 t _ _ b _ _ hb hx hy
  obtain ⟨xs, hxs, _⟩ := hx
  obtain ⟨ys, hys, _⟩ := hy
  rw [hxs, hys] at hr ⊢
  split at h <;> try (cases h; done)
  · injection h with h; injection h with e1 e2; injection e2 with e2 e3
    subst e1; subst e2; subst e3
    have : (do pure (.value (← (do eqGuard .eql t x y (.agg xs) (.agg ys); binOp .eql t (.agg xs) (.agg ys) : Sem Value))) : Sem Next).run P w = .ok (.value (.bool b)) w := by
      simp only [Sem.run_bind, run_eqGuard_agg w .eql t x y xs ys hgt, Result.andThen_ok, run_eql_struct, hr, Sem.run_pure]
    rw [this]; exact .val hi (gbool' _)
  · injection h with h; injection h with e1 e2; injection e2 with e2 e3
    subst e1; subst e2; subst e3
    have : (do pure (.value (← (do eqGuard .neq t x y (.agg xs) (.agg ys); binOp .neq t (.agg xs) (.agg ys) : Sem Value))) : Sem Next).run P w = .ok (.value (.bool !b)) w := by
      simp only [Sem.run_bind, run_eqGuard_agg w .neq t x y xs ys hgt, Result.andThen_ok, run_neq_struct, hr, Sem.run_pure]
    rw [this]; exact .val hi (gbool' _)
theorem s_box (hi : Inv P w0 κ C w) (he : ∀ x, gAV P κ (e x) (ρ x)) {t nb : Nat} {x : Operand} (h : mBox e t x nb = some (ns, av, us)) (hC : C nb = none) (hA : κ.at_ nb = none) :
    Yields P w0 κ C ((do pure (.value (← Instr.box t (ρ x))) : Sem Next).run P w) av us := by
  unfold mBox at h
  have hx := he x
  split at h <;> try (cases h; done)
  rename_i y ey
  rw [ey] at hx
  split at h <;> try (cases h; done)
  rename_i l hl
  injection h with h; injection h with e1 e2; injection e2 with e2 e3
  subst e1; subst e2; subst e3
  have hg := V1.cells_sound hl hx
  obtain ⟨hle, hinv⟩ := hi.alloc hC hA (.fix t l) (ρ x).cells (by have := hg.len; simp at this; simp [Row.as]; omega) (fun j a ha => by
    obtain ⟨v, g1, g2⟩ := hg.at ha
    exact ⟨v, by rw [← Array.getElem?_toList]; exact g1, g2⟩)
  refine ⟨_, _, _, ?_, hle, hinv, fun k hk => put_other (fun e => hk _ (List.mem_singleton.mpr rfl) e.symm), .inl ⟨.pointer (some ⟨w.heap.size, 0, none⟩), rfl, w.heap.size, 0, _, by unfold Kr.put; simp only [if_true]; rfl, by simp⟩⟩
  simp [Instr.box, newVar, newRow, Row.t]
theorem s_min (hi : Inv P w0 κ C w) {ts : Array Nat} {args : List AV} {vs : Array Value} {ty : Nat} (hg : ∀ (i : Nat) (a : AV), args[i]? = some a → ∃ v, vs[i]? = some v ∧ gAV P κ a v) (hl : vs.size = args.length) (h : mMM false args = some (ns, av, us)) :
    Yields P w0 κ C ((do pure (.value (← Builtin.min_ ts ty vs)) : Sem Next).run P w) av us := by
  unfold mMM at h
  split at h <;> try (cases h; done)
  rename_i k n k' m
  obtain ⟨v, u, rfl, hv, hu⟩ := two_args rfl hl hg
  split at h <;> try (cases h; done)
  rename_i hk
  subst hk
  injection h with h; injection h with e1 e2; injection e2 with e2 e3
  subst e1; subst e2; subst e3
  rw [gint hv, gint hu]
  have : (do pure (.value (← Builtin.min_ ts ty #[.int k n, .int k m])) : Sem Next).run P w = .ok (.value (.int k (min n m))) w := by
    have e : (if m < n then m else n) = min n m := by split <;> omega
    simp [Builtin.min_, Builtin.min2, e]
  rw [this]; exact .val hi (gint' _ _)
theorem s_max (hi : Inv P w0 κ C w) {ts : Array Nat} {args : List AV} {vs : Array Value} {ty : Nat} (hg : ∀ (i : Nat) (a : AV), args[i]? = some a → ∃ v, vs[i]? = some v ∧ gAV P κ a v) (hl : vs.size = args.length) (h : mMM true args = some (ns, av, us)) :
    Yields P w0 κ C ((do pure (.value (← Builtin.max_ ts ty vs)) : Sem Next).run P w) av us := by
  unfold mMM at h
  split at h <;> try (cases h; done)
  rename_i k n k' m
  obtain ⟨v, u, rfl, hv, hu⟩ := two_args rfl hl hg
  split at h <;> try (cases h; done)
  rename_i hk
  subst hk
  injection h with h; injection h with e1 e2; injection e2 with e2 e3
  subst e1; subst e2; subst e3
  rw [gint hv, gint hu]
  have : (do pure (.value (← Builtin.max_ ts ty #[.int k n, .int k m])) : Sem Next).run P w = .ok (.value (.int k (max n m))) w := by
    have e : (if m > n then m else n) = max n m := by split <;> omega
    simp [Builtin.max_, Builtin.max2, e]
  rw [this]; exact .val hi (gint' _ _)
end
end Go.Proofs.Ytplcdadedpbkpaa.Mini
end
section
/- Exact values: append, copy; all operations. -/
namespace Go.Proofs.Ytplcdadedpbkpaa.Mini
open Go Go.RowKit
set_option linter.unusedVariables false

/-- What is appended: how many, their cells, which rows are frozen for it. -/
def srcOf (P : Program) (g : Cs) (el : Nat) : A → Option (List Prop × Nat × List D × List Nat)
  | .nil => some ([], 0, [], [])
  | .d (.list t m ds) => if t = el then some ([], m, ds, []) else none
  | .sl t id off len => if t = el then
      match g id with
      | some (.sym _ ds) => some ([(off + len) * sz P t ≤ ds.length], len, (ds.drop (off * sz P t)).take (len * sz P t), [])
      | some (.fix _ cs) => match frzL P g ((cs.drop (off * sz P t)).take (len * sz P t)) with
        | some (n, ds, ks) => some (((off + len) * sz P t ≤ cs.length) :: n, len, ds, ks)
        | none => none
      | none => none
    else none
  | _ => none
def mAppend (P : Program) (g : Cs) (ts : Array Nat) (args : List AV) (nb : Nat) : R :=
  match ts.toList, args with
  | [t, t'], [.v (.one x), .v (.one y)] =>
    match ti P t with
    | some et => match isSl et.und with
      | some el => match ti P el, srcOf P g el y with
        | some ee, some (n, m, ds, ks) => if t = t' ∧ ee.bytes ≤ 65536 then
          match x with
          | .nil => some (n ++ [m ≤ 1048576], one (.sl el nb 0 m), kill ks ++ [(nb, some (.sym el ds))])
          | .sl u id off len => match g id with
            | some row => match rowD row with
              | some old => if u = el ∧ row.t = el ∧ ks.contains id = false then
                  some (n ++ [(off + len) * sz P el ≤ old.length, len + m ≤ 1048576], one (.sl el nb 0 (len + m)), kill ks ++ [(id, none), (nb, some (.sym el ((old.drop (off * sz P el)).take (len * sz P el) ++ ds)))])
                else none
              | none => none
            | none => none
          | _ => none
          else none
        | _, _ => none
      | none => none
    | none => none
  | _, _ => none

section
variable {P : Program} {w0 : Bs} {κ : Kr} {C : Cs} {w : World} {ρ : Operand → Value} {e : Operand → AV} {ns : List Prop} {av : AV} {us : Us}
/-- The cells of a list, as they are read. -/
theorem read_run {size n c : Nat} {Ad : Option Addr} {ds : List D} {z : Nat → Option Obj} (hl : ds.length = n * size)
    (h : n = 0 ∨ ∃ b p arr ty fr, Ad = some ⟨b, p, none⟩ ∧ w.heap[b]? = some (.cells arr ty fr) ∧ ∀ (j : Nat) (d : D), ds[j]? = some d → ∃ x, arr[p + j]? = some x ∧ gD P z d x) :
    ∃ vs : List Value, vs.length = n * size ∧ (Builtin.firstCells size n (.slice Ad n c)).run P w = .ok vs.toArray w ∧ (Builtin.firstCells size n (.slice Ad n c)).run P w.drew = .ok vs.toArray w.drew ∧
      ∀ (j : Nat) (d : D), ds[j]? = some d → ∃ x, vs[j]? = some x ∧ gD P z d x := by
  rcases h with rfl | ⟨b, p, arr, ty, fr, rfl, hb, hd⟩
  · have hds : ds = [] := List.eq_nil_of_length_eq_zero (by omega)
    subst hds
    refine ⟨[], by simp, ?_, ?_, fun j d hj => by simp at hj⟩
    · cases Ad with
      | none => exact run_firstCells_none w _ _ _ _
      | some a => exact run_firstCells_some w size 0 a 0 c [] (by simp) (fun j v hv => by simp at hv)
    · cases Ad with
      | none => exact run_firstCells_none w.drew _ _ _ _
      | some a => exact run_firstCells_some w.drew size 0 a 0 c [] (by simp) (fun j v hv => by simp at hv)
  · have hlen : ((arr.toList.drop p).take (n * size)).length = n * size := by
      by_cases h0 : n * size = 0
      · simp [h0]
      · obtain ⟨x, h1, _⟩ := hd (n * size - 1) (ds[n * size - 1]'(by omega)) (List.getElem?_eq_getElem (by omega))
        have := (Array.getElem?_eq_some_iff.mp h1).1
        simp; omega
    have hat : ∀ (j : Nat) (v : Value), ((arr.toList.drop p).take (n * size))[j]? = some v → arr[p + j]? = some v := fun j v hj => by
      have hjl := (List.getElem?_eq_some_iff.mp hj).1
      rw [hlen] at hjl
      rw [List.getElem?_take_of_lt hjl, List.getElem?_drop] at hj
      simpa using hj
    refine ⟨_, hlen, ?_, ?_, fun j d hj => ?_⟩
    · exact run_firstCells_some w size n ⟨b, p, none⟩ n c _ hlen (fun j v hv => by rw [Typ.addr_add]; exact cell_of hb (hat j v hv))
    · exact run_firstCells_some w.drew size n ⟨b, p, none⟩ n c _ hlen (fun j v hv => by rw [Typ.addr_add]; exact cell_of (w := w.drew) hb (hat j v hv))
    · obtain ⟨x, h1, h2⟩ := hd j d hj
      have hjl : j < n * size := by rw [← hl]; exact (List.getElem?_eq_some_iff.mp hj).1
      refine ⟨x, ?_, h2⟩
      rw [List.getElem?_take_of_lt hjl, List.getElem?_drop]
      simpa using h1
theorem rel_ones {z : Nat → Option Obj} {ds : List D} {vs : List Value} (hl : ds.length = vs.length) (h : ∀ (j : Nat) (d : D), ds[j]? = some d → ∃ x, vs[j]? = some x ∧ gD P z d x) : ∀ v ∈ vs, v.oneCell' = true := by
  intro v hv
  obtain ⟨i, hi, rfl⟩ := List.getElem_of_mem hv
  obtain ⟨x, h1, h2⟩ := h i (ds[i]'(by omega)) (List.getElem?_eq_getElem (by omega))
  rw [List.getElem?_eq_getElem hi] at h1
  injection h1 with h1
  rw [h1]; exact gD.one h2
theorem src_sound {g : Cs} {el : Nat} {a : A} {n : List Prop} {m : Nat} {ds : List D} {ks : List Nat} (h : srcOf P g el a = some (n, m, ds, ks)) (hn : all_ n) (hi : Inv P w0 κ C w) (hg : ∀ id row, g id = some row → C id = some row) {v : Value} (hv : gA P κ a v) :
    ∃ (κ' : Kr) (B : Option Addr) (dp : Nat) (news : List Value), v = .slice B m dp ∧ κ.le κ' ∧ κ'.at_ = κ.at_ ∧ Inv P w0 κ' (upd C (kill ks)) w ∧ news.length = m * sz P el ∧ ds.length = m * sz P el ∧
      (Builtin.firstCells (sz P el) m (.slice B m dp)).run P w = .ok news.toArray w ∧ (Builtin.firstCells (sz P el) m (.slice B m dp)).run P w.drew = .ok news.toArray w.drew ∧ ∀ (j : Nat) (d : D), ds[j]? = some d → ∃ x, news[j]? = some x ∧ gD P κ'.z d x := by
  unfold srcOf at h
  split at h <;> try (cases h; done)
  · injection h with h; injection h with e1 h; injection h with e2 h; injection h with e3 e4
    subst e2; subst e3; subst e4
    rw [show v = _ from hv]
    obtain ⟨vs, g1, g2, g3, g4⟩ := read_run (P := P) (w := w) (size := sz P el) (n := 0) (c := 0) (Ad := none) (ds := []) (z := κ.z) (by simp) (.inl rfl)
    exact ⟨κ, none, 0, vs, rfl, Kr.le.refl κ, rfl, hi, g1, by simp, g2, g3, g4⟩
  · rename_i t m' ds'
    split at h <;> try (cases h; done)
    rename_i ht
    subst ht
    injection h with h; injection h with e1 h; injection h with e2 h; injection h with e3 e4
    subst e2; subst e3; subst e4
    have h1 : gD P κ.z (.list t m' ds') v := hv
    unfold gD at h1
    obtain ⟨Ad, c, rfl, h2, h3, h4⟩ := h1
    obtain ⟨vs, g1, g2, g3, g4⟩ := read_run (P := P) (w := w) (c := c) (Ad := Ad) (z := κ.z) h3 (h4.imp (fun h => h) (fun ⟨b, o, arr, ty, fr, k1, k2, k3⟩ => ⟨b, o, arr, ty, fr, k1, hi.z _ _ k2, fun j d hj => by
      obtain ⟨x, q1, q2⟩ := k3.at j d hj
      rw [List.getElem?_drop] at q1
      exact ⟨x, by simpa using q1, q2⟩⟩))
    exact ⟨κ, Ad, c, vs, rfl, Kr.le.refl κ, rfl, hi, g1, h3, g2, g3, g4⟩
  · rename_i t id off len
    split at h <;> try (cases h; done)
    rename_i ht
    subst ht
    obtain ⟨Ad, c, rfl, hc, hv⟩ := hv
    split at h <;> try (cases h; done)
    · rename_i u ds' hrow
      injection h with h; injection h with e1 h; injection h with e2 h; injection h with e3 e4
      subst e1; subst e2; subst e3; subst e4
      have hle : (off + len) * sz P t ≤ ds'.length := hn.1
      rw [Nat.add_mul] at hle
      have hl : ((ds'.drop (off * sz P t)).take (len * sz P t)).length = len * sz P t := by simp; omega
      have hread : len = 0 ∨ ∃ b p arr ty fr, Ad = some ⟨b, p, none⟩ ∧ w.heap[b]? = some (.cells arr ty fr) ∧ ∀ (j : Nat) (d : D), ((ds'.drop (off * sz P t)).take (len * sz P t))[j]? = some d → ∃ x, arr[p + j]? = some x ∧ gD P κ.z d x := by
        rcases hv with ⟨hv, _⟩ | ⟨b, o, N, hv, rfl, hv2⟩
        · exact .inl hv
        rcases (hi.live id _ (hg _ _ hrow)).ds (ds := ds') rfl with ⟨g1, _⟩ | ⟨b2, o2, N2, arr, g1, g2, g3, g4, g5, g6⟩
        · rw [g1] at hv; cases hv
        rw [g1] at hv
        injection hv with hv; injection hv with e1 e2; injection e2 with e2 e3
        subst e1; subst e2; subst e3
        refine .inr ⟨b2, _, arr, _, _, rfl, g3, fun j d hj => ?_⟩
        have hjl := (List.getElem?_eq_some_iff.mp hj).1
        rw [hl] at hjl
        rw [List.getElem?_take_of_lt hjl, List.getElem?_drop] at hj
        obtain ⟨x, k1, k2⟩ := g6 _ d hj
        exact ⟨x, by rw [Nat.add_assoc]; exact k1, k2⟩
      obtain ⟨vs, g1, g2, g3, g4⟩ := read_run (P := P) (w := w) (c := c) (Ad := Ad) (z := κ.z) hl hread
      exact ⟨κ, Ad, c, vs, rfl, Kr.le.refl κ, rfl, hi, g1, hl, g2, g3, g4⟩
    · rename_i u cs hrow
      split at h <;> try (cases h; done)
      rename_i n' ds' ks' hfz
      injection h with h; injection h with e1 h; injection h with e2 h; injection h with e3 e4
      subst e1; subst e2; subst e3; subst e4
      obtain ⟨hle, hn2⟩ := hn
      rw [Nat.add_mul] at hle
      have hl : ((cs.drop (off * sz P t)).take (len * sz P t)).length = len * sz P t := by simp; omega
      -- the values of these cells
      have hvals : ∃ vals : List Value, gL P κ ((cs.drop (off * sz P t)).take (len * sz P t)) vals ∧ (len = 0 ∨ ∃ b p arr ty fr, Ad = some ⟨b, p, none⟩ ∧ w.heap[b]? = some (.cells arr ty fr) ∧ ∀ (j : Nat) (x : Value), vals[j]? = some x → arr[p + j]? = some x) := by
        by_cases hz : len = 0
        · refine ⟨[], ?_, .inl hz⟩
          have : (cs.drop (off * sz P t)).take (len * sz P t) = [] := List.eq_nil_of_length_eq_zero (by rw [hl, hz]; simp)
          rw [this]; trivial
        rcases hv with ⟨hv, _⟩ | ⟨b, o, N, hv, rfl, hv2⟩
        · exact absurd hv hz
        rcases hi.live id _ (hg _ _ hrow) with ⟨g1, _⟩ | ⟨b2, o2, N2, arr, g1, g2, g3, g4, g5, g6⟩
        · rw [g1] at hv; cases hv
        rw [g1] at hv
        injection hv with hv; injection hv with e1 e2; injection e2 with e2 e3
        subst e1; subst e2; subst e3
        change o2 + cs.length ≤ N2 at g5
        have hvl : ((arr.toList.drop (o2 + off * sz P t)).take (len * sz P t)).length = len * sz P t := by simp; omega
        refine ⟨(arr.toList.drop (o2 + off * sz P t)).take (len * sz P t), gL.of (by rw [hl, hvl]) (fun q a hq => ?_), .inr ⟨b2, _, arr, _, _, rfl, g3, fun j x hj => ?_⟩⟩
        · have hql := (List.getElem?_eq_some_iff.mp hq).1
          rw [hl] at hql
          rw [List.getElem?_take_of_lt hql, List.getElem?_drop] at hq
          obtain ⟨x, k1, k2⟩ := g6 _ a hq
          refine ⟨x, ?_, k2⟩
          rw [List.getElem?_take_of_lt hql, List.getElem?_drop, Nat.add_assoc]
          simpa using k1
        · have hjl := (List.getElem?_eq_some_iff.mp hj).1
          rw [hvl] at hjl
          rw [List.getElem?_take_of_lt hjl, List.getElem?_drop] at hj
          simpa using hj
      obtain ⟨vals, hv1, hv2⟩ := hvals
      obtain ⟨κ', a1, a2, a3, a4, a5⟩ := frzL_sound hfz hn2 hi (fun k _ row hr => hg k row hr) hv1
      have hdl : ds'.length = len * sz P t := by rw [a4, ← hv1.len, hl]
      obtain ⟨vs, g1, g2, g3, g4⟩ := read_run (P := P) (w := w) (c := c) (Ad := Ad) (z := κ'.z) hdl (hv2.imp (fun h => h) (fun ⟨b, p, arr, ty, fr, k1, k2, k3⟩ => ⟨b, p, arr, ty, fr, k1, k2, fun j d hj => by
        obtain ⟨x, q1, q2⟩ := a5 j d hj
        exact ⟨x, k3 j x q1, q2⟩⟩))
      exact ⟨κ', Ad, c, vs, rfl, a1, a2, a3, g1, hdl, g2, g3, g4⟩
theorem ne_last {us : Us} {nb k : Nat} {r : Option Row} (hk : ∀ p ∈ us ++ [(nb, r)], p.1 ≠ k) : k ≠ nb := fun e => hk (nb, r) (by simp) e.symm
theorem ne_last2 {us : Us} {a : Nat × Option Row} {nb k : Nat} {r : Option Row} (hk : ∀ p ∈ us ++ [a, (nb, r)], p.1 ≠ k) : k ≠ nb := fun e => hk (nb, r) (by simp) e.symm
/-- append, where nothing grows. -/
theorem append_room {t el : Nat} {ee : Ti} (hut : P.underlying t = some (.slice el)) (hee : ti P el = some ee) {b p n m cp dp ty : Nat} {B : Option Addr} {arr : Array Value} {news : List Value} (hroom : n + m ≤ cp)
    (hb : w.heap[b]? = some (.cells arr el (0, 0))) (hfit : p + n * sz P el + news.length ≤ arr.size) (hones : ∀ u ∈ news, u.oneCell' = true) (w3 : (Builtin.firstCells (sz P el) m (.slice B m dp)).run P w = .ok news.toArray w) :
    (do pure (.value (← Builtin.append_ #[t, t] ty #[.slice (some ⟨b, p, none⟩) n cp, .slice B m dp])) : Sem Next).run P w =
      .ok (.value (.slice (some ⟨b, p, none⟩) (n + m) cp)) (w.setRow b (arr.toList.take (p + n * sz P el) ++ news ++ arr.toList.drop (p + n * sz P el + news.length)).toArray) := by
  obtain ⟨hue, ⟨i, j1, j2, j3, j4⟩, hs1, hs2, hs3⟩ := ti_spec hee
  have hsz : i.size = sz P el := by rw [sz_of hee, j2]
  have hst := run_storeCells_at P b (p + n * sz P el) el news 0 arr w hb (by omega) hones
  simp only [Nat.add_zero] at hst
  simp [Builtin.append_, run_underlying hut, sizeOf, Typ.run_info j1, Builtin.lenOf, hroom, hsz, w3, Typ.addr_add, hst]
theorem append_stay {t el : Nat} {ee : Ti} (hut : P.underlying t = some (.slice el)) (hee : ti P el = some ee) {dp ty : Nat} {Ad B : Option Addr} {news : List Value} (hnil : news = []) (w3 : (Builtin.firstCells (sz P el) 0 (.slice B 0 dp)).run P w = .ok news.toArray w) :
    (do pure (.value (← Builtin.append_ #[t, t] ty #[.slice Ad 0 0, .slice B 0 dp])) : Sem Next).run P w = .ok (.value (.slice Ad 0 0)) w := by
  obtain ⟨hue, ⟨i, j1, j2, j3, j4⟩, hs1, hs2, hs3⟩ := ti_spec hee
  have hsz : i.size = sz P el := by rw [sz_of hee, j2]
  subst hnil
  cases Ad with
  | none => simp [Builtin.append_, run_underlying hut, sizeOf, Typ.run_info j1, Builtin.lenOf, hsz, w3]
  | some a => simp [Builtin.append_, run_underlying hut, sizeOf, Typ.run_info j1, Builtin.lenOf, hsz, w3, storeCells]
theorem append_grow {t el : Nat} {ee : Ti} (hut : P.underlying t = some (.slice el)) (hee : ti P el = some ee) {n m cp dp ty : Nat} {Ad B : Option Addr} {olds news : List Value} (hroom : ¬ n + m ≤ cp) (hsm : n + m ≤ 1048576) (hby : ee.bytes ≤ 65536)
    (o4 : (Builtin.firstCells (sz P el) n (.slice Ad n cp)).run P w.drew = .ok olds.toArray w.drew) (w4 : (Builtin.firstCells (sz P el) m (.slice B m dp)).run P w.drew = .ok news.toArray w.drew) :
    ∃ (cap : Nat) (zs : Array Value), n + m ≤ cap ∧ zs.size = (cap - (n + m)) * sz P el ∧ (do pure (.value (← Builtin.append_ #[t, t] ty #[.slice Ad n cp, .slice B m dp])) : Sem Next).run P w =
      .ok (.value (.slice (some ⟨w.heap.size, 0, none⟩) (n + m) cap)) (w.drew.alloc (.cells ((olds ++ news).toArray ++ zs) el)) := by
  obtain ⟨hue, ⟨i, j1, j2, j3, j4⟩, hs1, hs2, hs3⟩ := ti_spec hee
  have hsz : i.size = sz P el := by rw [sz_of hee, j2]
  have hlt : cp < n + m := by omega
  have hby : i.bytes ≤ 65536 := by omega
  have hmul : (n + m) * i.bytes ≤ 1048576 * 65536 := Nat.mul_le_mul hsm hby
  have hfits := growslice_fits (old := cp) (bytes := i.bytes) hlt (by omega)
  have h63 : ¬ ((9223372036854775807 : Int) < (n : Int) + (m : Int)) := by omega
  have h48 : ¬ (281474976710656 < Builtin.nextslicecap (n + m) cp * i.bytes) := by omega
  refine ⟨grownCap w (n + m) cp el, Builtin.zeroCells ee.zero.cells (grownCap w (n + m) cp el - (n + m)), grownCap_ge w (n + m) cp el, by rw [size_zeroCells, hs2, sz_of hee], ?_⟩
  rw [← hsz] at w4 o4
  simp [Builtin.append_, run_underlying hut, sizeOf, Typ.run_info j1, zeroValue, j4, Builtin.lenOf, hroom, h63, h48, Question.forced, w4, o4, newRow, grownCap]
  congr 2
  apply Array.ext'
  simp
theorem cat_rel {z : Nat → Option Obj} {as bs : List D} {xs ys : List Value} (ha : as.length = xs.length) (h1 : ∀ (j : Nat) (d : D), as[j]? = some d → ∃ x, xs[j]? = some x ∧ gD P z d x) (h2 : ∀ (j : Nat) (d : D), bs[j]? = some d → ∃ x, ys[j]? = some x ∧ gD P z d x) :
    ∀ (j : Nat) (d : D), (as ++ bs)[j]? = some d → ∃ x, (xs ++ ys)[j]? = some x ∧ gD P z d x := by
  intro j d hj
  by_cases h : j < as.length
  · rw [List.getElem?_append_left h] at hj
    obtain ⟨x, k1, k2⟩ := h1 j d hj
    exact ⟨x, by rw [List.getElem?_append_left (by omega)]; exact k1, k2⟩
  · rw [List.getElem?_append_right (by omega)] at hj
    obtain ⟨x, k1, k2⟩ := h2 _ d hj
    exact ⟨x, by rw [List.getElem?_append_right (by omega), ← ha]; exact k1, k2⟩
/-- What has grown is a row more. -/
theorem grown_row {el nb cap n m : Nat} {all : List D} {vals : List Value} {zs : Array Value} (hi : Inv P w0 κ C w) (hC : C nb = none) (hA : κ.at_ nb = none) (hl : all.length = vals.length) (hv : vals.length = (n + m) * sz P el) (hcap : n + m ≤ cap) (hzs : zs.size = (cap - (n + m)) * sz P el)
    (h : ∀ (j : Nat) (d : D), all[j]? = some d → ∃ x, vals[j]? = some x ∧ gD P κ.z d x) :
    ∃ κ', κ.le κ' ∧ (∀ k, k ≠ nb → κ'.at_ k = κ.at_ k) ∧ Inv P w0 κ' (upd C [(nb, some (.sym el all))]) (w.drew.alloc (.cells (vals.toArray ++ zs) el)) ∧ gA P κ' (.sl el nb 0 (n + m)) (.slice (some ⟨w.heap.size, 0, none⟩) (n + m) cap) := by
  have hsize : (vals.toArray ++ zs).size = cap * sz P el := by
    simp [hv, hzs, ← Nat.add_mul]
    congr 1; omega
  obtain ⟨hle, hinv⟩ := hi.drew.alloc hC hA (.sym el all) (vals.toArray ++ zs) (by simp [Row.as]; omega) (fun j a ha => by
    simp only [Row.as, List.getElem?_map] at ha
    obtain ⟨d, hd, rfl⟩ := Option.map_eq_some_iff.mp ha
    obtain ⟨x, k1, k2⟩ := h j d hd
    have hj : j < vals.length := (List.getElem?_eq_some_iff.mp k1).1
    exact ⟨x, by rw [Array.getElem?_append_left (by simpa using hj)]; simpa using k1, k2⟩)
  refine ⟨_, hle, fun k hk => put_other hk, hinv, some ⟨w.heap.size, 0, none⟩, cap, rfl, hcap, .inr ⟨w.heap.size, 0, _, by unfold Kr.put; simp only [if_true]; rfl, by simp, ?_⟩⟩
  rw [hsize]; simp
theorem s_append (hi : Inv P w0 κ C w) {g : Cs} (hg : ∀ id row, g id = some row → C id = some row) {ts : Array Nat} {args : List AV} {vs : Array Value} {ty nb : Nat} (hga : ∀ (i : Nat) (a : AV), args[i]? = some a → ∃ v, vs[i]? = some v ∧ gAV P κ a v) (hl : vs.size = args.length)
    (h : mAppend P g ts args nb = some (ns, av, us)) (hn : all_ ns) (hC : C nb = none) (hA : κ.at_ nb = none) :
    Yields P w0 κ C ((do pure (.value (← Builtin.append_ ts ty vs)) : Sem Next).run P w) av us := by
  unfold mAppend at h
  split at h <;> try (cases h; done)
  rename_i t t' x y hts
  have hts' : ts = #[t, t'] := by rw [← Array.toArray_toList (xs := ts), hts]
  subst hts'
  obtain ⟨vx, vy, rfl, hgx, hgy⟩ := two_args rfl hl hga
  split at h <;> try (cases h; done)
  rename_i et ht
  split at h <;> try (cases h; done)
  rename_i el hel
  split at h <;> try (cases h; done)
  rename_i ee n m ds ks hee hsrc
  split at h <;> try (cases h; done)
  rename_i hc
  obtain ⟨rfl, hby⟩ := hc
  have hut := (ti_spec ht).1
  rw [isSl_spec hel] at hut
  split at h <;> try (cases h; done)
  · injection h with h; injection h with e1 e2; injection e2 with e2 e3
    subst e1; subst e2; subst e3
    obtain ⟨hn1, hn2⟩ := all_append hn
    obtain ⟨κ1, B, dp, news, rfl, a1, a2, a3, a4, a5, a6, a7, a8⟩ := src_sound hsrc hn1 hi hg hgy
    have hsm : m ≤ 1048576 := hn2.1
    rw [show vx = _ from hgx]
    have hC1 : upd C (kill ks) nb = none := by rw [upd_kill]; split; rfl; exact hC
    have hA1 : κ1.at_ nb = none := by rw [a2]; exact hA
    by_cases hroom : 0 + m ≤ 0
    · obtain rfl : m = 0 := by omega
      have hnil : news = [] := List.eq_nil_of_length_eq_zero (by rw [a4]; simp)
      have hds : ds = [] := List.eq_nil_of_length_eq_zero (by rw [a5]; simp)
      subst hds
      have hr := append_stay (ty := ty) (Ad := none) hut hee hnil a6
      refine ⟨_, κ1, w, hr, a1, ?_, fun k hk => by rw [a2], .inl ⟨_, rfl, none, 0, rfl, Nat.le_refl _, .inl ⟨rfl, rfl⟩⟩⟩
      rw [upd_append]
      refine ⟨a3.os, a3.tape, a3.output, a3.size, a3.base, a3.z, fun k r hk => ?_, fun k k' r r' b o N o' N' h1 h2 h3 h4 => ?_, fun k r b o N h1 h3 => ?_⟩
      · rw [upd_one] at hk
        split at hk
        · rename_i e; subst e; injection hk with hk; subst hk; exact .inl ⟨hA1, rfl⟩
        · exact a3.live k r hk
      · rw [upd_one] at h1 h2
        split at h1
        · rename_i e; subst e; rw [hA1] at h3; cases h3
        · split at h2
          · rename_i e; subst e; rw [hA1] at h4; cases h4
          · exact a3.apart k k' r r' b o N o' N' h1 h2 h3 h4
      · rw [upd_one] at h1
        split at h1
        · rename_i e; subst e; rw [hA1] at h3; cases h3
        · exact a3.own k r b o N h1 h3
    · obtain ⟨vs0, _, _, o4, _⟩ := read_run (P := P) (w := w) (size := sz P el) (n := 0) (c := 0) (Ad := none) (ds := []) (z := κ.z) (by simp) (.inl rfl)
      have ho : vs0 = [] := by
        rw [run_firstCells_none] at o4
        injection o4 with o4
        simpa using o4.symm
      subst ho
      obtain ⟨cap, zs, c1, c2, c3⟩ := append_grow (ty := ty) (Ad := none) (n := 0) (cp := 0) hut hee hroom (by omega) hby o4 a7
      obtain ⟨κ', d1, d2, d3, d4⟩ := grown_row (n := 0) (m := m) a3 hC1 hA1 (all := ds) (vals := news) (by rw [a4, a5]) (by simpa using a4) c1 c2 a8
      simp only [List.nil_append, Nat.zero_add] at c3 d4
      exact ⟨_, κ', _, c3, a1.trans d1, by rw [upd_append]; exact d3, fun k hk => by rw [d2 k (ne_last hk), a2], .inl ⟨_, rfl, d4⟩⟩
  · rename_i u id off len
    split at h <;> try (cases h; done)
    rename_i row hrow
    split at h <;> try (cases h; done)
    rename_i old hold
    split at h <;> try (cases h; done)
    rename_i hc
    obtain ⟨rfl, hrt, hki⟩ := hc
    injection h with h; injection h with e1 e2; injection e2 with e2 e3
    subst e1; subst e2; subst e3
    obtain ⟨hn1, hle, hsm, _⟩ := all_append hn
    rw [Nat.add_mul] at hle
    obtain ⟨κ1, B, dp, news, rfl, a1, a2, a3, a4, a5, a6, a7, a8⟩ := src_sound hsrc hn1 hi hg hgy
    obtain ⟨Ad, c, rfl, hc, hv⟩ := gA.mono a1 (show gA P κ (.sl u id off len) vx from hgx)
    have hCid : upd C (kill ks) id = some row := by rw [upd_kill, if_neg (by rw [hki]; simp)]; exact hg _ _ hrow
    have hne : nb ≠ id := fun e => by subst e; rw [hg _ _ hrow] at hC; cases hC
    have hC1 : upd C (kill ks) nb = none := by rw [upd_kill]; split; rfl; exact hC
    have hA1 : κ1.at_ nb = none := by rw [a2]; exact hA
    have hbl : ((old.drop (off * sz P u)).take (len * sz P u)).length = len * sz P u := by simp; omega
    have hones := rel_ones (P := P) (by rw [a4, a5]) a8
    have hk2 : Inv P w0 κ1 (upd (upd C (kill ks)) [(id, none)]) w := a3.less (fun k r hk => by
      rw [upd_one] at hk
      split at hk
      · cases hk
      · exact hk)
    have hus : ∀ r : Row, upd C (kill ks ++ [(id, none), (nb, some r)]) = upd (upd (upd C (kill ks)) [(id, none)]) [(nb, some r)] := fun r => by rw [upd_append]; rfl
    have hread : len = 0 ∨ ∃ b p arr ty fr, Ad = some ⟨b, p, none⟩ ∧ w.heap[b]? = some (.cells arr ty fr) ∧ ∀ (j : Nat) (d : D), ((old.drop (off * sz P u)).take (len * sz P u))[j]? = some d → ∃ x, arr[p + j]? = some x ∧ gD P κ1.z d x := by
      rcases hv with ⟨hv, _⟩ | ⟨b, o, N, hv, rfl, hv2⟩
      · exact .inl hv
      rcases (a3.live id _ hCid).ds hold with ⟨g1, _⟩ | ⟨b2, o2, N2, arr, g1, g2, g3, g4, g5, g6⟩
      · rw [g1] at hv; cases hv
      rw [g1] at hv
      injection hv with hv; injection hv with e1 e2; injection e2 with e2 e3
      subst e1; subst e2; subst e3
      refine .inr ⟨b2, _, arr, _, _, rfl, g3, fun j d hj => ?_⟩
      have hjl := (List.getElem?_eq_some_iff.mp hj).1
      rw [hbl] at hjl
      rw [List.getElem?_take_of_lt hjl, List.getElem?_drop] at hj
      obtain ⟨x, k1, k2⟩ := g6 _ d hj
      exact ⟨x, by rw [Nat.add_assoc]; exact k1, k2⟩
    by_cases hroom : len + m ≤ c
    · rcases hv with ⟨rfl, rfl⟩ | ⟨b, o, N, hv, rfl, hv2⟩
      · obtain rfl : m = 0 := by omega
        have hnil : news = [] := List.eq_nil_of_length_eq_zero (by rw [a4]; simp)
        have hds : ds = [] := List.eq_nil_of_length_eq_zero (by rw [a5]; simp)
        subst hds
        have hr := append_stay (ty := ty) (Ad := Ad) hut hee hnil a6
        refine ⟨_, κ1, w, hr, a1, ?_, fun k hk => by rw [a2], .inl ⟨_, rfl, Ad, 0, rfl, Nat.le_refl _, .inl ⟨rfl, rfl⟩⟩⟩
        rw [hus]
        refine ⟨a3.os, a3.tape, a3.output, a3.size, a3.base, a3.z, fun k r hk => ?_, fun k k' r r' b o N o' N' h1 h2 h3 h4 => ?_, fun k r b o N h1 h3 => ?_⟩
        · rw [upd_one] at hk
          split at hk
          · rename_i e; subst e; injection hk with hk; subst hk; exact .inl ⟨hA1, by simp [Row.as]⟩
          · exact hk2.live k r hk
        · rw [upd_one] at h1 h2
          split at h1
          · rename_i e; subst e; rw [hA1] at h3; cases h3
          · split at h2
            · rename_i e; subst e; rw [hA1] at h4; cases h4
            · exact hk2.apart k k' r r' b o N o' N' h1 h2 h3 h4
        · rw [upd_one] at h1
          split at h1
          · rename_i e; subst e; rw [hA1] at h3; cases h3
          · exact hk2.own k r b o N h1 h3
      · rcases (a3.live id _ hCid).ds hold with ⟨g1, _⟩ | ⟨b2, o2, N2, arr, g1, g2, g3, g4, g5, g6⟩
        · rw [g1] at hv; cases hv
        rw [g1] at hv
        injection hv with hv; injection hv with e1 e2; injection e2 with e2 e3
        subst e1; subst e2; subst e3
        rw [hrt] at g3
        have hcN : o2 + off * sz P u + len * sz P u + m * sz P u ≤ N2 := by
          have h1 : (off + (len + m)) * sz P u ≤ (off + c) * sz P u := Nat.mul_le_mul_right _ (by omega)
          rw [Nat.add_mul, Nat.add_mul] at h1
          omega
        have hr := append_room (ty := ty) (p := o2 + off * sz P u) hut hee hroom g3 (by rw [a4]; omega) hones a6
        have hp : o2 + off * sz P u + len * sz P u + news.length ≤ arr.size := by rw [a4]; omega
        have hrel : ∀ (j : Nat) (a : A), (Row.sym u ((old.drop (off * sz P u)).take (len * sz P u) ++ ds)).as[j]? = some a → ∃ x, ((arr.toList.take (o2 + off * sz P u + len * sz P u) ++ news ++ arr.toList.drop (o2 + off * sz P u + len * sz P u + news.length)).toArray)[o2 + off * sz P u + j]? = some x ∧ gA P κ1 a x := by
          intro j a hj
          simp only [Row.as, List.getElem?_map] at hj
          obtain ⟨d, hd, rfl⟩ := Option.map_eq_some_iff.mp hj
          rw [spliced hp]
          by_cases hjb : j < len * sz P u
          · rw [List.getElem?_append_left (by omega), List.getElem?_take_of_lt hjb, List.getElem?_drop] at hd
            obtain ⟨x, k1, k2⟩ := g6 _ d hd
            exact ⟨x, by rw [if_pos (by omega), Nat.add_assoc]; exact k1, k2⟩
          · rw [List.getElem?_append_right (by omega), hbl] at hd
            obtain ⟨x, k1, k2⟩ := a8 _ d hd
            have hjl := (List.getElem?_eq_some_iff.mp k1).1
            exact ⟨x, by rw [if_neg (by omega), if_pos (by omega), show o2 + off * sz P u + j - (o2 + off * sz P u + len * sz P u) = j - len * sz P u by omega]; exact k1, k2⟩
        obtain ⟨κ', q1, q2, q3, q4, q5⟩ := a3.reuse hCid g1 _ (by simp [a4]; omega) nb (o2 + off * sz P u) (.sym u ((old.drop (off * sz P u)).take (len * sz P u) ++ ds)) (.inr ⟨hC1, hA1⟩) (by rw [hrt]; rfl) (by simp only [Row.as, List.length_map, List.length_append, hbl, a5]; omega) hrel (w.setRow b2 (arr.toList.take (o2 + off * sz P u + len * sz P u) ++ news ++ arr.toList.drop (o2 + off * sz P u + len * sz P u + news.length)).toArray) ⟨rfl, rfl, rfl, setRow_size _ _ _⟩ (by rw [hrt]; exact setRow_heap w b2 arr _ _ (0, 0) g3) (fun k hk => setRow_other _ _ _ _ hk)
        refine ⟨_, κ', _, hr, a1.trans q1, ?_, fun k hk => by rw [q3 k (ne_last2 hk), a2], .inl ⟨_, rfl, _, c, rfl, hroom, .inr ⟨b2, _, _, q2, by simp, ?_⟩⟩⟩
        · rw [upd_append]; exact q5
        · rw [Nat.add_mul] at hv2 ⊢
          omega
    · obtain ⟨vs0, o1, o3, o4, o5⟩ := read_run (P := P) (w := w) (c := c) (Ad := Ad) (z := κ1.z) hbl hread
      obtain ⟨cap, zs, c1, c2, c3⟩ := append_grow (ty := ty) (Ad := Ad) hut hee hroom hsm hby o4 a7
      have hC2 : upd (upd C (kill ks)) [(id, none)] nb = none := by rw [upd_one, if_neg hne]; exact hC1
      obtain ⟨κ', d1, d2, d3, d4⟩ := grown_row (n := len) (m := m) hk2 hC2 hA1 (all := (old.drop (off * sz P u)).take (len * sz P u) ++ ds) (vals := vs0 ++ news) (by rw [List.length_append, List.length_append, hbl, o1, a4, a5]) (by rw [List.length_append, o1, a4, Nat.add_mul]) c1 c2 (cat_rel (by rw [hbl, o1]) o5 a8)
      exact ⟨_, κ', _, c3, a1.trans d1, by rw [hus]; exact d3, fun k hk => by rw [d2 k (ne_last2 hk), a2], .inl ⟨_, rfl, d4⟩⟩
end

/-! ### All operations but calls -/
def mOp (P : Program) (op : Op) (e : Operand → AV) (g : Cs) (nb : Nat) : R :=
  match op with
  | .move x => some ([], e x, [])
  | .assign x => some ([], e x, [])
  | .pick c a b => mPick e c a b
  | .alloc t => mAlloc P t nb
  | .build t ps => mBuild P e t ps
  | .buildSlice t n ps => mBuildSlice P e t n ps nb
  | .load t x => mLoad P e g t x
  | .store t x y => mStore P e g t x y
  | .binOp op t x y _ => match mEq P e op t x y with | some r => some r | none => mBin P e op t x y
  | .unOp op _ x => mUn e op x
  | .convert s d x => mConvI P e s d x
  | .makeSlice t l c => mMake P e t l c nb
  | .slice t x lo hi mx => mSlice P e t x lo hi mx
  | .fieldAddr s x f => mFieldAddr P e s x f
  | .field s x f => mField P e s x f
  | .indexAddr t x i => mIndexAddr P e t x i
  | .index t x i => mIndex P e t x i
  | .extract x i => mExtract e x i
  | .call ⟨.builtin .len, args, ts⟩ => mLen P ts (args.toList.map e)
  | .call ⟨.builtin .append, args, ts⟩ => mAppend P g ts (args.toList.map e) nb
  | .call ⟨.builtin .min, args, ts⟩ => mMM false (args.toList.map e)
  | .call ⟨.builtin .max, args, ts⟩ => mMM true (args.toList.map e)
  | .box t x => mBox e t x nb
  | _ => none
section
variable {P : Program} {w0 : Bs} {κ : Kr} {C : Cs} {w : World} {ρ : Operand → Value} {e : Operand → AV} {ns : List Prop} {av : AV} {us : Us} {o : Oper}
theorem args_map (he : ∀ x, gAV P κ (e x) (ρ x)) (args : Array Operand) : ∀ (i : Nat) (a : AV), (args.toList.map e)[i]? = some a → ∃ v, (args.map ρ)[i]? = some v ∧ gAV P κ a v := by
  intro i a h
  rw [List.getElem?_map] at h
  cases hx : args.toList[i]? with
  | none => rw [hx] at h; cases h
  | some x =>
    rw [hx] at h
    injection h with h
    subst h
    rw [Array.getElem?_toList] at hx
    exact ⟨ρ x, by simp [hx], he x⟩
/-- It makes a row. -/
def isNew : Op → Bool
  | .alloc _ => true
  | .buildSlice _ _ _ => true
  | .makeSlice _ _ _ => true
  | .box _ _ => true
  | .call ⟨.builtin .append, _, _⟩ => true
  | _ => false
theorem mOp_sound (hi : Inv P w0 κ C w) (he : ∀ x, gAV P κ (e x) (ρ x)) {g : Cs} (hg : ∀ id row, g id = some row → C id = some row) {nb : Nat} (h : mOp P o.op e g nb = some (ns, av, us)) (hn : all_ ns) (hnew : isNew o.op = true → C nb = none ∧ κ.at_ nb = none) :
    Yields P w0 κ C ((execOp ρ o).run P w) av us := by
  unfold mOp at h
  unfold execOp
  split at h
  all_goals try (cases h; done)
  all_goals
    rename_i hop
    rw [hop] at hnew
    rw [hop]
    simp only
  · injection h with h; injection h with e1 e2; injection e2 with e2 e3
    subst e1; subst e2; subst e3
    exact .val hi (he _)
  · injection h with h; injection h with e1 e2; injection e2 with e2 e3
    subst e1; subst e2; subst e3
    exact .val hi (he _)
  · exact s_pick hi he h
  · exact s_alloc hi h (hnew rfl).1 (hnew rfl).2
  · exact s_build hi he h
  · exact s_buildSlice hi he h (hnew rfl).1 (hnew rfl).2
  · exact s_load hi he hg h hn
  · exact s_store hi he hg h hn
  · split at h
    · rename_i r hr; injection h with h; subst h; exact s_eq hi he hr
    · exact s_bin hi he h hn
  · exact s_un hi he h hn
  · exact s_convI hi he h hn
  · exact s_make hi he h hn (hnew rfl).1 (hnew rfl).2
  · exact s_slice hi he h hn
  · exact s_fieldAddr hi he h
  · exact s_field hi he h
  · exact s_indexAddr hi he h hn
  · exact s_index hi he h hn
  · exact s_extract hi he h
  · exact s_len hi (args_map he _) (by simp) h
  · exact s_append hi hg (args_map he _) (by simp) h hn (hnew rfl).1 (hnew rfl).2
  · exact s_min hi (args_map he _) (by simp) h
  · exact s_max hi (args_map he _) (by simp) h
  · exact s_box hi he h (hnew rfl).1 (hnew rfl).2
end
end Go.Proofs.Ytplcdadedpbkpaa.Mini
end
section
/- Exact values: calls of functions with known answers; regions. -/
namespace Go.Proofs.Ytplcdadedpbkpaa.Mini
open Go Go.RowKit
set_option linter.unusedVariables false

/-! ### Functions with known answers -/
/-- How a function's lists are treated: its results are its own; they are not to be written any more; it writes into those of its arguments. Of rd the first argument points to a struct that it writes into (its results are its own, or, with z, not to be written any more); op makes such a struct. -/
inductive Md where
  | own
  | fz
  | wr
  | rd (z : Bool)
  | op
/-- What is known of a function: the types of its parameters and results; what it asks of its arguments' cells, what its results' cells are then. -/
structure Sig where
  params : List Nat
  results : List Nat
  pre : List D → Prop
  post : List D → List D → Prop
  md : Md
def isSt (P : Program) (t : Nat) : Bool := match ti P t with | some e => Typ.isStruct e.und | none => false
/-- The kinds of a type's cells. -/
def ksOf (P : Program) (t : Nat) : Option (List Kd) :=
  match kinds P 6 t, ti P t with
  | some ks, some et => if ks.length = et.size ∧ (Typ.isStruct et.und = true ∨ ks.length = 1) then some ks else none
  | _, _ => none
def ksAll (P : Program) : List Nat → Option (List Kd)
  | [] => some []
  | t :: ts => match ksOf P t, ksAll P ts with | some a, some b => some (a ++ b) | _, _ => none
/-- Cells as values of types. -/
def splitV (P : Program) : List Nat → List A → Option (List V1)
  | [], [] => some []
  | t :: ts, as => match ksOf P t with
    | some ks => if isSt P t = true then
        if ks.length ≤ as.length then (match splitV P ts (as.drop ks.length) with | some l => some (.agg (as.take ks.length) :: l) | none => none) else none
      else match as with
        | a :: as' => (match splitV P ts as' with | some l => some (.one a :: l) | none => none)
        | [] => none
    | none => none
  | _, _ => none
def splitVal (P : Program) : List Nat → List Value → List Value → Prop
  | [], cells, vs => cells = [] ∧ vs = []
  | t :: ts, cells, v :: vs => match ksOf P t with
    | some ks => if isSt P t = true then ∃ arr : Array Value, v = .agg arr ∧ ks.length ≤ cells.length ∧ arr.toList = cells.take ks.length ∧ splitVal P ts (cells.drop ks.length) vs
      else ∃ rest, cells = v :: rest ∧ splitVal P ts rest vs
    | none => False
  | _ :: _, _, [] => False
/-- All that lies in a world. -/
def Kr.of (w : World) : Kr := ⟨fun _ => none, fun b => w.heap[b]?⟩
/-- A list of the call's own that was handed back. -/
def ownOk (P : Program) (base : Nat) (w' : World) (t n : Nat) (ds : List D) (v : Value) : Option (Nat × Nat × Nat) → Prop
  | none => ds = [] ∧ n = 0 ∧ ∃ Ad, v = .slice Ad 0 0
  | some (b, o, N) => ∃ c arr, v = .slice (some ⟨b, o, none⟩) n c ∧ n ≤ c ∧ ds.length = n * sz P t ∧ base ≤ b ∧ o + c * sz P t ≤ N ∧ w'.heap[b]? = some (.cells arr t (0, 0)) ∧ arr.size = N ∧
      ∀ (j : Nat) (d : D), ds[j]? = some d → ∃ x, arr[o + j]? = some x ∧ gD P (fun _ => none) d x
def resL (P : Program) (base : Nat) (w' : World) (ys : List D) : Nat → List Kd → List Value → List (Option (Nat × Nat × Nat)) → Prop
  | _, [], vs, bs => vs = [] ∧ bs = []
  | j, .list t :: ks, v :: vs, ob :: bs => ownOk P base w' t (selN ys j) (selL ys j) v ob ∧ resL P base w' ys (j + 1) ks vs bs
  | j, .int k :: ks, v :: vs, bs => gD P (fun _ => none) (sel ys j (.int k)) v ∧ resL P base w' ys (j + 1) ks vs bs
  | j, .bool :: ks, v :: vs, bs => gD P (fun _ => none) (sel ys j .bool) v ∧ resL P base w' ys (j + 1) ks vs bs
  | j, .str :: ks, v :: vs, bs => gD P (fun _ => none) (sel ys j .str) v ∧ resL P base w' ys (j + 1) ks vs bs
  | _, _, _, _ => False
def wrapVal : List Value → Value
  | [u] => u
  | vs => .tuple vs.toArray
/-- The results are as said. -/
def ResOk (P : Program) (w w' : World) (rts : List Nat) (ys : List D) (v : Value) : Prop :=
  ∃ ks cells vs bs, ksAll P rts = some ks ∧ all_ (needs ys 0 ks) ∧ splitVal P rts cells vs ∧ (blocks bs).Nodup ∧ resL P w.heap.size w' ys 0 ks cells bs ∧ v = wrapVal vs
/-- Cells are of the kinds that are asked for. -/
def fitK : D → Kd → Bool
  | .int k _, .int k' => k == k'
  | .bool _, .bool => true
  | .str _, .str => true
  | .list t _ _, .list t' => t == t'
  | _, _ => false
def nilTo : D → Kd → D
  | .list 0 0 [], .list t => .list t 0 []
  | d, _ => d
def fits : List D → List Kd → Bool
  | [], [] => true
  | d :: ds, k :: ks => fitK d k && fits ds ks
  | _, _ => false
def nilsTo : List D → List Kd → List D
  | d :: ds, k :: ks => nilTo d k :: nilsTo ds ks
  | ds, _ => ds
/-- What lies there behind a call: what was known to stay, and all that is new. -/
def zNew (zz : Nat → Option Obj) (w w' : World) : Nat → Option Obj := fun b => if b < w.heap.size then zz b else w'.heap[b]?
/-- The results are as said; their lists are not to be written any more. -/
def ResF (P : Program) (zz : Nat → Option Obj) (w w' : World) (rts : List Nat) (ys : List D) (v : Value) : Prop :=
  ∃ ks cells vs, ksAll P rts = some ks ∧ all_ (needs ys 0 ks) ∧ splitVal P rts cells vs ∧ gL P ⟨fun _ => none, zNew zz w w'⟩ (sels ys 0 ks) cells ∧ v = wrapVal vs
def ResB (P : Program) (md : Md) (zz : Nat → Option Obj) (w w' : World) (rts : List Nat) (ys : List D) (v : Value) : Prop :=
  match md with
  | .fz => ResF P zz w w' rts ys v
  | _ => ResOk P w w' rts ys v
/-- Only these blocks have changed, and new ones are there. -/
structure Wrote (w w' : World) (B : List Nat) : Prop where
  os : w'.os = w.os
  tape : w'.tape = w.tape
  output : w'.output = w.output
  size : w.heap.size ≤ w'.heap.size
  block : ∀ b, b < w.heap.size → b ∉ B → w'.heap[b]? = w.heap[b]?
/-- What lies in the lists that were written. -/
def wroteL (P : Program) (w' : World) (zs : List D) : Nat → List Kd → List Value → List (Option (Nat × Nat × Nat)) → Prop
  | _, [], vs, bs => vs = [] ∧ bs = []
  | i, .list t :: ks, v :: vs, ob :: bs => ownOk P 0 w' t (selN zs i) (selL zs i) v ob ∧ wroteL P w' zs (i + 1) ks vs bs
  | i, .int _ :: ks, _ :: vs, bs => wroteL P w' zs i ks vs bs
  | i, .bool :: ks, _ :: vs, bs => wroteL P w' zs i ks vs bs
  | i, .str :: ks, _ :: vs, bs => wroteL P w' zs i ks vs bs
  | _, _, _, _ => False
def lists : List Kd → Nat
  | [] => 0
  | .list _ :: ks => lists ks + 1
  | _ :: ks => lists ks
/-- What a type of pointers points to. -/
def isPtr (P : Program) (t : Nat) : Option Nat := match P.underlying t with | some (.pointer el) => some el | _ => none
/-- Cells behind a place of a block. -/
def seenAt (P : Program) (zz : Nat → Option Obj) (arr : Array Value) (o : Nat) (ds : List D) : Prop := ∀ (j : Nat) (d : D), ds[j]? = some d → ∃ x, arr[o + j]? = some x ∧ gD P zz d x
/-- What lies there behind a call, but for the lists that were handed back. -/
def zBut (zz : Nat → Option Obj) (w w' : World) (B : List Nat) : Nat → Option Obj := fun b => if b < w.heap.size then zz b else if b ∈ B then none else w'.heap[b]?
/-- The results of a call that wrote into what it was pointed to, and what lies there then. -/
def ResR (P : Program) (z : Bool) (zz : Nat → Option Obj) (w w' : World) (rts : List Nat) (ys : List D) (v : Value) (arr : Array Value) (o : Nat) (ds : List D) : Prop :=
  match z with
  | true => ResF P zz w w' rts ys v ∧ seenAt P (zNew zz w w') arr o ds
  | false => ∃ ks cells vs bs, ksAll P rts = some ks ∧ all_ (needs ys 0 ks) ∧ splitVal P rts cells vs ∧ (blocks bs).Nodup ∧ resL P w.heap.size w' ys 0 ks cells bs ∧ v = wrapVal vs ∧ seenAt P (zBut zz w w' (blocks bs)) arr o ds
def RdOk (P : Program) (f : Nat) (s : Sig) (z : Bool) : Prop :=
  ∀ (w : World) (zz : Nat → Option Obj) (vs : List Value) (pt t : Nat) (pts : List Nat) (xs : List D) (ks : List Kd) (cells : List Value) (g o : Nat) (arr : Array Value) (ds : List D), (∀ b x, zz b = some x → w.heap[b]? = some x) → zz g = none → w.heap[g]? = some (.cells arr t (0, 0)) → o + ds.length ≤ arr.size → seenAt P zz arr o ds →
    s.params = pt :: pts → isPtr P pt = some t → ksAll P pts = some ks → splitVal P pts cells vs → fits xs ks = true → gL P ⟨fun _ => none, zz⟩ (sels xs 0 ks) cells → s.pre (.list 0 0 ds :: xs) →
    Calls P f (.pointer (some ⟨g, o, none⟩) :: vs).toArray w fun e w' => ∃ v ys ds' arr', e = .returned v ∧ s.post (.list 0 0 ds :: xs) (.list 0 0 ds' :: ys) ∧ Wrote w w' [g] ∧ w'.heap[g]? = some (.cells arr' t (0, 0)) ∧ arr'.size = arr.size ∧ o + ds'.length ≤ arr'.size ∧ ResR P z zz w w' s.results ys v arr' o ds'
def OpOk (P : Program) (f : Nat) (s : Sig) : Prop :=
  ∀ (w : World) (zz : Nat → Option Obj) (vs : Array Value) (xs : List D) (ks : List Kd) (cells : List Value) (pt t : Nat), (∀ b x, zz b = some x → w.heap[b]? = some x) → s.results = [pt] → isPtr P pt = some t → ksAll P s.params = some ks → splitVal P s.params cells vs.toList → fits xs ks = true → gL P ⟨fun _ => none, zz⟩ (sels xs 0 ks) cells → s.pre xs →
    Calls P f vs w fun e w' => ∃ g arr ds', e = .returned (.pointer (some ⟨g, 0, none⟩)) ∧ s.post xs [.list 0 0 ds'] ∧ Below w.heap.size w w' ∧ w.heap.size ≤ g ∧ w'.heap[g]? = some (.cells arr t (0, 0)) ∧ ds'.length ≤ arr.size ∧ seenAt P zz arr 0 ds'
/-- A function answers as said. -/
def FnOk (P : Program) (f : Nat) (s : Sig) : Prop :=
  (∃ fn, P.funcs[f]? = some fn ∧ (fn.name == "runtime.NumGoroutine") = false ∧ fn.body.isNone = false) ∧
  (match s.md with
  | .wr => ∀ (w : World) (vs : Array Value) (xs : List D) (ks : List Kd) (cells : List Value) (bs : List (Option (Nat × Nat × Nat))), ksAll P s.params = some ks → splitVal P s.params cells vs.toList → fits xs ks = true → resL P 0 w xs 0 ks cells bs → (blocks bs).Nodup → s.pre xs →
    Calls P f vs w fun e w' => ∃ v ys zs, e = .returned v ∧ s.post xs (ys ++ zs) ∧ (∃ rk, ksAll P s.results = some rk ∧ lists rk = 0 ∧ ys.length = rk.length) ∧ Wrote w w' (blocks bs) ∧ wroteL P w' zs 0 ks cells bs ∧ ResOk P w w' s.results ys v
  | .rd z => RdOk P f s z
  | .op => OpOk P f s
  | _ => ∀ (w : World) (zz : Nat → Option Obj) (vs : Array Value) (xs : List D) (ks : List Kd) (cells : List Value), (∀ b x, zz b = some x → w.heap[b]? = some x) → ksAll P s.params = some ks → splitVal P s.params cells vs.toList → fits xs ks = true → gL P ⟨fun _ => none, zz⟩ (sels xs 0 ks) cells → s.pre xs →
    Calls P f vs w fun e w' => ∃ v ys, e = .returned v ∧ s.post xs ys ∧ Below w.heap.size w w' ∧ ResB P s.md zz w w' s.results ys v)
abbrev Tb := Nat → Option Sig
def FnsOk (P : Program) (F : Tb) : Prop := ∀ f s, F f = some s → FnOk P f s

/-! ### Trees -/
inductive Tree where
  | ret (ys : List D)
  | ite (c : Bool) (t f : Tree)
  | need (p : Prop) (t : Tree)
  | call (f : Nat) (xs : List D) (k : List D → Tree)
  | goto (h : Nat) (xs : List D)
  | fail
def Tree.holds (F : Tb) (J : Nat → List D → Prop) (Q : List D → Prop) : Tree → Prop
  | .ret ys => Q ys
  | .ite c t f => (c = true → t.holds F J Q) ∧ (c = false → f.holds F J Q)
  | .need p t => p ∧ t.holds F J Q
  | .call f xs k => match F f with
    | some s => s.pre xs ∧ ∀ ys, s.post xs ys → (k ys).holds F J Q
    | none => False
  | .goto h xs => J h xs
  | .fail => False
def Tree.needs (ns : List Prop) (t : Tree) : Tree := match ns with | [] => t | _ => .need (all_ ns) t
theorem Tree.holds_needs {F : Tb} {J : Nat → List D → Prop} {Q : List D → Prop} {ns : List Prop} {t : Tree} (h : (Tree.needs ns t).holds F J Q) : all_ ns ∧ t.holds F J Q := by
  cases ns with
  | nil => exact ⟨trivial, h⟩
  | cons p ps => exact h

/-! ### One operation -/
structure St where
  tmps : List AV
  H : List (Option Row)
def cs (H : List (Option Row)) : Cs := fun id => (H[id]?).join
def A.ids : A → List Nat
  | .sl _ id _ _ => [id]
  | .ptr id _ => [id]
  | .pe _ id _ _ => [id]
  | _ => []
def AV.ids : AV → List Nat
  | .v (.one a) => a.ids
  | .v (.agg l) => l.flatMap A.ids
  | .tup _ => []
def opTmps (op : Op) : List Nat := op.operands.toList.filterMap fun x => match x with | .tmp t => some t | _ => none
def unl : AV → AV
  | .v (.one (.lit b)) => bool b
  | x => x
theorem unl_sound {P : Program} {κ : Kr} {av : AV} {v : Value} (h : gAV P κ av v) : gAV P κ (unl av) v := by
  unfold unl
  split
  · rename_i b
    have h1 : v = .bool b := h
    rw [h1]; exact gbool' b
  · exact h
/-- Only what moves a value hands a known truth on. -/
def keepsLit : Op → Bool
  | .move _ => true
  | .assign _ => true
  | .pick _ _ _ => true
  | _ => false
def unlE (op : Op) (e : Operand → AV) : Operand → AV := fun x => if keepsLit op = true then e x else unl (e x)
theorem unlE_sound {P : Program} {κ : Kr} {op : Op} {e : Operand → AV} {ρ : Operand → Value} (h : ∀ x, gAV P κ (e x) (ρ x)) : ∀ x, gAV P κ (unlE op e x) (ρ x) := by
  intro x
  unfold unlE
  split
  · exact h x
  · exact unl_sound (h x)
/-- What an operation may look at. -/
def evalR (ts : List Nat) (tmps : List AV) : Operand → AV
  | .tmp t => if ts.contains t then tmps.getD t anyV else anyV
  | .const v => absC v
  | _ => anyV
/-- It looks at rows. -/
def looks : Op → Bool
  | .load _ _ => true
  | .store _ _ _ => true
  | .call ⟨.builtin .append, _, _⟩ => true
  | .call ⟨.builtin _, _, _⟩ => false
  | .call _ => true
  | _ => false
/-- The rows that it may look at. -/
def touch (op : Op) (σ : St) : List Nat :=
  if looks op = true then
    let i0 := op.operands.toList.flatMap fun x => (evalR (opTmps op) σ.tmps x).ids
    i0 ++ i0.flatMap fun id => match cs σ.H id with | some (.fix _ l) => l.flatMap A.ids | _ => []
  else []
def restr (H : List (Option Row)) (ids : List Nat) : Cs := fun id => if ids.contains id = true then cs H id else none
def setH (H : List (Option Row)) (us : Us) : List (Option Row) := us.foldl (fun H p => H.set p.1 p.2) H
/-- All changes are of rows that there is room for. -/
def okU (n : Nat) (us : Us) : Bool := us.all fun p => decide (p.1 < n)
def putL (tmps : List AV) (dst : Option Nat) (av : AV) : List AV := match dst with | some d => tmps.set d av | none => tmps
/-- Arguments, cell by cell. -/
def viewL (P : Program) (g : Cs) : List A → Option (List Prop × List D)
  | [] => some ([], [])
  | a :: l => match frz P g a, viewL P g l with
    | some (n1, d, _), some (n2, ds) => some (n1 ++ n2, d :: ds)
    | _, _ => none
def argCells (P : Program) : List Nat → List AV → Option (List A)
  | [], [] => some []
  | t :: ts, .v x :: avs => match ksOf P t, argCells P ts avs with
    | some ks, some l => (match isSt P t, x with
      | true, .agg m => if m.length = ks.length then some (m ++ l) else none
      | false, .one a => some (a :: l)
      | _, _ => none)
    | _, _ => none
  | _, _ => none
/-- Results, cell by cell: lists are new rows. -/
def resA (ys : List D) : Nat → Nat → List Kd → List A × Us
  | _, _, [] => ([], [])
  | nb, j, .list t :: ks => let r := resA ys (nb + 1) (j + 1) ks; (.sl t nb 0 (selN ys j) :: r.1, (nb, some (.sym t (selL ys j))) :: r.2)
  | nb, j, k :: ks => let r := resA ys nb (j + 1) ks; (.d (sel ys j k) :: r.1, r.2)
def wrapR : List V1 → AV
  | [x] => .v x
  | l => .tup l
def isCallF : Op → Option (Nat × Array Operand)
  | .call ⟨.value (.func f), args, _⟩ => some (f, args)
  | _ => none
def D.scalar : D → Bool
  | .list _ _ _ => false
  | _ => true
def scal (l : List D) : Prop := ∀ d ∈ l, d.scalar = true
/-- Arguments whose lists may be written: whole rows of the call's own, of numbers, truths and texts. -/
def wrA (P : Program) (g : Cs) : List Kd → List A → Option (List Prop × List D × List Nat)
  | [], [] => some ([], [], [])
  | .list t :: ks, .sl u id off len :: as => match g id, wrA P g ks as with
    | some row, some (ns, ds, ids) => match rowD row with
      | some l => if u = t ∧ row.t = t ∧ ids.contains id = false then some ((off = 0 ∧ l.length = len * sz P t ∧ scal l) :: ns, .list t len l :: ds, id :: ids) else none
      | none => none
    | _, _ => none
  | k :: ks, .d d :: as => match wrA P g ks as with
    | some (ns, ds, ids) => if fitK d k = true ∧ d.scalar = true then some (ns, d :: ds, ids) else none
    | none => none
  | _, _ => none
def wrU (yz : List D) : Nat → List Kd → List Nat → Us
  | i, .list t :: ks, id :: ids => (id, some (.sym t (selL yz i))) :: wrU yz (i + 1) ks ids
  | i, _ :: ks, ids => wrU yz i ks ids
  | _, [], _ => []
/-- What a call makes of its arguments: seen as they are, not to be written any more, or written. -/
def callV (P : Program) (s : Sig) (g : Cs) (pk : List Kd) (as : List A) : Option (List Prop × List D × List Nat) :=
  match s.md with
  | .fz => frzL P g as
  | .own => match viewL P g as with | some (ns, ds) => some (ns, ds, []) | none => none
  | .wr => wrA P g pk as
  | _ => none
def resU (s : Sig) (ys : List D) (nb : Nat) (kl : List Nat) (pk rk : List Kd) : List A × Us :=
  match s.md with
  | .fz => (sels ys 0 rk, kill kl)
  | .own => resA ys nb 0 rk
  | .wr => (sels ys 0 rk, wrU ys rk.length pk kl)
  | _ => ([], [])
def nRes (s : Sig) (rk : List Kd) : Nat := match s.md with | .own => lists rk | .rd false => lists rk | _ => 0
def mdOk (s : Sig) (rk : List Kd) : Bool := match s.md with | .wr => lists rk == 0 | _ => true
def execC (P : Program) (nb : Nat) (o : Oper) (σ : St) (K : St → Tree) (f : Nat) (args : Array Operand) (s : Sig) : Tree :=
  match argCells P s.params (args.toList.map fun x => unl (evalR (opTmps o.op) σ.tmps x)), ksAll P s.params, ksAll P s.results with
  | some as, some pk, some rk => match callV P s (restr σ.H (touch o.op σ)) pk as with
    | some (ns, ds, kl) => if fits (nilsTo ds pk) pk = true ∧ nb + nRes s rk ≤ σ.H.length ∧ okU σ.H.length (kill kl) = true ∧ mdOk s rk = true then
        .needs ns (.call f (nilsTo ds pk) fun ys =>
          match splitV P s.results (resU s ys nb kl pk rk).1 with
          | some l => K ⟨putL σ.tmps o.dst (wrapR l), setH σ.H (resU s ys nb kl pk rk).2⟩
          | none => .fail)
      else .fail
    | none => .fail
  | _, _, _ => .fail
/-- A struct that is pointed to. -/
def ptrArg (g : Cs) : AV → Option (Nat × Row × List D)
  | .v (.one (.ptr id 0)) => match g id with
    | some row => (match rowD row with | some ds => some (id, row, ds) | none => none)
    | none => none
  | _ => none
def scalK : Kd → Bool
  | .list _ => false
  | _ => true
def resR (z : Bool) (ys : List D) (nb : Nat) (rk : List Kd) : List A × Us := if z = true then (sels ys 1 rk, []) else resA ys nb 1 rk
def readR (P : Program) (g : Cs) (s : Sig) (l : List AV) : Option (Nat × Row × List D × List Kd × List Kd × List Prop × List D) :=
  match l, s.params with
  | a0 :: rest, pt :: pts => match ptrArg g a0, argCells P pts rest, ksAll P pts, ksAll P s.results with
    | some (id, row, ds), some as, some pk, some rk => match viewL P g as with
      | some (ns, xs) => if isPtr P pt = some row.t ∧ pk.all scalK = true ∧ fits (nilsTo xs pk) pk = true then some (id, row, ds, pk, rk, ns, nilsTo xs pk) else none
      | none => none
    | _, _, _, _ => none
  | _, _ => none
def execR (P : Program) (nb : Nat) (o : Oper) (σ : St) (K : St → Tree) (f : Nat) (args : Array Operand) (s : Sig) (z : Bool) : Tree :=
  match readR P (restr σ.H (touch o.op σ)) s (args.toList.map fun x => unl (evalR (opTmps o.op) σ.tmps x)) with
  | some (id, row, ds, pk, rk, ns, xs) => if nb + nRes s rk ≤ σ.H.length ∧ id < σ.H.length then
      .needs ns (.call f (.list 0 0 ds :: xs) fun ys =>
        match splitV P s.results (resR z ys nb rk).1 with
        | some l => K ⟨putL σ.tmps o.dst (wrapR l), setH σ.H ((id, some (.sym row.t (selL ys 0))) :: (resR z ys nb rk).2)⟩
        | none => .fail)
    else .fail
  | none => .fail
def readO (P : Program) (g : Cs) (s : Sig) (l : List AV) : Option (Nat × List Kd × List Prop × List D) :=
  match argCells P s.params l, ksAll P s.params, s.results with
  | some as, some pk, [pt] => match frzL P g as, isPtr P pt with
    | some (ns, xs, []), some t => if fits (nilsTo xs pk) pk = true then some (t, pk, ns, nilsTo xs pk) else none
    | _, _ => none
  | _, _, _ => none
def execO (P : Program) (nb : Nat) (o : Oper) (σ : St) (K : St → Tree) (f : Nat) (args : Array Operand) (s : Sig) : Tree :=
  match readO P (restr σ.H (touch o.op σ)) s (args.toList.map fun x => unl (evalR (opTmps o.op) σ.tmps x)) with
  | some (t, _, ns, xs) => if nb + 1 ≤ σ.H.length then
      .needs ns (.call f xs fun ys => K ⟨putL σ.tmps o.dst (one (.ptr nb 0)), setH σ.H [(nb, some (.sym t (selL ys 0)))]⟩)
    else .fail
  | none => .fail
/-- One operation, whose new rows are nb and on. -/
def exec (P : Program) (F : Tb) (nb : Nat) (o : Oper) (σ : St) (K : St → Tree) : Tree :=
  match isCallF o.op with
  | some (f, args) =>
    match F f with
    | some s => match s.md with
      | .rd z => execR P nb o σ K f args s z
      | .op => execO P nb o σ K f args s
      | _ => execC P nb o σ K f args s
    | none => .fail
  | none =>
    match mOp P o.op (unlE o.op (evalR (opTmps o.op) σ.tmps)) (restr σ.H (touch o.op σ)) nb with
    | some (ns, av, us) => if okU σ.H.length us = true then .needs ns (K ⟨putL σ.tmps o.dst av, setH σ.H us⟩) else .fail
    | none => .fail

def nNew (P : Program) (F : Tb) (o : Oper) : Nat :=
  match isCallF o.op with
  | some (f, _) => match F f with
    | some s => match s.md with | .op => 1 | _ => match ksAll P s.results with | some rk => nRes s rk | none => 0
    | none => 0
  | none => if isNew o.op = true then 1 else 0

section
variable {P : Program} {w0 : Bs} {κ : Kr} {C : Cs} {w w' : World} {F : Tb}
theorem Inv.below (h : Inv P w0 κ C w) (hb : Below w.heap.size w w') : Inv P w0 κ C w' := by
  refine ⟨hb.os.trans h.os, hb.tape.trans h.tape, hb.output.trans h.output, Nat.le_trans h.size hb.size, fun b hlt hW => ⟨(hb.block b (Nat.lt_of_lt_of_le hlt h.size)).trans (h.base b hlt hW).1, (h.base b hlt hW).2⟩, fun b x hx => (hb.block b (h.zlt hx)).trans (h.z b x hx), fun id row hr => ?_, h.apart, h.own⟩
  rcases h.live id row hr with h1 | ⟨b, o, N, arr, h1, h2, h3, h4⟩
  · exact .inl h1
  · exact .inr ⟨b, o, N, arr, h1, h2, (hb.block b (block_of h3)).trans h3, h4⟩
/-- A row more, in a block that is there. -/
theorem Inv.add (h : Inv P w0 κ C w) {id b o N : Nat} (hC : C id = none) (hA : κ.at_ id = none) (row : Row) (arr : Array Value) (hz : κ.z b = none) (hbo : w0.heap.size ≤ b ∨ b ∈ blocks w0.bs) (hb : w.heap[b]? = some (.cells arr row.t (0, 0))) (hN : arr.size = N) (hlen : o + row.as.length ≤ N)
    (hr : ∀ (j : Nat) (a : A), row.as[j]? = some a → ∃ x, arr[o + j]? = some x ∧ gA P κ a x) (hno : ∀ k r o' N', C k = some r → κ.at_ k = some (b, o', N') → False) :
    κ.le (κ.put id (b, o, N)) ∧ Inv P w0 (κ.put id (b, o, N)) (upd C [(id, some row)]) w := by
  have hle : κ.le (κ.put id (b, o, N)) := Kr.le_put hA
  refine ⟨hle, h.os, h.tape, h.output, h.size, h.base, h.z, fun k r hk => ?_, fun k k' r r' b1 o1 N1 o2 N2 h1 h2 h3 h4 => ?_, fun k r b1 o1 N1 h1 h3 => ?_⟩
  · rw [upd_one] at hk
    split at hk
    · rename_i e
      subst e
      injection hk with hk; subst hk
      refine .inr ⟨b, o, N, arr, by simp [Kr.put], hz, hb, hN, hlen, fun j a ha => ?_⟩
      obtain ⟨x, q1, q2⟩ := hr j a ha
      exact ⟨x, q1, q2.mono hle⟩
    · rename_i hne
      rcases h.live k r hk with ⟨g1, g2⟩ | ⟨b1, o1, N1, ar, g1, g2, g3, g4, g5, g6⟩
      · exact .inl ⟨by rw [put_other hne]; exact g1, g2⟩
      · refine .inr ⟨b1, o1, N1, ar, hle.at_ _ _ g1, g2, g3, g4, g5, fun j a ha => ?_⟩
        obtain ⟨x, q1, q2⟩ := g6 j a ha
        exact ⟨x, q1, q2.mono hle⟩
  · rw [upd_one] at h1 h2
    have same : (κ.put id (b, o, N)).at_ id = some (b, o, N) := by simp [Kr.put]
    by_cases e1 : k = id <;> by_cases e2 : k' = id
    · rw [e1, e2]
    · exfalso
      rw [if_neg e2] at h2
      rw [e1, same] at h3
      rw [put_other e2] at h4
      injection h3 with h3; injection h3 with h3 _
      subst h3
      exact hno k' r' o2 N2 h2 h4
    · exfalso
      rw [if_neg e1] at h1
      rw [e2, same] at h4
      rw [put_other e1] at h3
      injection h4 with h4; injection h4 with h4 _
      subst h4
      exact hno k r o1 N1 h1 h3
    · rw [if_neg e1] at h1
      rw [if_neg e2] at h2
      rw [put_other e1] at h3
      rw [put_other e2] at h4
      exact h.apart k k' r r' b1 o1 N1 o2 N2 h1 h2 h3 h4
  · rw [upd_one] at h1
    split at h1
    · rename_i e
      subst e
      have same : (κ.put k (b, o, N)).at_ k = some (b, o, N) := by simp [Kr.put]
      rw [same] at h3
      injection h3 with h3; injection h3 with h3 _
      subst h3; exact hbo
    · rename_i e
      rw [put_other e] at h3
      exact h.own k r b1 o1 N1 h1 h3
theorem frz_view {g : Cs} {a : A} {n : List Prop} {d : D} {ks : List Nat} (h : frz P g a = some (n, d, ks)) (hn : all_ n) (hi : Inv P w0 κ C w) (hg : ∀ id row, g id = some row → C id = some row) {v : Value} (hv : gA P κ a v) : gD P (Kr.of w).z d v := by
  obtain ⟨κ', _, _, h3, h4⟩ := frz_sound h hn hi (fun id _ row hr => hg id row hr) hv
  exact gD.mono h3.z h4
theorem viewL_sound {g : Cs} (hi : Inv P w0 κ C w) (hg : ∀ id row, g id = some row → C id = some row) : ∀ {l : List A} {n : List Prop} {ds : List D} {vs : List Value}, viewL P g l = some (n, ds) → all_ n → gL P κ l vs →
    ds.length = vs.length ∧ ∀ (j : Nat) (d : D), ds[j]? = some d → ∃ v, vs[j]? = some v ∧ gD P (Kr.of w).z d v
  | [], n, ds, vs, h, hn, hv => by
    injection h with h; injection h with h1 h2
    subst h2
    exact ⟨hv.len, fun j d hj => by simp at hj⟩
  | a :: l, n, ds, v :: vs, h, hn, ⟨hv1, hv2⟩ => by
    unfold viewL at h
    split at h <;> try (cases h; done)
    rename_i n1 d k1 n2 ds2 h1 h2
    injection h with h; injection h with e1 e2
    subst e1; subst e2
    obtain ⟨hn1, hn2⟩ := all_append hn
    obtain ⟨q1, q2⟩ := viewL_sound hi hg h2 hn2 hv2
    refine ⟨by simp [q1], fun j d' hj => ?_⟩
    cases j with
    | zero => simp at hj; subst hj; exact ⟨v, rfl, frz_view h1 hn1 hi hg hv1⟩
    | succ j => simpa using q2 j d' (by simpa using hj)
theorem argCells_sound : ∀ {ts : List Nat} {avs : List AV} {as : List A} {vs : List Value}, argCells P ts avs = some as → vs.length = avs.length → (∀ (i : Nat) (av : AV), avs[i]? = some av → ∃ v, vs[i]? = some v ∧ gAV P κ av v) →
    ∃ cells, splitVal P ts cells vs ∧ gL P κ as cells
  | [], [], as, vs, h, hl, _ => by
    injection h with h; subst h
    have : vs = [] := List.eq_nil_of_length_eq_zero (by simpa using hl)
    subst this
    exact ⟨[], ⟨rfl, rfl⟩, trivial⟩
  | t :: ts, av :: avs, as, [], h, hl, _ => by simp at hl
  | t :: ts, .v x :: avs, as, v :: vs, h, hl, hg => by
    unfold argCells at h
    split at h <;> try (cases h; done)
    rename_i ks l hks hl2
    obtain ⟨u, hu, hgu⟩ := hg 0 _ rfl
    simp at hu
    subst hu
    obtain ⟨cells, c1, c2⟩ := argCells_sound hl2 (by simpa using hl) (fun i av hi => by simpa using hg (i + 1) av (by simpa using hi))
    split at h <;> try (cases h; done)
    · rename_i m hst
      split at h <;> try (cases h; done)
      rename_i hm
      injection h with h; subst h
      obtain ⟨arr, rfl, harr⟩ := hgu
      have hal := harr.len
      refine ⟨arr.toList ++ cells, ?_, harr.append c2⟩
      unfold splitVal
      rw [hks]
      simp only
      rw [if_pos hst]
      refine ⟨arr, rfl, by simp at hal; simp; omega, ?_, ?_⟩
      · rw [List.take_left' (by omega)]
      · rw [List.drop_left' (by omega)]; exact c1
    · rename_i a hst
      injection h with h; subst h
      refine ⟨v :: cells, ?_, hgu, c2⟩
      unfold splitVal
      rw [hks]
      simp only
      rw [if_neg (by rw [hst]; simp)]
      exact ⟨cells, rfl, c1⟩
theorem fitK_sel {ds : List D} {j : Nat} {d : D} {k : Kd} (hj : ds[j]? = some d) (h : fitK d k = true) : needK ds j k ∧ sel ds j k = d := by
  cases d with
  | int k0 n =>
    cases k <;> simp [fitK] at h
    subst h
    have : sel ds j (.int k0) = .int k0 n := by unfold sel selI; rw [hj]
    exact ⟨hj.trans (congrArg some this.symm), this⟩
  | bool b =>
    cases k <;> simp [fitK] at h
    have : sel ds j .bool = .bool b := by unfold sel selB; rw [hj]
    exact ⟨hj.trans (congrArg some this.symm), this⟩
  | str s =>
    cases k <;> simp [fitK] at h
    have : sel ds j .str = .str s := by unfold sel selS; rw [hj]
    exact ⟨hj.trans (congrArg some this.symm), this⟩
  | list t n l =>
    cases k <;> simp [fitK] at h
    subst h
    have : sel ds j (.list t) = .list t n l := by unfold sel selN selL; rw [hj]
    exact ⟨.inl (by rw [hj]; exact congrArg some this.symm), this⟩
theorem fits_sels {κ : Kr} : ∀ (pre rest : List D) (ks : List Kd) (vs : List Value), fits rest ks = true → rest.length = vs.length → (∀ (j : Nat) (d : D), rest[j]? = some d → ∃ v, vs[j]? = some v ∧ gD P κ.z d v) →
    rest.length = ks.length ∧ all_ (needs (pre ++ rest) pre.length ks) ∧ gL P κ (sels (pre ++ rest) pre.length ks) vs
  | pre, [], [], [], _, _, _ => ⟨rfl, trivial, trivial⟩
  | pre, d :: ds, k :: ks, v :: vs, h, hl, hg => by
    unfold fits at h
    rw [Bool.and_eq_true] at h
    obtain ⟨u, hu, hgu⟩ := hg 0 d rfl
    simp at hu
    subst hu
    obtain ⟨q1, q2⟩ := fitK_sel (ds := pre ++ d :: ds) (j := pre.length) (d := d) (by simp) h.1
    obtain ⟨g1, g2, g3⟩ := fits_sels (pre ++ [d]) ds ks vs h.2 (by simpa using hl) (fun j d' hj => by simpa using hg (j + 1) d' (by simpa using hj))
    rw [List.append_assoc, List.length_append] at g2 g3
    refine ⟨by simp [g1], ⟨q1, g2⟩, ?_, g3⟩
    show gD P κ.z _ _
    rw [q2]; exact hgu
  | pre, [], k :: ks, _, h, _, _ => by simp [fits] at h
  | pre, d :: ds, [], _, h, _, _ => by simp [fits] at h
  | pre, [], [], v :: vs, _, hl, _ => by simp at hl
  | pre, d :: ds, k :: ks, [], _, hl, _ => by simp at hl
theorem nilTo_sound {z : Nat → Option Obj} {d : D} {k : Kd} {v : Value} (h : gD P z d v) : gD P z (nilTo d k) v := by
  unfold nilTo
  split
  · exact gD_nil h
  · exact h
theorem nilsTo_sound {z : Nat → Option Obj} : ∀ {ds : List D} {ks : List Kd} {vs : List Value}, (∀ (j : Nat) (d : D), ds[j]? = some d → ∃ v, vs[j]? = some v ∧ gD P z d v) → (nilsTo ds ks).length = ds.length ∧ ∀ (j : Nat) (d : D), (nilsTo ds ks)[j]? = some d → ∃ v, vs[j]? = some v ∧ gD P z d v
  | [], ks, vs, h => by cases ks <;> exact ⟨rfl, fun j d hj => by simp [nilsTo] at hj⟩
  | d :: ds, [], vs, h => ⟨rfl, h⟩
  | d :: ds, k :: ks, [], h => by obtain ⟨v, hv, _⟩ := h 0 d rfl; simp at hv
  | d :: ds, k :: ks, v :: vs, h => by
    obtain ⟨u, hu, hgu⟩ := h 0 d rfl
    simp at hu
    subst hu
    obtain ⟨g1, g2⟩ := nilsTo_sound (ds := ds) (ks := ks) (vs := vs) (fun j d' hj => by simpa using h (j + 1) d' (by simpa using hj))
    refine ⟨by simp [nilsTo, g1], fun j d' hj => ?_⟩
    cases j with
    | zero => simp [nilsTo] at hj; subst hj; exact ⟨v, rfl, nilTo_sound hgu⟩
    | succ j => simpa using g2 j d' (by simpa [nilsTo] using hj)
/-- What was handed back, as rows of the call's own. -/
theorem res_sound {ys : List D} {W : Nat} : ∀ {ks : List Kd} {j nb : Nat} {vs : List Value} {bs : List (Option (Nat × Nat × Nat))} {κ : Kr} {C : Cs}, Inv P w0 κ C w → resL P W w ys j ks vs bs → (blocks bs).Nodup →
    (∀ id, nb ≤ id → id < nb + lists ks → C id = none ∧ κ.at_ id = none) → (∀ id row b o N, C id = some row → κ.at_ id = some (b, o, N) → b ∉ blocks bs) → (∀ b ∈ blocks bs, κ.z b = none ∧ (w0.heap.size ≤ b ∨ b ∈ blocks w0.bs)) →
    ∃ κ', κ.le κ' ∧ Inv P w0 κ' (upd C (resA ys nb j ks).2) w ∧ gL P κ' (resA ys nb j ks).1 vs ∧ (∀ k, (∀ p ∈ (resA ys nb j ks).2, p.1 ≠ k) → κ'.at_ k = κ.at_ k) ∧ (∀ i x, bs[i]? = some (some x) → κ'.at_ (nb + i) = some x)
  | [], j, nb, vs, bs, κ, C, hi, h, _, _, _, _ => by
    unfold resL at h
    rw [h.1]
    exact ⟨κ, Kr.le.refl κ, hi, trivial, fun _ _ => rfl, fun i x hx => by rw [h.2] at hx; simp at hx⟩
  | .int k :: ks, j, nb, vs, bs, κ, C, hi, h, h2, h3, h4, h5 => by
    cases vs with
    | nil => cases bs <;> unfold resL at h <;> exact h.elim
    | cons v vs =>
      unfold resL at h
      obtain ⟨κ', g1, g2, g3, g4⟩ := res_sound (ks := ks) hi h.2 h2 h3 h4 h5
      exact ⟨κ', g1, g2, ⟨gD.mono (fun b x hx => by cases hx) h.1, g3⟩, g4⟩
  | .bool :: ks, j, nb, vs, bs, κ, C, hi, h, h2, h3, h4, h5 => by
    cases vs with
    | nil => cases bs <;> unfold resL at h <;> exact h.elim
    | cons v vs =>
      unfold resL at h
      obtain ⟨κ', g1, g2, g3, g4⟩ := res_sound (ks := ks) hi h.2 h2 h3 h4 h5
      exact ⟨κ', g1, g2, ⟨gD.mono (fun b x hx => by cases hx) h.1, g3⟩, g4⟩
  | .str :: ks, j, nb, vs, bs, κ, C, hi, h, h2, h3, h4, h5 => by
    cases vs with
    | nil => cases bs <;> unfold resL at h <;> exact h.elim
    | cons v vs =>
      unfold resL at h
      obtain ⟨κ', g1, g2, g3, g4⟩ := res_sound (ks := ks) hi h.2 h2 h3 h4 h5
      exact ⟨κ', g1, g2, ⟨gD.mono (fun b x hx => by cases hx) h.1, g3⟩, g4⟩
  | .list t :: ks, j, nb, vs, bs, κ, C, hi, h, h2, h3, h4, h5 => by
    cases vs with
    | nil => cases bs <;> unfold resL at h <;> exact h.elim
    | cons v vs =>
      cases bs with
      | nil => unfold resL at h; exact h.elim
      | cons ob bs =>
        unfold resL at h
        obtain ⟨ho, hr⟩ := h
        obtain ⟨hC, hA⟩ := h3 nb (Nat.le_refl _) (by simp [lists])
        have key : ∃ κ1, κ.le κ1 ∧ κ1.z = κ.z ∧ Inv P w0 κ1 (upd C [(nb, some (.sym t (selL ys j)))]) w ∧ gA P κ1 (.sl t nb 0 (selN ys j)) v ∧ (∀ k, k ≠ nb → κ1.at_ k = κ.at_ k) ∧ (∀ b o N, κ1.at_ nb = some (b, o, N) → ob.map (·.1) = some b) ∧ (∀ x, ob = some x → κ1.at_ nb = some x) := by
          cases ob with
          | none =>
            obtain ⟨e1, e2, Ad, rfl⟩ := ho
            refine ⟨κ, Kr.le.refl κ, rfl, ⟨hi.os, hi.tape, hi.output, hi.size, hi.base, hi.z, fun k r hk => ?_, fun k k' r r' b o N o' N' h1 h2 h6 h7 => ?_, fun k r b o N h1 h6 => ?_⟩, ⟨Ad, 0, by rw [e2], by omega, .inl ⟨e2, rfl⟩⟩, fun _ _ => rfl, fun b o N hb => (by rw [hA] at hb; cases hb), fun x hx => (by cases hx)⟩
            · rw [upd_one] at hk
              split at hk
              · rename_i e; subst e; injection hk with hk; subst hk; exact .inl ⟨hA, by rw [e1]; rfl⟩
              · exact hi.live k r hk
            · rw [upd_one] at h1 h2
              split at h1
              · rename_i e; subst e; rw [hA] at h6; cases h6
              · split at h2
                · rename_i e; subst e; rw [hA] at h7; cases h7
                · exact hi.apart k k' r r' b o N o' N' h1 h2 h6 h7
            · rw [upd_one] at h1
              split at h1
              · rename_i e; subst e; rw [hA] at h6; cases h6
              · exact hi.own k r b o N h1 h6
          | some x =>
            obtain ⟨b, o, N⟩ := x
            obtain ⟨c, arr, rfl, e1, e2, e3, e4, e5, e6, e7⟩ := ho
            have hmem : b ∈ blocks (some (b, o, N) :: bs) := by simp [blocks]
            have hcs : selN ys j * sz P t ≤ c * sz P t := Nat.mul_le_mul_right _ e1
            obtain ⟨q1, q2⟩ := hi.add hC hA (.sym t (selL ys j)) arr (o := o) (N := N) (h5 b hmem).1 (h5 b hmem).2 e5 e6 (by simp [Row.as, e2]; omega) (fun q a hq => by
              simp only [Row.as, List.getElem?_map] at hq
              obtain ⟨d, hd, rfl⟩ := Option.map_eq_some_iff.mp hq
              obtain ⟨x, k1, k2⟩ := e7 q d hd
              exact ⟨x, k1, gD.mono (fun b x hx => by cases hx) k2⟩) (fun k r o' N' hk ha => h4 k r b o' N' hk ha hmem)
            refine ⟨_, q1, rfl, q2, ⟨_, c, rfl, e1, .inr ⟨b, o, N, by simp [Kr.put], by simp, by simpa using e4⟩⟩, fun k hk => put_other hk, fun b' o' N' hb => ?_, fun x hx => ?_⟩
            · simp [Kr.put] at hb
              simp [hb.1]
            · injection hx with hx; subst hx; simp [Kr.put]
        obtain ⟨κ1, a1, a2, a3, a4, a5, a6, a7⟩ := key
        have hnd : (blocks bs).Nodup ∧ ∀ b, ob.map (·.1) = some b → b ∉ blocks bs := by
          cases ob with
          | none => exact ⟨by simpa [blocks] using h2, fun b hb => by cases hb⟩
          | some x =>
            simp [blocks] at h2
            refine ⟨by simpa [blocks] using h2.2, fun b hb => ?_⟩
            simp at hb
            subst hb
            simpa [blocks] using h2.1
        have hsub : ∀ b ∈ blocks bs, b ∈ blocks (ob :: bs) := fun b hb => by
          unfold blocks at hb ⊢
          cases ob with
          | none => simpa using hb
          | some x => simp only [List.filterMap_cons, Option.map_some]; exact List.mem_cons_of_mem _ hb
        obtain ⟨κ', g1, g2, g3, g4, g5⟩ := res_sound (ks := ks) (nb := nb + 1) a3 hr hnd.1 (fun id h6 h7 => by
            have := h3 id (by omega) (by simp [lists]; omega)
            rw [upd_one, if_neg (by omega), a5 id (by omega)]
            exact this) (fun id row b o N hr' ha hb => by
            rw [upd_one] at hr'
            split at hr'
            · rename_i e
              subst e
              exact hnd.2 b (a6 b o N ha) hb
            · rename_i hne
              rw [a5 id hne] at ha
              exact h4 id row b o N hr' ha (hsub b hb)) (fun b hb => by rw [a2]; exact h5 b (hsub b hb))
        refine ⟨κ', a1.trans g1, g2, ⟨a4.mono g1, g3⟩, fun k hk => ?_, fun i x hx => ?_⟩
        rotate_left
        · cases i with
          | zero => simp at hx; exact g1.at_ _ _ (a7 x hx)
          | succ i => rw [show nb + (i + 1) = nb + 1 + i by omega]; exact g5 i x (by simpa using hx)
        rw [g4 k (fun p hp => hk p (by simp only [resA]; exact List.mem_cons_of_mem _ hp)), a5 k (fun e => hk (nb, some (.sym t (selL ys j))) (by simp [resA]) e.symm)]
theorem splitV_sound {κ : Kr} : ∀ {ts : List Nat} {as : List A} {xs : List V1} {cells vs : List Value}, splitV P ts as = some xs → splitVal P ts cells vs → gL P κ as cells → gV1s P κ xs vs
  | [], [], xs, cells, vs, h, h2, h3 => by
    injection h with h; subst h
    obtain ⟨_, rfl⟩ := h2
    trivial
  | t :: ts, as, xs, cells, [], h, h2, h3 => by unfold splitVal at h2; exact h2.elim
  | t :: ts, as, xs, cells, v :: vs, h, h2, h3 => by
    unfold splitV at h
    unfold splitVal at h2
    split at h <;> try (cases h; done)
    rename_i ks hks
    rw [hks] at h2
    simp only at h2
    split at h
    · rename_i hst
      rw [if_pos hst] at h2
      obtain ⟨arr, rfl, h4, h5, h6⟩ := h2
      split at h <;> try (cases h; done)
      split at h <;> try (cases h; done)
      rename_i l hl
      injection h with h; subst h
      exact ⟨⟨arr, rfl, by rw [h5]; exact h3.take _⟩, splitV_sound hl h6 (h3.drop _)⟩
    · rename_i hst
      rw [if_neg hst] at h2
      obtain ⟨rest, rfl, h6⟩ := h2
      split at h <;> try (cases h; done)
      rename_i a as'
      split at h <;> try (cases h; done)
      rename_i l hl
      injection h with h; subst h
      exact ⟨h3.1, splitV_sound hl h6 h3.2⟩
theorem wrapR_sound {κ : Kr} {xs : List V1} {vs : List Value} (h : gV1s P κ xs vs) : gAV P κ (wrapR xs) (wrapVal vs) := by
  match xs, vs, h with
  | [], [], _ => exact ⟨#[], rfl, trivial⟩
  | [x], [v], ⟨h, _⟩ => exact h
  | x :: y :: l, v :: u :: vs, h => exact ⟨(v :: u :: vs).toArray, rfl, by simpa using h⟩
end
end Go.Proofs.Ytplcdadedpbkpaa.Mini
end
section
/- Exact values: one operation, in whatever order. -/
namespace Go.Proofs.Ytplcdadedpbkpaa.Mini
open Go Go.RowKit
set_option linter.unusedVariables false

section
variable {P : Program} {w0 : Bs} {κ : Kr} {C : Cs} {w : World} {F : Tb} {a : Act} {J : Nat → List D → Prop} {Q : List D → Prop}
theorem resA_ids (ys : List D) : ∀ (ks : List Kd) (nb j : Nat), ∀ p ∈ (resA ys nb j ks).2, nb ≤ p.1 ∧ p.1 < nb + lists ks
  | [], nb, j, p, h => by simp [resA] at h
  | .int _ :: ks, nb, j, p, h => resA_ids ys ks nb (j + 1) p h
  | .bool :: ks, nb, j, p, h => resA_ids ys ks nb (j + 1) p h
  | .str :: ks, nb, j, p, h => resA_ids ys ks nb (j + 1) p h
  | .list t :: ks, nb, j, p, h => by
    simp only [resA, List.mem_cons] at h
    rcases h with rfl | h
    · simp [lists]
    · have := resA_ids ys ks (nb + 1) (j + 1) p h
      simp [lists]; omega
theorem frz_ids {g : Cs} {a : A} {n : List Prop} {d : D} {ks : List Nat} (h : frz P g a = some (n, d, ks)) : ∀ k ∈ ks, ∃ row, g k = some row := by
  unfold frz at h
  split at h <;> try (cases h; done)
  · injection h with h; injection h with h1 h2; injection h2 with h2 h3
    subst h3; intro k hk; simp at hk
  · injection h with h; injection h with h1 h2; injection h2 with h2 h3
    subst h3; intro k hk; simp at hk
  · split at h <;> try (cases h; done)
    rename_i row hrow
    split at h <;> try (cases h; done)
    injection h with h; injection h with h1 h2; injection h2 with h2 h3
    subst h3
    intro k hk
    simp at hk
    subst hk
    exact ⟨row, hrow⟩
theorem frzL_ids {g : Cs} : ∀ {l : List A} {n : List Prop} {ds : List D} {ks : List Nat}, frzL P g l = some (n, ds, ks) → ∀ k ∈ ks, ∃ row, g k = some row
  | [], n, ds, ks, h => by
    injection h with h; injection h with h1 h2; injection h2 with h2 h3
    subst h3; intro k hk; simp at hk
  | a :: l, n, ds, ks, h => by
    unfold frzL at h
    split at h <;> try (cases h; done)
    rename_i n1 d k1 n2 ds2 k2 h1 h2
    split at h <;> try (cases h; done)
    injection h with h; injection h with e1 e2; injection e2 with e2 e3
    subst e3
    intro k hk
    rcases List.mem_append.mp hk with hk | hk
    · exact frz_ids h1 k hk
    · exact frzL_ids h2 k hk
theorem kill_mem {ks : List Nat} {p : Nat × Option Row} (h : p ∈ kill ks) : p.1 ∈ ks := by
  unfold kill at h
  obtain ⟨k, hk, rfl⟩ := List.mem_map.mp h
  exact hk
theorem srcOf_ids {g : Cs} {el : Nat} {a : A} {n : List Prop} {m : Nat} {ds : List D} {ks : List Nat} (h : srcOf P g el a = some (n, m, ds, ks)) : ∀ k ∈ ks, ∃ row, g k = some row := by
  unfold srcOf at h
  split at h <;> try (cases h; done)
  · injection h with h; injection h with e1 h; injection h with e2 h; injection h with e3 e4
    subst e4; intro k hk; simp at hk
  · split at h <;> try (cases h; done)
    injection h with h; injection h with e1 h; injection h with e2 h; injection h with e3 e4
    subst e4; intro k hk; simp at hk
  · split at h <;> try (cases h; done)
    split at h <;> try (cases h; done)
    · injection h with h; injection h with e1 h; injection h with e2 h; injection h with e3 e4
      subst e4; intro k hk; simp at hk
    · split at h <;> try (cases h; done)
      rename_i hfz
      injection h with h; injection h with e1 h; injection h with e2 h; injection h with e3 e4
      subst e4
      exact frzL_ids hfz
theorem noUs {ns ns' : List Prop} {av av' : AV} {us : Us} (h : (some (ns', av', []) : R) = some (ns, av, us)) : us = [] := by
  injection h with h; injection h with e1 e2; injection e2 with e2 e3
  exact e3.symm
theorem loadD_us {et : Ti} {t j : Nat} {ds : List D} {ns : List Prop} {av : AV} {us : Us} (h : loadD P et t ds j = some (ns, av, us)) : us = [] := by
  unfold loadD at h
  split at h <;> try (cases h; done)
  split at h <;> try (cases h; done)
  split at h
  · exact noUs h
  · split at h <;> try (cases h; done)
    split at h <;> try (cases h; done)
    exact noUs h
/-- It changes rows that are there. -/
def isWr : Op → Bool
  | .store _ _ _ => true
  | .call ⟨.builtin .append, _, _⟩ => true
  | _ => false
/-- Which rows change. -/
theorem mOp_ids {op : Op} {e : Operand → AV} {g : Cs} {nb : Nat} {ns : List Prop} {av : AV} {us : Us} (h : mOp P op e g nb = some (ns, av, us)) : ∀ p ∈ us, (∃ row, g p.1 = some row) ∧ isWr op = true ∨ (p.1 = nb ∧ isNew op = true) := by
  have nil : us = [] → ∀ p ∈ us, (∃ row, g p.1 = some row) ∧ isWr op = true ∨ (p.1 = nb ∧ isNew op = true) := fun e p hp => by rw [e] at hp; simp at hp
  unfold mOp at h
  split at h
  all_goals try (cases h; done)
  · exact nil (noUs h)
  · exact nil (noUs h)
  · unfold mPick at h
    split at h <;> first | exact nil (noUs h) | cases h
  · unfold mAlloc at h
    split at h <;> try (cases h; done)
    injection h with h; injection h with e1 e2; injection e2 with e2 e3
    subst e3
    intro p hp
    simp at hp
    exact .inr ⟨by rw [hp], rfl⟩
  · unfold mBuild at h
    repeat' (split at h <;> try (cases h; done))
    exact nil (noUs h)
  · unfold mBuildSlice at h
    repeat' (split at h <;> try (cases h; done))
    injection h with h; injection h with e1 e2; injection e2 with e2 e3
    subst e3
    intro p hp
    simp at hp
    exact .inr ⟨by rw [hp], rfl⟩
  · unfold mLoad at h
    split at h <;> try (cases h; done)
    · repeat' (split at h <;> try (cases h; done))
      all_goals exact nil (noUs h)
    · repeat' (split at h <;> try (cases h; done))
      exact nil (loadD_us h)
    · exact nil (loadD_us h)
  · unfold mStore at h
    split at h <;> try (cases h; done)
    · split at h <;> try (cases h; done)
      rename_i hrow _
      split at h <;> try (cases h; done)
      injection h with h; injection h with e1 e2; injection e2 with e2 e3
      subst e3
      intro p hp
      simp at hp
      rcases hp with rfl | rfl <;> exact .inl ⟨⟨_, hrow⟩, rfl⟩
    · split at h <;> try (cases h; done)
      rename_i hrow _
      split at h <;> try (cases h; done)
      rename_i hfz
      split at h <;> try (cases h; done)
      injection h with h; injection h with e1 e2; injection e2 with e2 e3
      subst e3
      intro p hp
      rcases List.mem_append.mp hp with hp | hp
      · exact .inl ⟨frzL_ids hfz _ (kill_mem hp), rfl⟩
      · simp at hp
        rcases hp with rfl | rfl <;> exact .inl ⟨⟨_, hrow⟩, rfl⟩
  · split at h
    · rename_i r hr
      injection h with h; subst h
      unfold mEq at hr
      repeat' (split at hr <;> try (cases hr; done))
      all_goals exact nil (noUs hr)
    · unfold mBin at h
      repeat' (split at h <;> try (cases h; done))
      all_goals exact nil (noUs h)
  · unfold mUn at h
    repeat' (split at h <;> try (cases h; done))
    all_goals exact nil (noUs h)
  · unfold mConvI at h
    repeat' (split at h <;> try (cases h; done))
    all_goals exact nil (noUs h)
  · unfold mMake at h
    repeat' (split at h <;> try (cases h; done))
    injection h with h; injection h with e1 e2; injection e2 with e2 e3
    subst e3
    intro p hp
    simp at hp
    exact .inr ⟨by rw [hp], rfl⟩
  · unfold mSlice at h
    repeat' (split at h <;> try (cases h; done))
    all_goals exact nil (noUs h)
  · unfold mFieldAddr at h
    repeat' (split at h <;> try (cases h; done))
    all_goals exact nil (noUs h)
  · unfold mField at h
    repeat' (split at h <;> try (cases h; done))
    all_goals exact nil (noUs h)
  · unfold mIndexAddr at h
    repeat' (split at h <;> try (cases h; done))
    all_goals exact nil (noUs h)
  · unfold mIndex at h
    repeat' (split at h <;> try (cases h; done))
    all_goals exact nil (noUs h)
  · unfold mExtract at h
    repeat' (split at h <;> try (cases h; done))
    all_goals exact nil (noUs h)
  · unfold mLen at h
    repeat' (split at h <;> try (cases h; done))
    all_goals exact nil (noUs h)
  · unfold mAppend at h
    split at h <;> try (cases h; done)
    split at h <;> try (cases h; done)
    split at h <;> try (cases h; done)
    split at h <;> try (cases h; done)
    rename_i hsrc
    split at h <;> try (cases h; done)
    split at h <;> try (cases h; done)
    · injection h with h; injection h with e1 e2; injection e2 with e2 e3
      subst e3
      intro p hp
      rcases List.mem_append.mp hp with hp | hp
      · exact .inl ⟨srcOf_ids hsrc _ (kill_mem hp), rfl⟩
      · simp at hp
        exact .inr ⟨by rw [hp], rfl⟩
    · split at h <;> try (cases h; done)
      rename_i hrow
      split at h <;> try (cases h; done)
      split at h <;> try (cases h; done)
      injection h with h; injection h with e1 e2; injection e2 with e2 e3
      subst e3
      intro p hp
      rcases List.mem_append.mp hp with hp | hp
      · exact .inl ⟨srcOf_ids hsrc _ (kill_mem hp), rfl⟩
      · simp at hp
        rcases hp with rfl | rfl
        · exact .inl ⟨⟨_, hrow⟩, rfl⟩
        · exact .inr ⟨rfl, rfl⟩
  · unfold mMM at h
    repeat' (split at h <;> try (cases h; done))
    all_goals exact nil (noUs h)
  · unfold mMM at h
    repeat' (split at h <;> try (cases h; done))
    all_goals exact nil (noUs h)
  · unfold mBox at h
    split at h <;> try (cases h; done)
    split at h <;> try (cases h; done)
    injection h with h; injection h with e1 e2; injection e2 with e2 e3
    subst e3
    intro p hp
    simp at hp
    exact .inr ⟨by rw [hp], rfl⟩
/-- Writes: also a call whose arguments are not to be written any more, or are written. -/
def mdWr : Md → Bool
  | .own => false
  | .op => false
  | _ => true
def isWrF (F : Tb) (o : Oper) : Bool := isWr o.op || (match isCallF o.op with | some (f, _) => (match F f with | some s => mdWr s.md | none => false) | none => false)
theorem wrA_ids {g : Cs} : ∀ {ks : List Kd} {as : List A} {ns : List Prop} {ds : List D} {ids : List Nat}, wrA P g ks as = some (ns, ds, ids) → (∀ k ∈ ids, ∃ row, g k = some row) ∧ ids.Nodup ∧ ∀ (yz : List D) (i : Nat), (wrU yz i ks ids).map (·.1) = ids
  | [], [], ns, ds, ids, h => by
    unfold wrA at h
    injection h with h; injection h with e1 e2; injection e2 with e2 e3
    subst e3
    exact ⟨fun k hk => by simp at hk, List.nodup_nil, fun _ _ => rfl⟩
  | .list t :: ks, .sl u id off len :: as, ns, ds, ids, h => by
    unfold wrA at h
    split at h <;> try (cases h; done)
    rename_i row ns' ds' ids' hrow hrec
    split at h <;> try (cases h; done)
    split at h <;> try (cases h; done)
    rename_i hc
    injection h with h; injection h with e1 e2; injection e2 with e2 e3
    subst e3
    obtain ⟨h1, h2, h3⟩ := wrA_ids hrec
    have hn : id ∉ ids' := by have := hc.2.2; simpa using this
    exact ⟨fun k hk => by
      rcases List.mem_cons.mp hk with rfl | hk
      · exact ⟨_, hrow⟩
      · exact h1 k hk, List.nodup_cons.mpr ⟨hn, h2⟩, fun yz i => by show id :: (wrU yz (i + 1) ks ids').map (·.1) = _; rw [h3]⟩
  | .list t :: ks, .d d :: as, ns, ds, ids, h => by
    unfold wrA at h
    split at h <;> try (cases h; done)
    split at h <;> try (cases h; done)
    rename_i hfit
    cases d <;> simp [fitK, D.scalar] at hfit
  | .int k :: ks, .d d :: as, ns, ds, ids, h => by
    unfold wrA at h
    split at h <;> try (cases h; done)
    rename_i ns' ds' ids' hrec
    split at h <;> try (cases h; done)
    injection h with h; injection h with e1 e2; injection e2 with e2 e3
    subst e3
    obtain ⟨h1, h2, h3⟩ := wrA_ids hrec
    exact ⟨h1, h2, fun yz i => h3 yz i⟩
  | .bool :: ks, .d d :: as, ns, ds, ids, h => by
    unfold wrA at h
    split at h <;> try (cases h; done)
    rename_i ns' ds' ids' hrec
    split at h <;> try (cases h; done)
    injection h with h; injection h with e1 e2; injection e2 with e2 e3
    subst e3
    obtain ⟨h1, h2, h3⟩ := wrA_ids hrec
    exact ⟨h1, h2, fun yz i => h3 yz i⟩
  | .str :: ks, .d d :: as, ns, ds, ids, h => by
    unfold wrA at h
    split at h <;> try (cases h; done)
    rename_i ns' ds' ids' hrec
    split at h <;> try (cases h; done)
    injection h with h; injection h with e1 e2; injection e2 with e2 e3
    subst e3
    obtain ⟨h1, h2, h3⟩ := wrA_ids hrec
    exact ⟨h1, h2, fun yz i => h3 yz i⟩
theorem resU_ids {s : Sig} {g : Cs} {pk : List Kd} {as : List A} {ns : List Prop} {ds : List D} {kl : List Nat} (h : callV P s g pk as = some (ns, ds, kl)) (ys : List D) (nb : Nat) (rk : List Kd) : ∀ p ∈ (resU s ys nb kl pk rk).2, ((∃ row, g p.1 = some row) ∧ mdWr s.md = true) ∨ (nb ≤ p.1 ∧ p.1 < nb + nRes s rk) := by
  intro p hp
  unfold resU at hp
  unfold callV at h
  cases hf : s.md with
  | fz =>
    rw [hf] at hp h
    exact .inl ⟨frzL_ids h _ (kill_mem hp), rfl⟩
  | own =>
    rw [hf] at hp
    refine .inr ?_
    unfold nRes
    rw [hf]
    exact resA_ids _ _ _ _ p hp
  | wr =>
    rw [hf] at hp h
    obtain ⟨h1, _, h3⟩ := wrA_ids h
    refine .inl ⟨h1 _ ?_, rfl⟩
    rw [← h3 ys rk.length]
    exact List.mem_map_of_mem hp
  | rd z => rw [hf] at h; cases h
  | op => rw [hf] at h; cases h
def ltypes : List Kd → List Nat
  | [] => []
  | .list t :: ks => t :: ltypes ks
  | _ :: ks => ltypes ks
/-- What arguments are that may be written. -/
theorem wrA_sound {g : Cs} (hi : Inv P w0 κ C w) (hg : ∀ id row, g id = some row → C id = some row) : ∀ {ks : List Kd} {as : List A} {ns : List Prop} {ds : List D} {ids : List Nat} {vs : List Value} (pre : List D), wrA P g ks as = some (ns, ds, ids) → all_ ns → gL P κ as vs →
    ∃ bs, resL P 0 w (pre ++ ds) pre.length ks vs bs ∧ (∀ b ∈ blocks bs, ∃ id ∈ ids, ∃ row o N, C id = some row ∧ κ.at_ id = some (b, o, N)) ∧ (blocks bs).Nodup ∧ bs.length = ids.length ∧
      ∀ (i id : Nat), ids[i]? = some id → (bs[i]? = some none ∧ ∃ row, C id = some row ∧ row.as = [] ∧ (ltypes ks)[i]? = some row.t) ∨ ∃ x, bs[i]? = some (some x) ∧ κ.at_ id = some x
  | [], [], ns, ds, ids, vs, pre, h, hn, hv => by
    unfold wrA at h
    injection h with h; injection h with e1 e2; injection e2 with e2 e3
    subst e2; subst e3
    have : vs = [] := List.eq_nil_of_length_eq_zero hv.len.symm
    subst this
    exact ⟨[], by unfold resL; exact ⟨rfl, rfl⟩, fun b hb => by simp [blocks] at hb, by simp [blocks], rfl, fun i id hi => by simp at hi⟩
  | .list t :: ks, .sl u id off len :: as, ns, ds, ids, v :: vs, pre, h, hn, ⟨hv1, hv2⟩ => by
    have hids := wrA_ids h
    unfold wrA at h
    split at h <;> try (cases h; done)
    rename_i row ns' ds' ids' hrow hrec
    split at h <;> try (cases h; done)
    rename_i l hl
    split at h <;> try (cases h; done)
    rename_i hc
    obtain ⟨rfl, hrt, hnc⟩ := hc
    injection h with h; injection h with e1 e2; injection e2 with e2 e3
    subst e1; subst e2; subst e3
    obtain ⟨⟨rfl, hlen, hsc⟩, hn2⟩ := hn
    obtain ⟨bs, b1, b2, b3, b4, b5⟩ := wrA_sound hi hg (pre ++ [.list u len l]) hrec hn2 hv2
    rw [List.append_assoc, List.length_append] at b1
    have hyj : (pre ++ .list u len l :: ds')[pre.length]? = some (.list u len l) := by simp
    have s1 : selN (pre ++ .list u len l :: ds') pre.length = len := by unfold selN; rw [hyj]
    have s2 : selL (pre ++ .list u len l :: ds') pre.length = l := by unfold selL; rw [hyj]
    have hCr := hg _ _ hrow
    have hnin : id ∉ ids' := (List.nodup_cons.mp hids.2.1).1
    obtain ⟨Ad, c, rfl, hcl, hv1⟩ := hv1
    have shift : ∀ (ob : Option (Nat × Nat × Nat)), ((ob = none ∧ ∃ row, C id = some row ∧ row.as = [] ∧ u = row.t) ∨ ∃ x, ob = some x ∧ κ.at_ id = some x) → ∀ (i k : Nat), (id :: ids')[i]? = some k → ((ob :: bs)[i]? = some none ∧ ∃ row, C k = some row ∧ row.as = [] ∧ (ltypes (.list u :: ks))[i]? = some row.t) ∨ ∃ x, (ob :: bs)[i]? = some (some x) ∧ κ.at_ k = some x := by
      intro ob hob i k hk
      cases i with
      | zero =>
        simp at hk
        subst hk
        rcases hob with ⟨rfl, r, h2, h3, h4⟩ | ⟨x, rfl, h2⟩
        · exact .inl ⟨rfl, r, h2, h3, by simp [ltypes, h4]⟩
        · exact .inr ⟨x, rfl, h2⟩
      | succ i => simpa [ltypes] using b5 i k (by simpa using hk)
    rcases hv1 with ⟨rfl, rfl⟩ | ⟨b, o, N, hat, rfl, hfit⟩
    · have hl0 : l = [] := List.eq_nil_of_length_eq_zero (by simpa using hlen)
      refine ⟨none :: bs, by unfold resL; rw [s1, s2]; exact ⟨⟨hl0, rfl, Ad, rfl⟩, b1⟩, fun b hb => ?_, by simpa [blocks] using b3, by simp [b4], shift none (.inl ⟨rfl, row, hCr, ?_, hrt.symm⟩)⟩
      · obtain ⟨k, q1, q2⟩ := b2 b (by simpa [blocks] using hb)
        exact ⟨k, List.mem_cons_of_mem _ q1, q2⟩
      · have := (rowD_at hl).1
        rw [hl0] at this
        exact List.eq_nil_of_length_eq_zero (by simpa using this)
    · rcases (hi.live id _ hCr).ds hl with ⟨g1, _⟩ | ⟨b2', o2, N2, arr, g1, g2, g3, g4, g5, g6⟩
      · rw [g1] at hat; cases hat
      rw [g1] at hat
      injection hat with hat; injection hat with e1 e2; injection e2 with e2 e3
      subst e1; subst e2; subst e3
      rw [hrt] at g3
      refine ⟨some (b2', o2, N2) :: bs, ?_, fun b hb => ?_, ?_, by simp [b4], shift (some (b2', o2, N2)) (.inr ⟨_, rfl, g1⟩)⟩
      · unfold resL
        rw [s1, s2]
        exact ⟨⟨c, arr, by simp, hcl, hlen, Nat.zero_le _, by simpa using hfit, g3, g4, fun j d hj => by
          obtain ⟨x, k1, k2⟩ := g6 j d hj
          refine ⟨x, k1, ?_⟩
          have hs := hsc d (List.mem_of_getElem? hj)
          cases d with
          | list => cases hs
          | _ => unfold gD at k2 ⊢; exact k2⟩, b1⟩
      · simp only [blocks, List.filterMap_cons, Option.map_some, List.mem_cons] at hb
        rcases hb with rfl | hb
        · exact ⟨id, by simp, row, _, _, hCr, g1⟩
        · obtain ⟨k, q1, q2⟩ := b2 b hb
          exact ⟨k, List.mem_cons_of_mem _ q1, q2⟩
      · simp only [blocks, List.filterMap_cons, Option.map_some, List.nodup_cons]
        refine ⟨fun hm => ?_, b3⟩
        obtain ⟨k, q1, row', o', N', q2, q3⟩ := b2 _ hm
        have := hi.apart id k row row' b2' o2 N2 o' N' hCr q2 g1 q3
        subst this
        exact hnin q1
  | .list t :: ks, .d d :: as, ns, ds, ids, v :: vs, pre, h, hn, ⟨hv1, hv2⟩ => by
    unfold wrA at h
    split at h <;> try (cases h; done)
    split at h <;> try (cases h; done)
    rename_i hfit
    cases d <;> simp [fitK, D.scalar] at hfit
  | .int k :: ks, .d d :: as, ns, ds, ids, v :: vs, pre, h, hn, ⟨hv1, hv2⟩ => by
    unfold wrA at h
    split at h <;> try (cases h; done)
    rename_i ns' ds' ids' hrec
    split at h <;> try (cases h; done)
    rename_i hfit
    injection h with h; injection h with e1 e2; injection e2 with e2 e3
    subst e1; subst e2; subst e3
    obtain ⟨bs, b1, b2⟩ := wrA_sound hi hg (pre ++ [d]) hrec hn hv2
    rw [List.append_assoc, List.length_append] at b1
    refine ⟨bs, ?_, b2⟩
    unfold resL
    refine ⟨?_, b1⟩
    rw [(fitK_sel (ds := pre ++ d :: ds') (j := pre.length) (by simp) hfit.1).2]
    have hv1' : gD P κ.z d v := hv1
    cases d with
    | list => exact absurd hfit.2 (by simp [D.scalar])
    | _ => unfold gD at hv1' ⊢; exact hv1'
  | .bool :: ks, .d d :: as, ns, ds, ids, v :: vs, pre, h, hn, ⟨hv1, hv2⟩ => by
    unfold wrA at h
    split at h <;> try (cases h; done)
    rename_i ns' ds' ids' hrec
    split at h <;> try (cases h; done)
    rename_i hfit
    injection h with h; injection h with e1 e2; injection e2 with e2 e3
    subst e1; subst e2; subst e3
    obtain ⟨bs, b1, b2⟩ := wrA_sound hi hg (pre ++ [d]) hrec hn hv2
    rw [List.append_assoc, List.length_append] at b1
    refine ⟨bs, ?_, b2⟩
    unfold resL
    refine ⟨?_, b1⟩
    rw [(fitK_sel (ds := pre ++ d :: ds') (j := pre.length) (by simp) hfit.1).2]
    have hv1' : gD P κ.z d v := hv1
    cases d with
    | list => exact absurd hfit.2 (by simp [D.scalar])
    | _ => unfold gD at hv1' ⊢; exact hv1'
  | .str :: ks, .d d :: as, ns, ds, ids, v :: vs, pre, h, hn, ⟨hv1, hv2⟩ => by
    unfold wrA at h
    split at h <;> try (cases h; done)
    rename_i ns' ds' ids' hrec
    split at h <;> try (cases h; done)
    rename_i hfit
    injection h with h; injection h with e1 e2; injection e2 with e2 e3
    subst e1; subst e2; subst e3
    obtain ⟨bs, b1, b2⟩ := wrA_sound hi hg (pre ++ [d]) hrec hn hv2
    rw [List.append_assoc, List.length_append] at b1
    refine ⟨bs, ?_, b2⟩
    unfold resL
    refine ⟨?_, b1⟩
    rw [(fitK_sel (ds := pre ++ d :: ds') (j := pre.length) (by simp) hfit.1).2]
    have hv1' : gD P κ.z d v := hv1
    cases d with
    | list => exact absurd hfit.2 (by simp [D.scalar])
    | _ => unfold gD at hv1' ⊢; exact hv1'
theorem upd_cases {C : Cs} {k : Nat} {row : Row} : ∀ {us : Us}, upd C us k = some row → (∃ p ∈ us, p.1 = k ∧ p.2 = some row) ∨ ((∀ p ∈ us, p.1 ≠ k) ∧ C k = some row) := by
  intro us
  induction us generalizing C with
  | nil => exact fun h => .inr ⟨fun p hp => by simp at hp, h⟩
  | cons q us ih =>
    intro h
    rcases ih (C := fun id => if id = q.1 then q.2 else C id) h with ⟨p, h1, h2⟩ | ⟨h1, h2⟩
    · exact .inl ⟨p, List.mem_cons_of_mem _ h1, h2⟩
    · by_cases e : k = q.1
      · rw [if_pos e] at h2
        exact .inl ⟨q, by simp, e.symm, h2⟩
      · rw [if_neg e] at h2
        refine .inr ⟨fun p hp => ?_, h2⟩
        rcases List.mem_cons.mp hp with rfl | hp
        · exact fun e' => e e'.symm
        · exact h1 p hp
/-- Some rows were written. -/
theorem Inv.wrote (h : Inv P w0 κ C w) {w' : World} {B : List Nat} (hw : Wrote w w' B) {ids : List Nat} {C' : Cs} (hB : ∀ b ∈ B, ∃ id ∈ ids, ∃ row o N, C id = some row ∧ κ.at_ id = some (b, o, N))
    (hC : ∀ id row, C' id = some row → (id ∉ ids ∧ C id = some row) ∨ (id ∈ ids ∧ (∃ r, C id = some r) ∧ RowIn P κ w' id row)) : Inv P w0 κ C' w' := by
  have hold : ∀ id row, C' id = some row → ∃ r, C id = some r := fun id row hr => by
    rcases hC id row hr with ⟨_, h1⟩ | ⟨_, h1, _⟩
    · exact ⟨row, h1⟩
    · exact h1
  refine ⟨hw.os.trans h.os, hw.tape.trans h.tape, hw.output.trans h.output, Nat.le_trans h.size hw.size, fun b hlt hW => ⟨(hw.block b (Nat.lt_of_lt_of_le hlt h.size) (fun hb => ?_)).trans (h.base b hlt hW).1, (h.base b hlt hW).2⟩, fun b x hx => (hw.block b (h.zlt hx) (fun hb => ?_)).trans (h.z b x hx), fun id row hr => ?_, fun id id' row row' b o N o' N' h1 h2 h3 h4 => ?_, fun id row b o N h1 h3 => ?_⟩
  · obtain ⟨id, _, row, o, N, g1, g2⟩ := hB b hb
    rcases h.own id row b o N g1 g2 with h9 | h9
    · omega
    · exact hW h9
  · obtain ⟨id, _, row, o, N, g1, g2⟩ := hB b hb
    rcases h.live id row g1 with ⟨h1, _⟩ | ⟨b', o', N', arr, h1, h2, _⟩
    · rw [h1] at g2; cases g2
    · rw [h1] at g2
      injection g2 with g2; injection g2 with g2 _
      subst g2
      rw [h2] at hx; cases hx
  · rcases hC id row hr with ⟨hn, h1⟩ | ⟨_, _, h1⟩
    · rcases h.live id row h1 with g | ⟨b, o, N, arr, g1, g2, g3, g4⟩
      · exact .inl g
      · refine .inr ⟨b, o, N, arr, g1, g2, (hw.block b (block_of g3) (fun hb => ?_)).trans g3, g4⟩
        obtain ⟨id', hid', row', o', N', k1, k2⟩ := hB b hb
        have := h.apart id id' row row' b o N o' N' h1 k1 g1 k2
        subst this
        exact hn hid'
    · exact h1
  · obtain ⟨r, q1⟩ := hold id row h1
    obtain ⟨r', q2⟩ := hold id' row' h2
    exact h.apart id id' r r' b o N o' N' q1 q2 h3 h4
  · obtain ⟨r, q1⟩ := hold id row h1
    exact h.own id r b o N q1 h3
/-- The rows that were written, as they are then. -/
theorem wrU_rows (h : Inv P w0 κ C w) {w' : World} {B : List Nat} (hw : Wrote w w' B) {yz zs : List D} {m : Nat} (hyz : ∀ i, selL yz (m + i) = selL zs i) {ids0 : List Nat} {bs0 : List (Option (Nat × Nat × Nat))} (hB : ∀ b ∈ B, b ∈ blocks bs0) (hnd : ids0.Nodup) (hlen : bs0.length = ids0.length)
    (hids0 : ∀ id ∈ ids0, ∃ row, C id = some row) {kt : List Nat} (hrel : ∀ (i id : Nat), ids0[i]? = some id → (bs0[i]? = some none ∧ ∃ row, C id = some row ∧ row.as = [] ∧ kt[i]? = some row.t) ∨ ∃ x, bs0[i]? = some (some x) ∧ κ.at_ id = some x) :
    ∀ {ks : List Kd} {vs : List Value} {bs : List (Option (Nat × Nat × Nat))} {ids : List Nat} {i : Nat}, wroteL P w' zs i ks vs bs → bs = bs0.drop i → ids = ids0.drop i → ltypes ks = kt.drop i → ∀ p ∈ wrU yz (m + i) ks ids, ∃ row, p.2 = some row ∧ p.1 ∈ ids0 ∧ RowIn P κ w' p.1 row
  | [], vs, bs, ids, i, hwl, hbs, hids, hkt, p, hp => by simp [wrU] at hp
  | .int k :: ks, v :: vs, bs, ids, i, hwl, hbs, hids, hkt, p, hp => by
    unfold wroteL at hwl
    exact wrU_rows h hw hyz hB hnd hlen hids0 hrel hwl hbs hids hkt p hp
  | .bool :: ks, v :: vs, bs, ids, i, hwl, hbs, hids, hkt, p, hp => by
    unfold wroteL at hwl
    exact wrU_rows h hw hyz hB hnd hlen hids0 hrel hwl hbs hids hkt p hp
  | .str :: ks, v :: vs, bs, ids, i, hwl, hbs, hids, hkt, p, hp => by
    unfold wroteL at hwl
    exact wrU_rows h hw hyz hB hnd hlen hids0 hrel hwl hbs hids hkt p hp
  | .list t :: ks, v :: vs, [], ids, i, hwl, hbs, hids, hkt, p, hp => by unfold wroteL at hwl; exact hwl.elim
  | .list t :: ks, v :: vs, ob :: bs, [], i, hwl, hbs, hids, hkt, p, hp => by
    exfalso
    have h1 : bs0[i]? = some ob := by rw [← List.head?_drop, ← hbs]; rfl
    have h2 : ids0.length ≤ i := by
      have := congrArg List.length hids
      simp at this; omega
    have h3 := (List.getElem?_eq_some_iff.mp h1).1
    omega
  | .list t :: ks, v :: vs, ob :: bs, id :: ids, i, hwl, hbs, hids, hkt, p, hp => by
    unfold wroteL at hwl
    obtain ⟨ho, hwl⟩ := hwl
    have hb1 : bs0[i]? = some ob := by rw [← List.head?_drop, ← hbs]; rfl
    have hi1 : ids0[i]? = some id := by rw [← List.head?_drop, ← hids]; rfl
    have hb2 : bs = bs0.drop (i + 1) := by rw [← List.drop_drop, ← hbs]; rfl
    have hi2 : ids = ids0.drop (i + 1) := by rw [← List.drop_drop, ← hids]; rfl
    simp only [wrU, List.mem_cons] at hp
    rcases hp with rfl | hp
    · refine ⟨_, rfl, List.mem_of_getElem? hi1, ?_⟩
      rw [hyz]
      obtain ⟨row0, hrow0⟩ := hids0 id (List.mem_of_getElem? hi1)
      rcases hrel i id hi1 with ⟨q1, r, q2, q3, q4⟩ | ⟨⟨b, o, N⟩, q1, q2⟩
      · rw [hb1] at q1
        injection q1 with q1
        subst q1
        obtain ⟨e1, e2, Ad, e3⟩ := ho
        rcases h.live id r q2 with ⟨g1, _⟩ | ⟨b, o, N, arr, g1, g2, g3, g4, g5, g6⟩
        · exact .inl ⟨g1, by simp [Row.as, e1]⟩
        · have hk1 : kt[i]? = some t := by rw [← List.head?_drop, ← hkt]; rfl
          rw [hk1] at q4
          injection q4 with q4
          rw [← q4] at g3
          refine .inr ⟨b, o, N, arr, g1, g2, ?_, g4, by simp [Row.as, e1]; rw [q3] at g5; simpa using g5, fun j a hj => by simp [Row.as, e1] at hj⟩
          refine (hw.block b (block_of g3) (fun hb => ?_)).trans g3
          have hb' := hB b hb
          unfold blocks at hb'
          obtain ⟨ox, m1, m2⟩ := List.mem_filterMap.mp hb'
          obtain ⟨i', m3⟩ := List.getElem?_of_mem m1
          obtain ⟨x, rfl, m4⟩ := Option.map_eq_some_iff.mp m2
          have hlt' : i' < ids0.length := by rw [← hlen]; exact (List.getElem?_eq_some_iff.mp m3).1
          rcases hrel i' ids0[i'] (List.getElem?_eq_getElem hlt') with ⟨n1, _⟩ | ⟨y, n1, n2⟩
          · rw [m3] at n1; cases n1
          · rw [m3] at n1
            injection n1 with n1; injection n1 with n1
            subst n1
            obtain ⟨b', o', N'⟩ := x
            obtain rfl : b' = b := m4
            obtain ⟨r', n3⟩ := hids0 ids0[i'] (List.getElem_mem hlt')
            have he := h.apart id ids0[i'] r r' b' o N o' N' q2 n3 g1 n2
            have hlt : i < ids0.length := (List.getElem?_eq_some_iff.mp hi1).1
            have he2 : ids0[i] = ids0[i'] := by rw [← he]; exact (List.getElem?_eq_some_iff.mp hi1).2
            have : i = i' := by
              have hp := List.pairwise_iff_getElem.mp hnd
              rcases Nat.lt_trichotomy i i' with hl | hl | hl
              · exact absurd he2 (hp i i' hlt hlt' hl)
              · exact hl
              · exact absurd he2.symm (hp i' i hlt' hlt hl)
            subst this
            rw [hb1] at m3
            cases m3
      · rw [hb1] at q1
        injection q1 with q1
        subst q1
        obtain ⟨c, arr, e0, e1, e2, _, e4, e5, e6, e7⟩ := ho
        have hzb : κ.z b = none := by
          rcases h.live id row0 hrow0 with ⟨g1, _⟩ | ⟨b', o', N', arr', g1, g2, _⟩
          · rw [g1] at q2; cases q2
          · rw [g1] at q2
            injection q2 with q2; injection q2 with q2 _
            subst q2; exact g2
        refine .inr ⟨b, o, N, arr, q2, hzb, e5, e6, ?_, fun j a hj => ?_⟩
        · have := Nat.mul_le_mul_right (sz P t) e1
          simp [Row.as]; omega
        · simp only [Row.as, List.getElem?_map] at hj
          obtain ⟨d, hd, rfl⟩ := Option.map_eq_some_iff.mp hj
          obtain ⟨x, k1, k2⟩ := e7 j d hd
          exact ⟨x, k1, gD.mono (fun b x hx => by cases hx) k2⟩
    · exact wrU_rows h hw hyz hB hnd hlen hids0 hrel hwl hb2 hi2 (by rw [← List.drop_drop, ← hkt]; rfl) p (by rw [show m + (i + 1) = m + i + 1 by omega]; exact hp)
theorem Kr.le_z {κ : Kr} : Kr.le ⟨fun _ => none, κ.z⟩ κ := ⟨fun _ _ h => (by cases h), fun _ _ h => h⟩
/-- Behind a call: what is new is known. -/
theorem Inv.after (h : Inv P w0 κ C w) {w' : World} (hb : Below w.heap.size w w') : κ.le ⟨κ.at_, zNew κ.z w w'⟩ ∧ Inv P w0 ⟨κ.at_, zNew κ.z w w'⟩ C w' := by
  have hz : ∀ b, b < w.heap.size → zNew κ.z w w' b = κ.z b := fun b hb => by unfold zNew; rw [if_pos hb]
  have hle : κ.le ⟨κ.at_, zNew κ.z w w'⟩ := ⟨fun _ _ h => h, fun b x hx => by show zNew κ.z w w' b = _; rw [hz b (h.zlt hx)]; exact hx⟩
  refine ⟨hle, hb.os.trans h.os, hb.tape.trans h.tape, hb.output.trans h.output, Nat.le_trans h.size hb.size, fun b hlt hW => ⟨(hb.block b (Nat.lt_of_lt_of_le hlt h.size)).trans (h.base b hlt hW).1, fun x hx => (h.base b hlt hW).2 x ?_⟩, fun b x hx => ?_, fun id row hr => ?_, h.apart, h.own⟩
  · rw [← hz b (Nat.lt_of_lt_of_le hlt h.size)]; exact hx
  · have hx' : zNew κ.z w w' b = some x := hx
    unfold zNew at hx'
    split at hx'
    · rename_i hlt
      exact (hb.block b hlt).trans (h.z b x hx')
    · exact hx'
  · rcases h.live id row hr with h1 | ⟨b, o, N, arr, h1, h2, h3, h4, h5, h6⟩
    · exact .inl h1
    · refine .inr ⟨b, o, N, arr, h1, ?_, (hb.block b (block_of h3)).trans h3, h4, h5, fun j a hj => ?_⟩
      · show zNew κ.z w w' b = none
        rw [hz b (block_of h3)]; exact h2
      · obtain ⟨x, g1, g2⟩ := h6 j a hj
        exact ⟨x, g1, g2.mono hle⟩
theorem wrA_nils {g : Cs} : ∀ {ks : List Kd} {as : List A} {ns : List Prop} {ds : List D} {ids : List Nat}, wrA P g ks as = some (ns, ds, ids) → nilsTo ds ks = ds
  | [], [], ns, ds, ids, h => by
    unfold wrA at h
    injection h with h; injection h with e1 e2; injection e2 with e2 e3
    subst e2; rfl
  | .list t :: ks, .sl u id off len :: as, ns, ds, ids, h => by
    unfold wrA at h
    split at h <;> try (cases h; done)
    rename_i row ns' ds' ids' hrow hrec
    split at h <;> try (cases h; done)
    rename_i l hl
    split at h <;> try (cases h; done)
    injection h with h; injection h with e1 e2; injection e2 with e2 e3
    subst e2
    show nilTo _ _ :: nilsTo ds' ks = _
    rw [wrA_nils hrec]
    unfold nilTo
    split
    · rename_i e1 e2; cases e1; cases e2; rfl
    · rfl
  | k :: ks, .d d :: as, ns, ds, ids, h => by
    have h' : (match wrA P g ks as with
      | some (ns, ds, ids) => if fitK d k = true ∧ d.scalar = true then some (ns, d :: ds, ids) else none
      | none => none) = some (ns, ds, ids) := by
      cases k <;> exact h
    split at h' <;> try (cases h'; done)
    rename_i ns' ds' ids' hrec
    split at h' <;> try (cases h'; done)
    rename_i hfit
    injection h' with h'; injection h' with e1 e2; injection e2 with e2 e3
    subst e2
    show nilTo _ _ :: nilsTo ds' ks = _
    rw [wrA_nils hrec]
    cases d with
    | list => exact absurd hfit.2 (by simp [D.scalar])
    | _ => rfl
theorem res_scalars {base : Nat} {w' : World} {ys zs : List D} : ∀ {ks : List Kd} {j : Nat} {vs : List Value} {bs : List (Option (Nat × Nat × Nat))}, lists ks = 0 → j + ks.length ≤ ys.length → resL P base w' ys j ks vs bs → gL P κ (sels (ys ++ zs) j ks) vs
  | [], j, vs, bs, _, _, h => by unfold resL at h; rw [h.1]; trivial
  | .list t :: ks, j, vs, bs, hl, _, h => by simp [lists] at hl
  | .int k :: ks, j, v :: vs, bs, hl, hj, h => by
    unfold resL at h
    simp at hj
    refine ⟨?_, res_scalars (by simpa [lists] using hl) (by omega) h.2⟩
    show gD P κ.z (sel (ys ++ zs) j (.int k)) v
    have : sel (ys ++ zs) j (.int k) = sel ys j (.int k) := by unfold sel selI; rw [List.getElem?_append_left (by omega)]
    rw [this]
    exact gD.mono (fun b x hx => by cases hx) h.1
  | .bool :: ks, j, v :: vs, bs, hl, hj, h => by
    unfold resL at h
    simp at hj
    refine ⟨?_, res_scalars (by simpa [lists] using hl) (by omega) h.2⟩
    show gD P κ.z (sel (ys ++ zs) j .bool) v
    have : sel (ys ++ zs) j .bool = sel ys j .bool := by unfold sel selB; rw [List.getElem?_append_left (by omega)]
    rw [this]
    exact gD.mono (fun b x hx => by cases hx) h.1
  | .str :: ks, j, v :: vs, bs, hl, hj, h => by
    unfold resL at h
    simp at hj
    refine ⟨?_, res_scalars (by simpa [lists] using hl) (by omega) h.2⟩
    show gD P κ.z (sel (ys ++ zs) j .str) v
    have : sel (ys ++ zs) j .str = sel ys j .str := by unfold sel selS; rw [List.getElem?_append_left (by omega)]
    rw [this]
    exact gD.mono (fun b x hx => by cases hx) h.1
  | .int k :: ks, j, [], bs, hl, hj, h => by cases bs <;> unfold resL at h <;> exact h.elim
  | .bool :: ks, j, [], bs, hl, hj, h => by cases bs <;> unfold resL at h <;> exact h.elim
  | .str :: ks, j, [], bs, hl, hj, h => by cases bs <;> unfold resL at h <;> exact h.elim
/-- What is known behind an operation. -/
def After (P : Program) (w0 : Bs) (F : Tb) (J : Nat → List D → Prop) (Q : List D → Prop) (κ : Kr) (C : Cs) (nb : Nat) (o : Oper) (σ : St) (K : St → Tree) (κ' : Kr) (v : Value) (w' : World) : Prop :=
  ∃ us av, κ.le κ' ∧ Inv P w0 κ' (upd C us) w' ∧ (∀ k, (∀ p ∈ us, p.1 ≠ k) → κ'.at_ k = κ.at_ k) ∧ gAV P κ' av v ∧ okU σ.H.length us = true ∧ (∀ p ∈ us, (∃ row, restr σ.H (touch o.op σ) p.1 = some row) ∨ (nb ≤ p.1 ∧ p.1 < nb + nNew P F o)) ∧
    (K ⟨putL σ.tmps o.dst av, setH σ.H us⟩).holds F J Q
/-- A call of a function of the table. -/
structure CallAt (F : Tb) (o : Oper) (f : Nat) (args : Array Operand) (s : Sig) : Prop where
  hcf : isCallF o.op = some (f, args)
  hop : ∃ ts, o.op = .call ⟨.value (.func f), args, ts⟩
  hs : F f = some s
theorem nNew_call {o : Oper} {f : Nat} {args : Array Operand} {s : Sig} {rk : List Kd} (hc : CallAt F o f args s) (hop : s.md ≠ .op) (hrk : ksAll P s.results = some rk) : nNew P F o = nRes s rk := by
  unfold nNew
  rw [hc.hcf]
  simp only
  rw [hc.hs]
  simp only
  cases hm : s.md with
  | op => exact absurd hm hop
  | _ => simp only [hrk]
theorem enter_ok {o : Oper} {f : Nat} {args : Array Operand} {fn : Func} {a : Act} {w : World} (hop : ∃ ts, o.op = .call ⟨.value (.func f), args, ts⟩) (f1 : P.funcs[f]? = some fn) (f2 : (fn.name == "runtime.NumGoroutine") = false) (f3 : fn.body.isNone = false) : (execOp a.eval o).run P w = .ok (.enter f (args.map a.eval)) w := by
  obtain ⟨ts, hop⟩ := hop
  have f2' : ¬ fn.name = "runtime.NumGoroutine" := by simpa using f2
  have f3' : ¬ fn.body = none := by intro e; rw [e] at f3; cases f3
  unfold execOp
  rw [hop]
  simp [resolve, Act.eval, Deferred.ofValue, invoke, callFunc, f1, f2', f3']
theorem args_vals {a : Act} {tmps : List AV} {op : Op} (he : ∀ x, gAV P κ (evalR (opTmps op) tmps x) (a.eval x)) (args : Array Operand) : ∀ (i : Nat) (av : AV), (args.toList.map fun x => unl (evalR (opTmps op) tmps x))[i]? = some av → ∃ v, (args.map a.eval).toList[i]? = some v ∧ gAV P κ av v := by
  intro i av hi
  rw [List.getElem?_map] at hi
  cases hx : args.toList[i]? with
  | none => rw [hx] at hi; cases hi
  | some x =>
    rw [hx] at hi
    injection hi with hi
    subst hi
    rw [Array.getElem?_toList] at hx
    exact ⟨a.eval x, by simp [hx], unl_sound (he x)⟩
theorem execC_sound (hF : FnsOk P F) {nb : Nat} {o : Oper} {σ : St} {K : St → Tree} {f : Nat} {args : Array Operand} {s : Sig} (hc : CallAt F o f args s) (h : (execC P nb o σ K f args s).holds F J Q) (hi : Inv P w0 κ C w) (he : ∀ x, gAV P κ (evalR (opTmps o.op) σ.tmps x) (a.eval x))
    (hg : ∀ id row, restr σ.H (touch o.op σ) id = some row → C id = some row) (hfresh : ∀ id, nb ≤ id → id < nb + nNew P F o → C id = none ∧ κ.at_ id = none) {G : Act → World → Prop} {Qe : Exit → Act → World → Prop}
    (hG : ∀ κ' v w', After P w0 F J Q κ C nb o σ K κ' v w' → G (a.put o.dst v) w') : o.wp P a w G Qe := by
  obtain ⟨hcf, ⟨ts, hop⟩, hs⟩ := hc
  unfold execC at h
  split at h <;> try (exact h.elim)
  rename_i as pk rk has hpk hrk
  split at h <;> try (exact h.elim)
  rename_i ns ds kl hv
  split at h <;> try (exact h.elim)
  rename_i hfit
  obtain ⟨hfit, hroom, hokk, hmdok⟩ := hfit
  obtain ⟨hn, h⟩ := Tree.holds_needs h
  unfold Tree.holds at h
  rw [hs] at h
  simp only at h
  obtain ⟨hpre, hpost⟩ := h
  obtain ⟨⟨fn, f1, f2, f3⟩, hcall⟩ := hF f s hs
  have hnop : s.md ≠ .op := fun e => by unfold callV at hv; rw [e] at hv; cases hv
  have hnn : nNew P F o = nRes s rk := nNew_call ⟨hcf, ⟨ts, hop⟩, hs⟩ hnop hrk
  rw [hnn] at hfresh
  have hids0 := resU_ids hv
  obtain ⟨cells, c1, c2⟩ := argCells_sound (P := P) (κ := κ) (vs := (args.map a.eval).toList) has (by simp) (fun i av hi => by
    rw [List.getElem?_map] at hi
    cases hx : args.toList[i]? with
    | none => rw [hx] at hi; cases hi
    | some x =>
      rw [hx] at hi
      injection hi with hi
      subst hi
      rw [Array.getElem?_toList] at hx
      exact ⟨a.eval x, by simp [hx], unl_sound (he x)⟩)
  have f2' : ¬ fn.name = "runtime.NumGoroutine" := by simpa using f2
  have f3' : ¬ fn.body = none := by intro e; rw [e] at f3; cases f3
  have hex : (execOp a.eval o).run P w = .ok (.enter f (args.map a.eval)) w := by
    unfold execOp
    rw [hop]
    simp [resolve, Act.eval, Deferred.ofValue, invoke, callFunc, f1, f2', f3']
  unfold Oper.wp
  rw [hex, Oper.upon_enter]
  cases hfz : s.md with
  | rd z => unfold callV at hv; rw [hfz] at hv; cases hv
  | op => exact absurd hfz hnop
  | fz =>
    rw [hfz] at hcall
    unfold callV at hv
    rw [hfz] at hv
    obtain ⟨κ1, q1, q2, q3, v1, v2⟩ := frzL_sound hv hn hi (fun id _ row hr => hg id row hr) c2
    obtain ⟨n1, n2⟩ := nilsTo_sound (ks := pk) v2
    obtain ⟨g1, g2, g3⟩ := fits_sels (P := P) (κ := ⟨fun _ => none, κ1.z⟩) [] (nilsTo ds pk) pk cells hfit (by rw [n1, v1]) n2
    refine (hcall w κ1.z (args.map a.eval) (nilsTo ds pk) pk cells q3.z hpk c1 hfit g3 hpre).mono ?_
    rintro e w' ⟨v, ys, rfl, hpo, hbel, hres⟩
    obtain ⟨ks', cells', vs', k1, k2, k3, k4, rfl⟩ := hres
    rw [hrk] at k1
    injection k1 with k1
    subst k1
    obtain ⟨a1, a2⟩ := q3.after hbel
    have hK := hpost ys hpo
    split at hK <;> try (exact hK.elim)
    rename_i l hl
    have hU : resU s ys nb kl pk rk = (sels ys 0 rk, kill kl) := by unfold resU; rw [hfz]
    rw [hU] at hl hK
    refine hG _ _ w' ⟨kill kl, wrapR l, q1.trans a1, a2, fun k hk => by show κ1.at_ k = _; rw [q2], ?_, hokk, fun p hp => .inl (frzL_ids hv _ (kill_mem hp)), hK⟩
    exact wrapR_sound (splitV_sound hl k3 (k4.mono (Kr.le_z (κ := ⟨κ1.at_, zNew κ1.z w w'⟩))))
  | wr =>
    rw [hfz] at hcall
    unfold callV at hv
    rw [hfz] at hv
    have hl0 : lists rk = 0 := by unfold mdOk at hmdok; rw [hfz] at hmdok; simpa using hmdok
    obtain ⟨i1, i2, i3⟩ := wrA_ids hv
    obtain ⟨bs, b1, b2, b3, b4, b5⟩ := wrA_sound hi hg [] hv hn c2
    have hnil := wrA_nils hv
    rw [hnil] at hpre hpost hfit
    refine (hcall w (args.map a.eval) ds pk cells bs hpk c1 hfit b1 b3 hpre).mono ?_
    rintro e w' ⟨v, ys, zs, rfl, hpo, ⟨rk', hrk', _, hyl⟩, hw, hwl, hres⟩
    rw [hrk] at hrk'
    injection hrk' with hrk'
    subst hrk'
    obtain ⟨ks', cells', vs', bs', k1, k2, k3, k4, k5, rfl⟩ := hres
    rw [hrk] at k1
    injection k1 with k1
    subst k1
    have hyz : ∀ i, selL (ys ++ zs) (rk.length + i) = selL zs i := fun i => by
      unfold selL
      rw [List.getElem?_append_right (by omega)]
      rw [hyl, Nat.add_sub_cancel_left]
    have hids : ∀ id ∈ kl, ∃ row, C id = some row := fun id hid => by obtain ⟨row, h9⟩ := i1 id hid; exact ⟨row, hg id row h9⟩
    have hrows := wrU_rows hi hw (m := rk.length) (yz := ys ++ zs) hyz (fun b hb => hb) i2 b4 hids b5 (i := 0) hwl rfl rfl rfl
    have hinv : Inv P w0 κ (upd C (wrU (ys ++ zs) rk.length pk kl)) w' := hi.wrote hw (ids := kl) b2 (fun id row hr => by
      rcases upd_cases hr with ⟨p, p1, p2, p3⟩ | ⟨p1, p2⟩
      · obtain ⟨row', q1, q2, q3⟩ := hrows p p1
        rw [p3] at q1
        injection q1 with q1
        subst q1; subst p2
        exact .inr ⟨q2, hids _ q2, q3⟩
      · refine .inl ⟨fun hm => ?_, p2⟩
        rw [← i3 (ys ++ zs) rk.length] at hm
        obtain ⟨p, p3, p4⟩ := List.mem_map.mp hm
        exact p1 p p3 p4)
    have hK := hpost (ys ++ zs) hpo
    split at hK <;> try (exact hK.elim)
    rename_i l hl
    have hU : resU s (ys ++ zs) nb kl pk rk = (sels (ys ++ zs) 0 rk, wrU (ys ++ zs) rk.length pk kl) := by unfold resU; rw [hfz]
    rw [hU] at hl hK
    refine hG κ _ w' ⟨wrU (ys ++ zs) rk.length pk kl, wrapR l, Kr.le.refl κ, hinv, fun k _ => rfl, ?_, ?_, fun p hp => .inl (i1 _ (by rw [← i3 (ys ++ zs) rk.length]; exact List.mem_map_of_mem hp)), hK⟩
    · exact wrapR_sound (splitV_sound hl k3 (res_scalars (κ := κ) (zs := zs) hl0 (by omega) k5))
    · refine List.all_eq_true.mpr (fun p hp => ?_)
      have hm : p.1 ∈ kl := by rw [← i3 (ys ++ zs) rk.length]; exact List.mem_map_of_mem hp
      exact List.all_eq_true.mp hokk (p.1, none) (List.mem_map.mpr ⟨p.1, hm, rfl⟩)
  | own =>
  rw [hfz] at hcall
  unfold callV at hv
  rw [hfz] at hv
  simp only at hv
  split at hv <;> try (cases hv; done)
  rename_i ns' ds' hv'
  injection hv with hv; injection hv with e1 e2; injection e2 with e2 e3
  subst e1; subst e2; subst e3
  have hnr : nRes s rk = lists rk := by unfold nRes; rw [hfz]
  rw [hnr] at hfresh hroom
  obtain ⟨v1, v2⟩ := viewL_sound hi hg hv' hn c2
  obtain ⟨n1, n2⟩ := nilsTo_sound (ks := pk) v2
  obtain ⟨g1, g2, g3⟩ := fits_sels (P := P) (κ := Kr.of w) [] (nilsTo ds' pk) pk cells hfit (by rw [n1, v1]) n2
  refine (hcall w (fun b => w.heap[b]?) (args.map a.eval) (nilsTo ds' pk) pk cells (fun _ _ h => h) hpk c1 hfit g3 hpre).mono ?_
  rintro e w' ⟨v, ys, rfl, hpo, hbel, hres⟩
  obtain ⟨ks', cells', vs', bs, k1, k2, k3, k4, k5, rfl⟩ := hres
  rw [hrk] at k1
  injection k1 with k1
  subst k1
  have hi' := hi.below hbel
  have hbk : ∀ (ks : List Kd) (j : Nat) (vs : List Value) (bs : List (Option (Nat × Nat × Nat))), resL P w.heap.size w' ys j ks vs bs → ∀ b ∈ blocks bs, w.heap.size ≤ b := by
    intro ks
    induction ks with
    | nil => intro j vs bs h b hb; unfold resL at h; rw [h.2] at hb; simp [blocks] at hb
    | cons k ks ih =>
      intro j vs bs h b hb
      cases k with
      | list t =>
        cases vs with
        | nil => cases bs <;> unfold resL at h <;> exact h.elim
        | cons v vs =>
          cases bs with
          | nil => unfold resL at h; exact h.elim
          | cons ob bs =>
            unfold resL at h
            cases ob with
            | none => exact ih _ _ _ h.2 b (by simpa [blocks] using hb)
            | some x =>
              obtain ⟨b', o, N⟩ := x
              simp [blocks] at hb
              rcases hb with rfl | hb
              · exact h.1.choose_spec.choose_spec.2.2.2.1
              · exact ih _ _ _ h.2 b (by simpa [blocks] using hb)
      | int k' => cases vs <;> unfold resL at h <;> first | exact h.elim | exact ih _ _ _ h.2 b hb
      | bool => cases vs <;> unfold resL at h <;> first | exact h.elim | exact ih _ _ _ h.2 b hb
      | str => cases vs <;> unfold resL at h <;> first | exact h.elim | exact ih _ _ _ h.2 b hb
  obtain ⟨κ', a1, a2, a3, a4, _⟩ := res_sound (nb := nb) hi' k5 k4 hfresh (fun id row b o N hr ha hb => by
    have h1 := hbk _ _ _ _ k5 b hb
    have := hi.atlt hr ha
    omega) (fun b hb => by
    have h1 := hbk _ _ _ _ k5 b hb
    refine ⟨?_, .inl (Nat.le_trans hi.size h1)⟩
    cases hz : κ.z b with
    | none => rfl
    | some x => have := hi.zlt hz; omega)
  have hK := hpost ys hpo
  split at hK <;> try (exact hK.elim)
  rename_i l hl
  have hU : resU s ys nb [] pk rk = resA ys nb 0 rk := by unfold resU; rw [hfz]
  rw [hU] at hl hK
  refine hG κ' _ w' ⟨(resA ys nb 0 rk).2, wrapR l, a1, a2, a4, ?_, List.all_eq_true.mpr (fun p hp => decide_eq_true (by have := resA_ids _ _ _ _ p hp; omega)), fun p hp => .inr ?_, hK⟩
  · exact wrapR_sound (splitV_sound hl k3 a3)
  · rw [hnn, hnr]; exact resA_ids _ _ _ _ p hp
end
end Go.Proofs.Ytplcdadedpbkpaa.Mini
end
section
/- Exact values: calls of functions that write into what they are pointed to; each operation. -/
namespace Go.Proofs.Ytplcdadedpbkpaa.Mini
open Go Go.RowKit
set_option linter.unusedVariables false
section
variable {P : Program} {w0 : Bs} {κ : Kr} {C : Cs} {w : World} {F : Tb} {a : Act} {J : Nat → List D → Prop} {Q : List D → Prop}
/-- Some rows were written, and some of what is new is known. -/
theorem Inv.wroteZ (h : Inv P w0 κ C w) {w' : World} {B : List Nat} (hw : Wrote w w' B) {ids : List Nat} {C' : Cs} {zX : Nat → Option Obj} (hz1 : ∀ b, b < w.heap.size → zX b = κ.z b) (hz2 : ∀ b x, w.heap.size ≤ b → zX b = some x → w'.heap[b]? = some x)
    (hB : ∀ b ∈ B, ∃ id ∈ ids, ∃ row o N, C id = some row ∧ κ.at_ id = some (b, o, N))
    (hC : ∀ id row, C' id = some row → (id ∉ ids ∧ C id = some row) ∨ (id ∈ ids ∧ (∃ r, C id = some r) ∧ RowIn P ⟨κ.at_, zX⟩ w' id row)) : κ.le ⟨κ.at_, zX⟩ ∧ Inv P w0 ⟨κ.at_, zX⟩ C' w' := by
  have hle : κ.le ⟨κ.at_, zX⟩ := ⟨fun _ _ h => h, fun b x hx => by show zX b = _; rw [hz1 b (h.zlt hx)]; exact hx⟩
  have h1 : Inv P w0 κ (fun id => if id ∈ ids then none else C id) w' := h.wrote hw hB (fun id row hr => by
    have hr' : (if id ∈ ids then none else C id) = some row := hr
    split at hr'
    · cases hr'
    · rename_i hn; exact .inl ⟨hn, hr'⟩)
  have hold : ∀ id row, C' id = some row → ∃ r, C id = some r := fun id row hr => by
    rcases hC id row hr with ⟨_, h1⟩ | ⟨_, h1, _⟩
    · exact ⟨row, h1⟩
    · exact h1
  refine ⟨hle, h1.os, h1.tape, h1.output, h1.size, fun b hlt hW => ⟨(h1.base b hlt hW).1, fun x hx => (h1.base b hlt hW).2 x ?_⟩, fun b x hx => ?_, fun id row hr => ?_, fun id id' row row' b o N o' N' q1 q2 q3 q4 => ?_, fun id row b o N q1 q3 => ?_⟩
  · rw [← hz1 b (Nat.lt_of_lt_of_le hlt h.size)]; exact hx
  · have hx' : zX b = some x := hx
    by_cases hb : b < w.heap.size
    · rw [hz1 b hb] at hx'; exact h1.z b x hx'
    · exact hz2 b x (by omega) hx'
  · rcases hC id row hr with ⟨hn, g0⟩ | ⟨_, _, g0⟩
    · rcases h1.live id row (by show (if id ∈ ids then none else C id) = some row; rw [if_neg hn]; exact g0) with g1 | ⟨b, o, N, arr, g1, g2, g3, g4, g5, g6⟩
      · exact .inl g1
      · refine .inr ⟨b, o, N, arr, g1, ?_, g3, g4, g5, fun j a hj => ?_⟩
        · show zX b = none
          rw [hz1 b (h.atlt g0 g1)]; exact g2
        · obtain ⟨x, q1, q2⟩ := g6 j a hj
          exact ⟨x, q1, q2.mono hle⟩
    · exact g0
  · obtain ⟨r, k1⟩ := hold id row q1
    obtain ⟨r', k2⟩ := hold id' row' q2
    exact h.apart id id' r r' b o N o' N' k1 k2 q3 q4
  · obtain ⟨r, k1⟩ := hold id row q1
    exact h.own id r b o N k1 q3
theorem sels_shift (d : D) (ys : List D) : ∀ (ks : List Kd) (j : Nat), sels (d :: ys) (j + 1) ks = sels ys j ks
  | [], _ => rfl
  | k :: ks, j => by
    show A.d (sel (d :: ys) (j + 1) k) :: sels (d :: ys) (j + 1 + 1) ks = .d (sel ys j k) :: sels ys (j + 1) ks
    rw [sels_shift d ys ks (j + 1)]
    cases k <;> rfl
theorem resA_shift (d : D) (ys : List D) : ∀ (ks : List Kd) (nb j : Nat), resA (d :: ys) nb (j + 1) ks = resA ys nb j ks
  | [], _, _ => rfl
  | .list t :: ks, nb, j => by
    unfold resA
    simp only [resA_shift d ys ks (nb + 1) (j + 1)]
    rfl
  | .int k :: ks, nb, j => by
    unfold resA
    simp only [resA_shift d ys ks nb (j + 1)]
    rfl
  | .bool :: ks, nb, j => by
    unfold resA
    simp only [resA_shift d ys ks nb (j + 1)]
    rfl
  | .str :: ks, nb, j => by
    unfold resA
    simp only [resA_shift d ys ks nb (j + 1)]
    rfl
theorem ptrArg_spec {g : Cs} {av : AV} {id : Nat} {row : Row} {ds : List D} (h : ptrArg g av = some (id, row, ds)) : av = one (.ptr id 0) ∧ g id = some row ∧ rowD row = some ds := by
  unfold ptrArg at h
  split at h <;> try (cases h; done)
  split at h <;> try (cases h; done)
  rename_i hrow
  split at h <;> try (cases h; done)
  rename_i hds
  injection h with h; injection h with e1 h; injection h with e2 e3
  subst e1; subst e2; subst e3
  exact ⟨rfl, hrow, hds⟩
theorem scal_of_fits : ∀ {ds : List D} {ks : List Kd}, fits ds ks = true → ks.all scalK = true → ∀ d ∈ ds, d.scalar = true
  | [], _, _, _, d, hd => by simp at hd
  | x :: ds, [], h, _, d, hd => by simp [fits] at h
  | x :: ds, k :: ks, h, hk, d, hd => by
    unfold fits at h
    rw [Bool.and_eq_true] at h
    rw [List.all_cons, Bool.and_eq_true] at hk
    rcases List.mem_cons.mp hd with rfl | hd
    · have h1 := h.1
      have h2 := hk.1
      cases d <;> cases k <;> first | rfl | (simp [fitK] at h1; done) | (simp [scalK] at h2; done)
    · exact scal_of_fits h.2 hk.2 d hd
theorem gD_scal {z z' : Nat → Option Obj} {d : D} {v : Value} (hs : d.scalar = true) (h : gD P z d v) : gD P z' d v := by
  cases d with
  | list => cases hs
  | _ => unfold gD at h ⊢; exact h
theorem resL_blocks {w w' : World} {ys : List D} : ∀ {ks : List Kd} {j : Nat} {vs : List Value} {bs : List (Option (Nat × Nat × Nat))}, resL P w.heap.size w' ys j ks vs bs → ∀ b ∈ blocks bs, w.heap.size ≤ b
  | [], j, vs, bs, h, b, hb => by unfold resL at h; rw [h.2] at hb; simp [blocks] at hb
  | .list t :: ks, j, [], bs, h, b, hb => by cases bs <;> unfold resL at h <;> exact h.elim
  | .list t :: ks, j, v :: vs, [], h, b, hb => by unfold resL at h; exact h.elim
  | .list t :: ks, j, v :: vs, ob :: bs, h, b, hb => by
    unfold resL at h
    cases ob with
    | none => exact resL_blocks h.2 b (by simpa [blocks] using hb)
    | some x =>
      obtain ⟨b', o, N⟩ := x
      simp [blocks] at hb
      rcases hb with rfl | hb
      · exact h.1.choose_spec.choose_spec.2.2.2.1
      · exact resL_blocks h.2 b (by simpa [blocks] using hb)
  | .int k :: ks, j, [], bs, h, b, hb => by cases bs <;> unfold resL at h <;> exact h.elim
  | .bool :: ks, j, [], bs, h, b, hb => by cases bs <;> unfold resL at h <;> exact h.elim
  | .str :: ks, j, [], bs, h, b, hb => by cases bs <;> unfold resL at h <;> exact h.elim
  | .int k :: ks, j, v :: vs, bs, h, b, hb => by unfold resL at h; exact resL_blocks h.2 b hb
  | .bool :: ks, j, v :: vs, bs, h, b, hb => by unfold resL at h; exact resL_blocks h.2 b hb
  | .str :: ks, j, v :: vs, bs, h, b, hb => by unfold resL at h; exact resL_blocks h.2 b hb
theorem readR_spec {g : Cs} {s : Sig} {l : List AV} {id : Nat} {row : Row} {ds : List D} {pk rk : List Kd} {ns : List Prop} {xs : List D} (h : readR P g s l = some (id, row, ds, pk, rk, ns, xs)) :
    ∃ a0 rest pt pts as xs0, l = a0 :: rest ∧ s.params = pt :: pts ∧ ptrArg g a0 = some (id, row, ds) ∧ argCells P pts rest = some as ∧ ksAll P pts = some pk ∧ ksAll P s.results = some rk ∧ viewL P g as = some (ns, xs0) ∧ isPtr P pt = some row.t ∧ pk.all scalK = true ∧ fits (nilsTo xs0 pk) pk = true ∧ xs = nilsTo xs0 pk := by
  unfold readR at h
  split at h <;> try (cases h; done)
  rename_i a0 rest pt pts hp
  split at h <;> try (cases h; done)
  rename_i h1 h2 h3 h4
  split at h <;> try (cases h; done)
  rename_i ns' xs' h5
  split at h <;> try (cases h; done)
  rename_i hc
  injection h with h
  injection h with e1 h; injection h with e2 h; injection h with e3 h; injection h with e4 h; injection h with e5 h; injection h with e6 e7
  subst e1; subst e2; subst e3; subst e4; subst e5; subst e6; subst e7
  exact ⟨a0, rest, pt, pts, _, _, rfl, hp, h1, h2, h3, h4, h5, hc.1, hc.2.1, hc.2.2, rfl⟩
theorem resR_ids (z : Bool) (ys : List D) (nb : Nat) (rk : List Kd) : ∀ p ∈ (resR z ys nb rk).2, nb ≤ p.1 ∧ p.1 < nb + (if z = true then 0 else lists rk) := by
  intro p hp
  unfold resR at hp
  cases z with
  | true => simp at hp
  | false => simpa using resA_ids _ _ _ _ p hp
theorem execR_sound (hF : FnsOk P F) {nb : Nat} {o : Oper} {σ : St} {K : St → Tree} {f : Nat} {args : Array Operand} {s : Sig} {z : Bool} (hc : CallAt F o f args s) (hmd : s.md = .rd z) (h : (execR P nb o σ K f args s z).holds F J Q) (hi : Inv P w0 κ C w) (he : ∀ x, gAV P κ (evalR (opTmps o.op) σ.tmps x) (a.eval x))
    (hg : ∀ id row, restr σ.H (touch o.op σ) id = some row → C id = some row) (hfresh : ∀ id, nb ≤ id → id < nb + nNew P F o → C id = none ∧ κ.at_ id = none) {G : Act → World → Prop} {Qe : Exit → Act → World → Prop}
    (hG : ∀ κ' v w', After P w0 F J Q κ C nb o σ K κ' v w' → G (a.put o.dst v) w') : o.wp P a w G Qe := by
  unfold execR at h
  split at h <;> try (exact h.elim)
  rename_i id row ds pk rk ns xs hread
  split at h <;> try (exact h.elim)
  rename_i hroom
  obtain ⟨hn, h⟩ := Tree.holds_needs h
  unfold Tree.holds at h
  rw [hc.hs] at h
  simp only at h
  obtain ⟨hpre, hpost⟩ := h
  obtain ⟨a0, rest, pt, pts, as, xs0, e0, e1, e2, e3, e4, e5, e6, e7, e8, e9, rfl⟩ := readR_spec hread
  obtain ⟨⟨fn, f1, f2, f3⟩, hcall⟩ := hF f s hc.hs
  rw [hmd] at hcall
  have hnn : nNew P F o = nRes s rk := nNew_call hc (by rw [hmd]; simp) e5
  rw [hnn] at hfresh
  have hnr : nRes s rk = if z = true then 0 else lists rk := by unfold nRes; rw [hmd]; cases z <;> rfl
  have hvals := args_vals he args
  rw [e0] at hvals
  obtain ⟨p1, p2, p3⟩ := ptrArg_spec e2
  have hlen : (args.map a.eval).toList.length = rest.length + 1 := by
    have : (args.toList.map fun x => unl (evalR (opTmps o.op) σ.tmps x)).length = rest.length + 1 := by rw [e0]; rfl
    simpa using this
  obtain ⟨v0, vrest, hvs⟩ : ∃ v0 vrest, (args.map a.eval).toList = v0 :: vrest := by
    cases hv : (args.map a.eval).toList with
    | nil => rw [hv] at hlen; simp at hlen
    | cons x l => exact ⟨x, l, rfl⟩
  rw [hvs] at hvals hlen
  have hv0 : gAV P κ a0 v0 := by
    obtain ⟨v, q1, q2⟩ := hvals 0 a0 rfl
    simp at q1; subst q1; exact q2
  obtain ⟨cells, c1, c2⟩ := argCells_sound (vs := vrest) e3 (by simpa using hlen) (fun i av hi => by simpa using hvals (i + 1) av (by simpa using hi))
  rw [p1] at hv0
  obtain ⟨b, o', N, hat, hv0⟩ := hv0
  have hC := hg _ _ p2
  rcases (hi.live id row hC).ds p3 with ⟨g1, _⟩ | ⟨b2, o2, N2, arr, g1, g2, g3, g4, g5, g6⟩
  · rw [g1] at hat; cases hat
  rw [g1] at hat
  injection hat with hat; injection hat with q1 q2; injection q2 with q2 q3
  subst q1; subst q2; subst q3
  obtain ⟨v1, v2⟩ := viewL_sound hi hg e6 hn c2
  obtain ⟨n1, n2⟩ := nilsTo_sound (ks := pk) v2
  have hsc := scal_of_fits e9 e8
  obtain ⟨_, _, g8⟩ := fits_sels (P := P) (κ := ⟨fun _ => none, κ.z⟩) [] (nilsTo xs0 pk) pk cells e9 (by rw [n1, v1]) (fun j d hj => by
    obtain ⟨v, k1, k2⟩ := n2 j d hj
    exact ⟨v, k1, gD_scal (hsc d (List.mem_of_getElem? hj)) k2⟩)
  have hargs : args.map a.eval = (Value.pointer (some ⟨b2, o2, none⟩) :: vrest).toArray := by
    rw [← Array.toArray_toList (xs := args.map a.eval), hvs, hv0]; rfl
  unfold Oper.wp
  rw [enter_ok hc.hop f1 f2 f3, Oper.upon_enter, hargs]
  refine (hcall w κ.z vrest pt row.t pts (nilsTo xs0 pk) pk cells b2 o2 arr ds hi.z g2 g3 (by rw [g4]; exact g5) g6 e1 e7 e4 c1 e9 g8 hpre).mono ?_
  rintro e w' ⟨v, ys, ds', arr', rfl, hpo, hw, hh, hsz, hle, hres⟩
  have hdom : ∀ id' row', upd C [(id, some (.sym row.t ds'))] id' = some row' → ∃ r, C id' = some r := fun id' row' hr => by
    rw [upd_one] at hr
    split at hr
    · rename_i e; subst e; exact ⟨row, hC⟩
    · exact ⟨row', hr⟩
  have hinv : ∀ zX : Nat → Option Obj, (∀ b, b < w.heap.size → zX b = κ.z b) → (∀ b x, w.heap.size ≤ b → zX b = some x → w'.heap[b]? = some x) → seenAt P zX arr' o2 ds' → κ.le ⟨κ.at_, zX⟩ ∧ Inv P w0 ⟨κ.at_, zX⟩ (upd C [(id, some (.sym row.t ds'))]) w' := fun zX hz1 hz2 hseen => hi.wroteZ hw (ids := [id]) hz1 hz2 (fun b hb => by
      have : b = b2 := by simpa using hb
      subst this
      exact ⟨id, by simp, row, _, _, hC, g1⟩) (fun id' row' hr => by
      rw [upd_one] at hr
      split at hr
      · rename_i e
        subst e
        injection hr with hr
        subst hr
        refine .inr ⟨by simp, ⟨row, hC⟩, .inr ⟨b2, o2, N2, arr', g1, ?_, hh, by rw [hsz, g4], ?_, fun j a hj => ?_⟩⟩
        · show zX b2 = none
          rw [hz1 b2 (block_of g3)]; exact g2
        · show o2 + (ds'.map A.d).length ≤ N2
          rw [List.length_map, ← g4, ← hsz]; exact hle
        · simp only [Row.as, List.getElem?_map] at hj
          obtain ⟨d, hd, rfl⟩ := Option.map_eq_some_iff.mp hj
          exact hseen j d hd
      · rename_i e
        exact .inl ⟨by simpa using e, hr⟩)
  have hK := hpost _ hpo
  split at hK <;> try (exact hK.elim)
  rename_i l hl
  have hsel : selL (.list 0 0 ds' :: ys) 0 = ds' := rfl
  rw [hsel] at hK
  have hids : ∀ p ∈ ((id, some (Row.sym row.t ds')) :: (resR z (.list 0 0 ds' :: ys) nb rk).2 : Us), (∃ row, restr σ.H (touch o.op σ) p.1 = some row) ∨ (nb ≤ p.1 ∧ p.1 < nb + nNew P F o) := fun p hp => by
    rcases List.mem_cons.mp hp with rfl | hp
    · exact .inl ⟨_, p2⟩
    · rw [hnn, hnr]; exact .inr (resR_ids _ _ _ _ p hp)
  have hoku : okU σ.H.length ((id, some (Row.sym row.t ds')) :: (resR z (.list 0 0 ds' :: ys) nb rk).2) = true := by
    refine List.all_eq_true.mpr (fun p hp => decide_eq_true ?_)
    rcases List.mem_cons.mp hp with rfl | hp
    · exact hroom.2
    · have := resR_ids _ _ _ _ p hp
      rw [hnr] at hroom
      omega
  cases z with
  | true =>
    obtain ⟨⟨ks', cells', vs', k1, k2, k3, k4, rfl⟩, hseen⟩ := hres
    rw [e5] at k1
    injection k1 with k1
    subst k1
    obtain ⟨a1, a2⟩ := hinv (zNew κ.z w w') (fun b hb => by unfold zNew; rw [if_pos hb]) (fun b x hb hx => by unfold zNew at hx; rw [if_neg (by omega)] at hx; exact hx) hseen
    have hR : resR true (.list 0 0 ds' :: ys) nb rk = (sels ys 0 rk, []) := by unfold resR; rw [if_pos rfl, sels_shift]
    rw [hR] at hl hK hids hoku
    exact hG _ _ w' ⟨[(id, some (.sym row.t ds'))], wrapR l, a1, a2, fun k hk => rfl, wrapR_sound (splitV_sound hl k3 (k4.mono (Kr.le_z (κ := ⟨κ.at_, zNew κ.z w w'⟩)))), hoku, hids, hK⟩
  | false =>
    obtain ⟨ks', cells', vs', bs, k1, k2, k3, k4, k5, rfl, hseen⟩ := hres
    rw [e5] at k1
    injection k1 with k1
    subst k1
    have hbk := resL_blocks k5
    rw [hnr] at hfresh
    obtain ⟨a0', a0i⟩ := hinv (zBut κ.z w w' (blocks bs)) (fun b hb => by unfold zBut; rw [if_pos hb]) (fun b x hb hx => by
      unfold zBut at hx
      rw [if_neg (by omega)] at hx
      split at hx
      · cases hx
      · exact hx) hseen
    obtain ⟨κ', a1, a2, a3, a4, _⟩ := res_sound (nb := nb) a0i k5 k4 (fun id' q1 q2 => by
        have := hfresh id' q1 (by simpa using q2)
        refine ⟨?_, this.2⟩
        rw [upd_one, if_neg (fun e => by subst e; rw [hC] at this; cases this.1)]
        exact this.1) (fun id' row' b o N hr ha hb => by
        obtain ⟨r, hr0⟩ := hdom id' row' hr
        have h1 := hbk b hb
        have := hi.atlt hr0 ha
        omega) (fun b hb => by
        have h1 := hbk b hb
        refine ⟨?_, .inl (Nat.le_trans hi.size h1)⟩
        show zBut κ.z w w' (blocks bs) b = none
        unfold zBut
        rw [if_neg (by omega), if_pos hb])
    have hR : resR false (.list 0 0 ds' :: ys) nb rk = resA ys nb 0 rk := by unfold resR; rw [if_neg (by simp), resA_shift]
    rw [hR] at hl hK hids hoku
    exact hG κ' _ w' ⟨(id, some (.sym row.t ds')) :: (resA ys nb 0 rk).2, wrapR l, a0'.trans a1, a2, fun k hk => a4 k (fun p hp => hk p (List.mem_cons_of_mem _ hp)), wrapR_sound (splitV_sound hl k3 a3), hoku, hids, hK⟩
theorem readO_spec {g : Cs} {s : Sig} {l : List AV} {t : Nat} {pk : List Kd} {ns : List Prop} {xs : List D} (h : readO P g s l = some (t, pk, ns, xs)) :
    ∃ as pt xs0, argCells P s.params l = some as ∧ ksAll P s.params = some pk ∧ s.results = [pt] ∧ frzL P g as = some (ns, xs0, []) ∧ isPtr P pt = some t ∧ fits (nilsTo xs0 pk) pk = true ∧ xs = nilsTo xs0 pk := by
  unfold readO at h
  split at h <;> try (cases h; done)
  rename_i h1 h2 h3
  split at h <;> try (cases h; done)
  rename_i h4 h5
  split at h <;> try (cases h; done)
  rename_i h6
  injection h with h
  injection h with e1 h; injection h with e2 h; injection h with e3 e4
  subst e1; subst e2; subst e3; subst e4
  exact ⟨_, _, _, h1, h2, h3, h4, h5, h6, rfl⟩
theorem execO_sound (hF : FnsOk P F) {nb : Nat} {o : Oper} {σ : St} {K : St → Tree} {f : Nat} {args : Array Operand} {s : Sig} (hc : CallAt F o f args s) (hmd : s.md = .op) (h : (execO P nb o σ K f args s).holds F J Q) (hi : Inv P w0 κ C w) (he : ∀ x, gAV P κ (evalR (opTmps o.op) σ.tmps x) (a.eval x))
    (hg : ∀ id row, restr σ.H (touch o.op σ) id = some row → C id = some row) (hfresh : ∀ id, nb ≤ id → id < nb + nNew P F o → C id = none ∧ κ.at_ id = none) {G : Act → World → Prop} {Qe : Exit → Act → World → Prop}
    (hG : ∀ κ' v w', After P w0 F J Q κ C nb o σ K κ' v w' → G (a.put o.dst v) w') : o.wp P a w G Qe := by
  unfold execO at h
  split at h <;> try (exact h.elim)
  rename_i t pk ns xs hread
  split at h <;> try (exact h.elim)
  rename_i hroom
  obtain ⟨hn, h⟩ := Tree.holds_needs h
  unfold Tree.holds at h
  rw [hc.hs] at h
  simp only at h
  obtain ⟨hpre, hpost⟩ := h
  obtain ⟨as, pt, xs0, e1, e2, e3, e4, e5, e6, rfl⟩ := readO_spec hread
  obtain ⟨⟨fn, f1, f2, f3⟩, hcall⟩ := hF f s hc.hs
  rw [hmd] at hcall
  have hnn : nNew P F o = 1 := by unfold nNew; rw [hc.hcf]; simp only; rw [hc.hs]; simp only; rw [hmd]
  rw [hnn] at hfresh
  obtain ⟨cells, c1, c2⟩ := argCells_sound (vs := (args.map a.eval).toList) e1 (by simp) (args_vals he args)
  obtain ⟨κ1, q1, q2, q3, v1, v2⟩ := frzL_sound e4 hn hi (fun id _ row hr => hg id row hr) c2
  have q3' : Inv P w0 κ1 C w := q3
  obtain ⟨n1, n2⟩ := nilsTo_sound (ks := pk) v2
  obtain ⟨_, _, g3⟩ := fits_sels (P := P) (κ := ⟨fun _ => none, κ1.z⟩) [] (nilsTo xs0 pk) pk cells e6 (by rw [n1, v1]) n2
  unfold Oper.wp
  rw [enter_ok hc.hop f1 f2 f3, Oper.upon_enter]
  refine (hcall w κ1.z (args.map a.eval) (nilsTo xs0 pk) pk cells pt t q3'.z e3 e5 e2 c1 e6 g3 hpre).mono ?_
  rintro e w' ⟨g, arr, ds', rfl, hpo, hbel, hge, hh, hle, hseen⟩
  have hi' := q3'.below hbel
  obtain ⟨hf1, hf2⟩ := hfresh nb (Nat.le_refl _) (by omega)
  have hzg : κ1.z g = none := by
    cases hz : κ1.z g with
    | none => rfl
    | some x => have := q3'.zlt hz; omega
  obtain ⟨k1, k2⟩ := hi'.add (id := nb) (b := g) (o := 0) (N := arr.size) hf1 (by rw [q2]; exact hf2) (.sym t ds') arr hzg (.inl (Nat.le_trans hi.size hge)) hh rfl (by show 0 + (ds'.map A.d).length ≤ _; simpa using hle) (fun j a hj => by
    simp only [Row.as, List.getElem?_map] at hj
    obtain ⟨d, hd, rfl⟩ := Option.map_eq_some_iff.mp hj
    exact hseen j d hd) (fun k r o' N' hk ha => by
    have := q3'.atlt hk ha
    omega)
  have hK := hpost _ hpo
  have hsel : selL [.list 0 0 ds'] 0 = ds' := rfl
  rw [hsel] at hK
  refine hG _ _ w' ⟨[(nb, some (.sym t ds'))], one (.ptr nb 0), q1.trans k1, k2, fun k hk => ?_, ⟨g, 0, arr.size, by simp [Kr.put], by simp⟩, List.all_eq_true.mpr (fun p hp => decide_eq_true ?_), fun p hp => .inr ?_, hK⟩
  · have : k ≠ nb := fun e => hk (nb, some (.sym t ds')) (by simp) e.symm
    rw [put_other this, q2]
  · have : p = (nb, some (.sym t ds')) := by simpa using hp
    subst this
    simp only
    omega
  · have : p = (nb, some (.sym t ds')) := by simpa using hp
    subst this
    rw [hnn]
    simp only
    omega
theorem call_op {o : Oper} {f : Nat} {args : Array Operand} (hcf : isCallF o.op = some (f, args)) : ∃ ts, o.op = .call ⟨.value (.func f), args, ts⟩ := by
  unfold isCallF at hcf
  split at hcf <;> try (cases hcf; done)
  rename_i f' args' ts hop
  injection hcf with hcf
  injection hcf with h1 h2
  subst h1; subst h2
  exact ⟨ts, hop⟩
theorem exec_sound (hF : FnsOk P F) {nb : Nat} {o : Oper} {σ : St} {K : St → Tree} (h : (exec P F nb o σ K).holds F J Q) (hi : Inv P w0 κ C w) (he : ∀ x, gAV P κ (evalR (opTmps o.op) σ.tmps x) (a.eval x))
    (hg : ∀ id row, restr σ.H (touch o.op σ) id = some row → C id = some row) (hfresh : ∀ id, nb ≤ id → id < nb + nNew P F o → C id = none ∧ κ.at_ id = none) {G : Act → World → Prop} {Qe : Exit → Act → World → Prop}
    (hG : ∀ κ' v w', After P w0 F J Q κ C nb o σ K κ' v w' → G (a.put o.dst v) w') : o.wp P a w G Qe := by
  unfold exec at h
  split at h
  · rename_i f args hcf
    have hop : ∃ ts, o.op = .call ⟨.value (.func f), args, ts⟩ := by
      unfold isCallF at hcf
      split at hcf <;> try (cases hcf; done)
      rename_i f' args' ts hop
      injection hcf with hcf
      injection hcf with h1 h2
      subst h1; subst h2
      exact ⟨ts, hop⟩
    split at h <;> try (exact h.elim)
    rename_i s hs
    have hc : CallAt F o f args s := ⟨hcf, hop, hs⟩
    split at h
    · rename_i z hmd; exact execR_sound hF hc hmd h hi he hg hfresh hG
    · rename_i hmd; exact execO_sound hF hc hmd h hi he hg hfresh hG
    · exact execC_sound hF hc h hi he hg hfresh hG
  · rename_i hcf
    have hnn : nNew P F o = if isNew o.op = true then 1 else 0 := by unfold nNew; rw [hcf]
    split at h <;> try (exact h.elim)
    rename_i ns av us hm
    split at h <;> try (exact h.elim)
    rename_i hok
    obtain ⟨hn, hK⟩ := Tree.holds_needs h
    obtain ⟨n, κ', w', r1, r2, r3, r4, r5⟩ := mOp_sound (o := o) hi (unlE_sound he) hg hm hn (fun hnew => hfresh _ (Nat.le_refl _) (by rw [hnn, if_pos hnew]; omega))
    have hids : ∀ p ∈ us, (∃ row, restr σ.H (touch o.op σ) p.1 = some row) ∨ (nb ≤ p.1 ∧ p.1 < nb + nNew P F o) := fun p hp => (mOp_ids hm p hp).imp (fun h => h.1) (fun ⟨e1, e2⟩ => by rw [hnn, if_pos e2]; omega)
    unfold Oper.wp
    rw [r1]
    rcases r5 with ⟨v, rfl, hv⟩ | ⟨rfl, rfl⟩
    · exact hG κ' v w' ⟨us, av, r2, r3, r4, hv, hok, hids, hK⟩
    · exact hG κ' undef w' ⟨us, anyV, r2, r3, r4, trivial, hok, hids, hK⟩
end
end Go.Proofs.Ytplcdadedpbkpaa.Mini
end
