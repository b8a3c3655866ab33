/- Parts of the proof: Mini1. -/
import Derived.Test.YtjleempapphlhabGeTyp1
section
namespace Go.Proofs.Ytjleempapphlhab.Mini
open Go Go.RowKit
set_option linter.unusedVariables false
/-- What a cell holds for good: numbers, texts, lists that never change (their type, how many, their cells). -/
inductive D where
  | int (k : IntKind) (n : Int)
  | bool (b : Bool)
  | str (s : ByteArray)
  | list (t n : Nat) (cs : List D)
/-- What a cell or a temporary holds: also a list or a place in the call's own rows. -/
inductive A where
  | any
  | d (x : D)
  | nil
  | sl (t id off len : Nat)
  | ptr (id off : Nat)
  | pe (t id i o : Nat)
  | rp (t : Nat) (cs : List D) (i o : Nat)
  | lit (b : Bool)
  | isl (t id p n : Nat)
inductive V1 where
  | one (a : A)
  | agg (l : List A)
inductive AV where
  | v (x : V1)
  | tup (l : List V1)
/-- A row of the call's own. -/
inductive Row where
  | fix (t : Nat) (cs : List A)
  | sym (t : Nat) (ds : List D)
  /-- The lists in its cells are the call's own, too. -/
  | deep (t : Nat) (ds : List D)
def Row.t : Row → Nat
  | .fix t _ => t
  | .sym t _ => t
  | .deep t _ => t
def Row.as : Row → List A
  | .fix _ cs => cs
  | .sym _ ds => ds.map .d
  | .deep _ _ => []
/-- Names of rows are less than this; behind it the lists in the cells of rows have theirs. -/
def big : Nat := 1000000
theorem inn_ex : ∃ (f : Nat → Nat → Nat) (a b : Nat → Nat), (∀ id p, id < big → a (f id p) = id ∧ b (f id p) = p) ∧ (∀ id p, ¬ f id p < big) ∧ ∀ k, ¬ k < big → k = f (a k) (b k) ∧ a k < big := by
  have hp : 0 < big := by decide
  generalize big = m at hp
  refine ⟨fun id p => m + (p * m + id), fun k => (k - m) % m, fun k => (k - m) / m, fun id p h => ⟨?_, ?_⟩, fun id p => (by show ¬ m + (p * m + id) < m; omega), fun k h => ⟨?_, Nat.mod_lt _ hp⟩⟩
  · show (m + (p * m + id) - m) % m = id
    rw [Nat.add_sub_cancel_left, Nat.add_comm, Nat.add_mul_mod_self_right, Nat.mod_eq_of_lt h]
  · show (m + (p * m + id) - m) / m = p
    rw [Nat.add_sub_cancel_left, Nat.add_comm, Nat.add_mul_div_right _ _ hp, Nat.div_eq_of_lt h, Nat.zero_add]
  · have := Nat.div_add_mod (k - m) m
    rw [Nat.mul_comm] at this
    show k = m + ((k - m) / m * m + (k - m) % m)
    omega
noncomputable def inn : Nat → Nat → Nat := inn_ex.choose
noncomputable def innA : Nat → Nat := inn_ex.choose_spec.choose
noncomputable def innB : Nat → Nat := inn_ex.choose_spec.choose_spec.choose
theorem inn_spec : (∀ id p, id < big → innA (inn id p) = id ∧ innB (inn id p) = p) ∧ (∀ id p, ¬ inn id p < big) ∧ ∀ k, ¬ k < big → k = inn (innA k) (innB k) ∧ innA k < big := inn_ex.choose_spec.choose_spec.choose_spec
def anyV : AV := .v (.one .any)
/-- What is known of a type. -/
structure Ti where
  und : TypeDesc
  size : Nat
  bytes : Nat
  zero : Value
def ti (P : Program) (t : Nat) : Option Ti :=
  match P.underlying t, P.info? t with
  | some d, some i => match i.zero with
    | some z => if 0 < i.size ∧ z.cells.size = i.size ∧ z.cells.all (·.oneCell') = true then some ⟨d, i.size, i.bytes, z⟩ else none
    | none => none
  | _, _ => none
def sz (P : Program) (t : Nat) : Nat := match ti P t with | some e => e.size | none => 1
theorem ti_spec {P : Program} {t : Nat} {e : Ti} (h : ti P t = some e) :
    P.underlying t = some e.und ∧ (∃ i, P.info? t = some i ∧ i.size = e.size ∧ i.bytes = e.bytes ∧ i.zero = some e.zero) ∧ 0 < e.size ∧ e.zero.cells.size = e.size ∧ e.zero.cells.all (·.oneCell') = true := by
  unfold ti at h
  split at h <;> try (cases h; done)
  rename_i d i h1 h2
  split at h <;> try (cases h; done)
  rename_i z hz
  split at h <;> try (cases h; done)
  rename_i hc
  injection h with h; subst h
  exact ⟨h1, ⟨i, h2, rfl, rfl, hz⟩, hc⟩
theorem sz_of {P : Program} {t : Nat} {e : Ti} (h : ti P t = some e) : sz P t = e.size := by unfold sz; rw [h]
theorem sz_pos (P : Program) (t : Nat) : 0 < sz P t := by
  unfold sz
  split
  · rename_i e h; exact (ti_spec h).2.2.1
  · omega
mutual
def gD (P : Program) (z : Nat → Option Obj) : D → Value → Prop
  | .int k n, v => v = .int k n
  | .bool b, v => v = .bool b
  | .str s, v => v = .string s
  | .list t n cs, v => ∃ Ad c, v = .slice Ad n c ∧ n ≤ c ∧ cs.length = n * sz P t ∧ (n = 0 ∨ ∃ b o arr ty fr, Ad = some ⟨b, o, none⟩ ∧ z b = some (.cells arr ty fr) ∧ gDs P z cs (arr.toList.drop o))
def gDs (P : Program) (z : Nat → Option Obj) : List D → List Value → Prop
  | [], _ => True
  | d :: ds, v :: vs => gD P z d v ∧ gDs P z ds vs
  | _ :: _, [] => False
end
/-- Where rows lie: their block, their first cell, the block's size; blocks that never change. -/
structure Kr where
  at_ : Nat → Option (Nat × Nat × Nat)
  z : Nat → Option Obj
structure Kr.le (κ κ' : Kr) : Prop where
  at_ : ∀ id x, κ.at_ id = some x → κ'.at_ id = some x
  z : ∀ b x, κ.z b = some x → κ'.z b = some x
theorem Kr.le.refl (κ : Kr) : κ.le κ := ⟨fun _ _ h => h, fun _ _ h => h⟩
theorem Kr.le.trans {a b c : Kr} (h : a.le b) (k : b.le c) : a.le c := ⟨fun _ _ hx => k.at_ _ _ (h.at_ _ _ hx), fun _ _ hx => k.z _ _ (h.z _ _ hx)⟩
section
variable {P : Program} {z z' : Nat → Option Obj}
mutual
theorem gD.mono (hz : ∀ b x, z b = some x → z' b = some x) : ∀ {d : D} {v : Value}, gD P z d v → gD P z' d v
  | .int .., _, h => by unfold gD at h ⊢; exact h
  | .bool .., _, h => by unfold gD at h ⊢; exact h
  | .str .., _, h => by unfold gD at h ⊢; exact h
  | .list .., _, h => by
    unfold gD at h ⊢
    obtain ⟨Ad, c, h1, h2, h3, h4⟩ := h
    exact ⟨Ad, c, h1, h2, h3, h4.imp id (fun ⟨b, o, arr, ty, fr, g1, g2, g3⟩ => ⟨b, o, arr, ty, fr, g1, hz _ _ g2, gDs.mono hz g3⟩)⟩
theorem gDs.mono (hz : ∀ b x, z b = some x → z' b = some x) : ∀ {ds : List D} {vs : List Value}, gDs P z ds vs → gDs P z' ds vs
  | [], _, h => by unfold gDs; trivial
  | _ :: _, _ :: _, h => by
    unfold gDs at h ⊢
    exact ⟨gD.mono hz h.1, gDs.mono hz h.2⟩
  | _ :: _, [], h => by unfold gDs at h; exact h.elim
end
theorem gDs.at : ∀ {ds : List D} {vs : List Value}, gDs P z ds vs → ∀ (j : Nat) (d : D), ds[j]? = some d → ∃ x, vs[j]? = some x ∧ gD P z d x
  | d :: ds, v :: vs, h, 0, d', hd => by
    unfold gDs at h
    simp at hd
    subst hd
    exact ⟨v, rfl, h.1⟩
  | d :: ds, v :: vs, h, j + 1, d', hd => by
    unfold gDs at h
    simpa using gDs.at h.2 j d' (by simpa using hd)
  | _ :: _, [], h, _, _, _ => by unfold gDs at h; exact h.elim
theorem gDs.of : ∀ {ds : List D} {vs : List Value}, (∀ (j : Nat) (d : D), ds[j]? = some d → ∃ x, vs[j]? = some x ∧ gD P z d x) → gDs P z ds vs
  | [], _, _ => by unfold gDs; trivial
  | d :: ds, [], h => by obtain ⟨x, hx, _⟩ := h 0 d rfl; simp at hx
  | d :: ds, v :: vs, h => by
    unfold gDs
    obtain ⟨x, hx, hg⟩ := h 0 d rfl
    simp at hx
    subst hx
    exact ⟨hg, gDs.of fun j d hd => by simpa using h (j + 1) d (by simpa using hd)⟩
theorem gD.one {d : D} {v : Value} (h : gD P z d v) : v.oneCell' = true := by
  cases d <;> unfold gD at h
  · rw [h]; rfl
  · rw [h]; rfl
  · rw [h]; rfl
  · obtain ⟨Ad, c, rfl, _⟩ := h; rfl
end
def gA (P : Program) (κ : Kr) : A → Value → Prop
  | .any, _ => True
  | .d x, v => gD P κ.z x v
  | .nil, v => v = .slice none 0 0
  | .sl t id off len, v => ∃ Ad c, v = .slice Ad len c ∧ len ≤ c ∧ ((len = 0 ∧ c = 0) ∨ ∃ b o N, κ.at_ id = some (b, o, N) ∧ Ad = some ⟨b, o + off * sz P t, none⟩ ∧ o + (off + c) * sz P t ≤ N)
  | .ptr id off, v => ∃ b o N, κ.at_ id = some (b, o, N) ∧ v = .pointer (some ⟨b, o + off, none⟩)
  | .pe t id i j, v => ∃ b o N, κ.at_ id = some (b, o, N) ∧ v = .pointer (some ⟨b, o + (i * sz P t + j), none⟩)
  | .rp t ds i j, v => ∃ b o arr ty fr, v = .pointer (some ⟨b, o + (i * sz P t + j), none⟩) ∧ κ.z b = some (.cells arr ty fr) ∧ gDs P κ.z ds (arr.toList.drop o)
  | .lit b, v => v = .bool b
  | .isl t id p n, v => ∃ Ad c, v = .slice Ad n c ∧ n ≤ c ∧ ((n = 0 ∧ c = 0) ∨ ∃ b o N, κ.at_ (inn id p) = some (b, o, N) ∧ Ad = some ⟨b, o + 0 * sz P t, none⟩ ∧ o + (0 + c) * sz P t ≤ N)
def gL (P : Program) (κ : Kr) : List A → List Value → Prop
  | [], [] => True
  | a :: l, v :: vs => gA P κ a v ∧ gL P κ l vs
  | _, _ => False
def gV1 (P : Program) (κ : Kr) : V1 → Value → Prop
  | .one a, v => gA P κ a v
  | .agg l, v => ∃ cs, v = .agg cs ∧ gL P κ l cs.toList
def gV1s (P : Program) (κ : Kr) : List V1 → List Value → Prop
  | [], [] => True
  | a :: l, v :: vs => gV1 P κ a v ∧ gV1s P κ l vs
  | _, _ => False
def gAV (P : Program) (κ : Kr) : AV → Value → Prop
  | .v x, v => gV1 P κ x v
  | .tup l, v => ∃ vs, v = .tuple vs ∧ gV1s P κ l vs.toList
section
variable {P : Program} {κ κ' : Kr}
theorem gA.mono (hle : κ.le κ') : ∀ {a : A} {v : Value}, gA P κ a v → gA P κ' a v
  | .any, _, _ => trivial
  | .d _, _, h => gD.mono hle.z h
  | .nil, _, h => h
  | .sl .., _, ⟨Ad, c, h1, h2, h3⟩ => ⟨Ad, c, h1, h2, h3.imp id (fun ⟨b, o, N, g1, g2⟩ => ⟨b, o, N, hle.at_ _ _ g1, g2⟩)⟩
  | .ptr .., _, ⟨b, o, N, h1, h2⟩ => ⟨b, o, N, hle.at_ _ _ h1, h2⟩
  | .pe .., _, ⟨b, o, N, h1, h2⟩ => ⟨b, o, N, hle.at_ _ _ h1, h2⟩
  | .rp .., _, ⟨b, o, arr, ty, fr, h1, h2, h3⟩ => ⟨b, o, arr, ty, fr, h1, hle.z _ _ h2, gDs.mono hle.z h3⟩
  | .lit _, _, h => h
  | .isl .., _, ⟨Ad, c, h1, h2, h3⟩ => ⟨Ad, c, h1, h2, h3.imp id (fun ⟨b, o, N, g1, g2⟩ => ⟨b, o, N, hle.at_ _ _ g1, g2⟩)⟩
theorem gL.mono (hle : κ.le κ') : ∀ {l : List A} {vs : List Value}, gL P κ l vs → gL P κ' l vs
  | [], [], _ => trivial
  | _ :: _, _ :: _, ⟨h1, h2⟩ => ⟨h1.mono hle, gL.mono hle h2⟩
theorem gV1.mono (hle : κ.le κ') : ∀ {x : V1} {v : Value}, gV1 P κ x v → gV1 P κ' x v
  | .one _, _, h => gA.mono hle h
  | .agg _, _, ⟨cs, h1, h2⟩ => ⟨cs, h1, h2.mono hle⟩
theorem gV1s.mono (hle : κ.le κ') : ∀ {l : List V1} {vs : List Value}, gV1s P κ l vs → gV1s P κ' l vs
  | [], [], _ => trivial
  | _ :: _, _ :: _, ⟨h1, h2⟩ => ⟨h1.mono hle, gV1s.mono hle h2⟩
theorem gAV.mono (hle : κ.le κ') : ∀ {x : AV} {v : Value}, gAV P κ x v → gAV P κ' x v
  | .v _, _, h => gV1.mono hle h
  | .tup _, _, ⟨cs, h1, h2⟩ => ⟨cs, h1, h2.mono hle⟩
theorem gL.len : ∀ {l : List A} {vs : List Value}, gL P κ l vs → l.length = vs.length
  | [], [], _ => rfl
  | _ :: _, _ :: _, ⟨_, h2⟩ => by simp [gL.len h2]
theorem gL.at : ∀ {l : List A} {vs : List Value} {i : Nat} {a : A}, gL P κ l vs → l[i]? = some a → ∃ v, vs[i]? = some v ∧ gA P κ a v
  | _ :: _, v :: _, 0, _, ⟨h1, _⟩, ha => by simp at ha; subst ha; exact ⟨v, rfl, h1⟩
  | _ :: _, _ :: _, i + 1, _, ⟨_, h2⟩, ha => by simpa using gL.at h2 (by simpa using ha)
theorem gL.of : ∀ {l : List A} {vs : List Value}, l.length = vs.length → (∀ (i : Nat) (a : A), l[i]? = some a → ∃ v, vs[i]? = some v ∧ gA P κ a v) → gL P κ l vs
  | [], [], _, _ => trivial
  | a :: l, v :: vs, hl, h => by
    obtain ⟨x, h1, h2⟩ := h 0 a rfl
    simp at h1
    subst h1
    exact ⟨h2, gL.of (by simpa using hl) fun i a ha => by simpa using h (i + 1) a (by simpa using ha)⟩
  | [], _ :: _, hl, _ => by simp at hl
  | _ :: _, [], hl, _ => by simp at hl
theorem gL.append : ∀ {a b : List A} {x y : List Value}, gL P κ a x → gL P κ b y → gL P κ (a ++ b) (x ++ y)
  | [], _, [], _, _, h => h
  | _ :: _, _, _ :: _, _, ⟨h1, h2⟩, h => ⟨h1, gL.append h2 h⟩
theorem gL.take : ∀ {a : List A} {x : List Value} (n : Nat), gL P κ a x → gL P κ (a.take n) (x.take n)
  | [], [], n, _ => by simp; trivial
  | _ :: _, _ :: _, 0, _ => trivial
  | _ :: _, _ :: _, n + 1, ⟨h1, h2⟩ => ⟨h1, gL.take n h2⟩
theorem gL.drop : ∀ {a : List A} {x : List Value} (n : Nat), gL P κ a x → gL P κ (a.drop n) (x.drop n)
  | [], [], n, _ => by simp; trivial
  | _ :: _, _ :: _, 0, h => h
  | _ :: _, _ :: _, n + 1, ⟨h1, h2⟩ => gL.drop n h2
theorem gV1s.at : ∀ {l : List V1} {vs : List Value} {i : Nat} {a : V1}, gV1s P κ l vs → l[i]? = some a → ∃ v, vs[i]? = some v ∧ gV1 P κ a v
  | _ :: _, v :: _, 0, _, ⟨h1, _⟩, ha => by simp at ha; subst ha; exact ⟨v, rfl, h1⟩
  | _ :: _, _ :: _, i + 1, _, ⟨_, h2⟩, ha => by simpa using gV1s.at h2 (by simpa using ha)
theorem gV1s.len : ∀ {l : List V1} {vs : List Value}, gV1s P κ l vs → l.length = vs.length
  | [], [], _ => rfl
  | _ :: _, _ :: _, ⟨_, h2⟩ => by simp [gV1s.len h2]
end
/-- Something is known of it. -/
def A.known : A → Bool
  | .any => false
  | _ => true
theorem gA.one {P : Program} {κ : Kr} {a : A} {v : Value} (ha : a.known = true) (h : gA P κ a v) : v.oneCell' = true := by
  cases a with
  | any => cases ha
  | d x => exact gD.one h
  | nil => rw [show v = _ from h]; rfl
  | sl => obtain ⟨Ad, c, rfl, _⟩ := h; rfl
  | ptr => obtain ⟨b, o, N, _, rfl⟩ := h; rfl
  | pe => obtain ⟨b, o, N, _, rfl⟩ := h; rfl
  | rp => obtain ⟨b, o, arr, ty, fr, rfl, _⟩ := h; rfl
  | lit b => obtain rfl := h; rfl
  | isl => obtain ⟨Ad, c, rfl, _⟩ := h; rfl
theorem gL.ones {P : Program} {κ : Kr} {l : List A} {vs : List Value} (hl : l.all A.known = true) (h : gL P κ l vs) : ∀ v ∈ vs, v.oneCell' = true := by
  intro v hv
  obtain ⟨i, hi, rfl⟩ := List.getElem_of_mem hv
  have h1 : i < l.length := by rw [h.len]; exact hi
  obtain ⟨v', h2, h3⟩ := h.at (i := i) (List.getElem?_eq_getElem h1)
  rw [List.getElem?_eq_getElem hi] at h2
  injection h2 with h2
  rw [h2]
  exact gA.one (List.all_eq_true.mp hl _ (List.getElem_mem h1)) h3
/-- A row of the call's own, as it lies in memory. -/
def RowIn (P : Program) (κ : Kr) (w : World) (id : Nat) (row : Row) : Prop :=
  (κ.at_ id = none ∧ row.as = []) ∨ ∃ b o N arr, κ.at_ id = some (b, o, N) ∧ κ.z b = none ∧ w.heap[b]? = some (.cells arr row.t (0, 0)) ∧ arr.size = N ∧ o + row.as.length ≤ N ∧
    ∀ (j : Nat) (a : A), row.as[j]? = some a → ∃ x, arr[o + j]? = some x ∧ gA P κ a x
abbrev Cs := Nat → Option Row
/-- Where a call began: its world, and what of it is known to stay. -/
structure Bs where
  w : World
  zz : Nat → Option Obj
  bs : List (Option (Nat × Nat × Nat))
  nm : Nat → Nat := fun i => i
  /-- Names of lists within cells that are in use from the start and lie nowhere. -/
  pn : Nat → Prop := fun _ => False
/-- The blocks of lists. -/
def blocks (bs : List (Option (Nat × Nat × Nat))) : List Nat := bs.filterMap (fun o => o.map (·.1))
abbrev Bs.heap (b : Bs) : Array Obj := b.w.heap
/-- A world in which all is as said. -/
structure Inv (P : Program) (w0 : Bs) (κ : Kr) (C : Cs) (w : World) : Prop where
  os : w.os = w0.w.os
  tape : w.tape = w0.w.tape
  output : w.output = w0.w.output
  size : w0.heap.size ≤ w.heap.size
  base : ∀ b, b < w0.heap.size → b ∉ blocks w0.bs → w.heap[b]? = w0.heap[b]? ∧ ∀ x, κ.z b = some x → w0.zz b = some x
  z : ∀ b x, κ.z b = some x → w.heap[b]? = some x
  live : ∀ id row, C id = some row → RowIn P κ w id row
  apart : ∀ id id' row row' b o N o' N', C id = some row → C id' = some row' → κ.at_ id = some (b, o, N) → κ.at_ id' = some (b, o', N') → id = id'
  own : ∀ id row b o N, C id = some row → κ.at_ id = some (b, o, N) → w0.heap.size ≤ b ∨ b ∈ blocks w0.bs
/-- Fewer rows are spoken of. -/
theorem Inv.less {P : Program} {w0 : Bs} {κ : Kr} {C C' : Cs} {w : World} (h : Inv P w0 κ C w) (hc : ∀ id row, C' id = some row → C id = some row) : Inv P w0 κ C' w :=
  ⟨h.os, h.tape, h.output, h.size, h.base, h.z, fun id row hr => h.live id row (hc id row hr), fun id id' row row' b o N o' N' h1 h2 => h.apart id id' row row' b o N o' N' (hc _ _ h1) (hc _ _ h2), fun id row b o N h1 => h.own id row b o N (hc _ _ h1)⟩
theorem Inv.drew {P : Program} {w0 : Bs} {κ : Kr} {C : Cs} {w : World} (h : Inv P w0 κ C w) : Inv P w0 κ C w.drew :=
  ⟨h.os, h.tape, h.output, h.size, h.base, h.z, h.live, h.apart, h.own⟩
/-- What changes of the rows. -/
abbrev Us := List (Nat × Option Row)
def upd (C : Cs) (us : Us) : Cs := us.foldl (fun C p => fun id => if id = p.1 then p.2 else C id) C
def Kr.put (κ : Kr) (id : Nat) (x : Nat × Nat × Nat) : Kr := ⟨fun k => if k = id then some x else κ.at_ k, κ.z⟩
theorem Kr.le_put {κ : Kr} {id : Nat} {x : Nat × Nat × Nat} (h : κ.at_ id = none) : κ.le (κ.put id x) :=
  ⟨fun k y hy => by
    unfold Kr.put
    simp only
    split
    · rename_i e; subst e; rw [h] at hy; cases hy
    · exact hy, fun _ _ hx => hx⟩
section
variable {P : Program} {w0 : Bs} {κ : Kr} {C : Cs} {w : World}
theorem block_of {w : World} {b : Nat} {x : Obj} (h : w.heap[b]? = some x) : b < w.heap.size := (Array.getElem?_eq_some_iff.mp h).1
theorem Inv.zlt (h : Inv P w0 κ C w) {b : Nat} {x : Obj} (hx : κ.z b = some x) : b < w.heap.size := block_of (h.z b x hx)
theorem Inv.atlt (h : Inv P w0 κ C w) {id b o N : Nat} {row : Row} (hr : C id = some row) (ha : κ.at_ id = some (b, o, N)) : b < w.heap.size := by
  rcases h.live id row hr with ⟨h1, _⟩ | ⟨b', o', N', arr, h1, _, h2, _⟩
  · rw [h1] at ha; cases ha
  · rw [h1] at ha
    injection ha with ha
    injection ha with ha _
    subst ha
    exact block_of h2
/-- A row more, in a new block. -/
theorem Inv.alloc (h : Inv P w0 κ C w) {id : Nat} (hC : C id = none) (hA : κ.at_ id = none) (row : Row) (arr : Array Value) (hlen : row.as.length ≤ arr.size)
    (hr : ∀ (j : Nat) (a : A), row.as[j]? = some a → ∃ x, arr[j]? = some x ∧ gA P κ a x) :
    κ.le (κ.put id (w.heap.size, 0, arr.size)) ∧ Inv P w0 (κ.put id (w.heap.size, 0, arr.size)) (upd C [(id, some row)]) (w.alloc (.cells arr row.t)) := by
  have hle : κ.le (κ.put id (w.heap.size, 0, arr.size)) := Kr.le_put hA
  have old : ∀ b, b < w.heap.size → (w.alloc (.cells arr row.t)).heap[b]? = w.heap[b]? := fun b hb => Below.heap_alloc w _ b hb
  refine ⟨hle, h.os, h.tape, h.output, by have := h.size; simp; omega, fun b hb hW => ⟨(old b (Nat.lt_of_lt_of_le hb h.size)).trans (h.base b hb hW).1, (h.base b hb hW).2⟩, fun b x hx => ?_, fun k r hk => ?_, fun k k' r r' b o N o' N' h1 h2 h3 h4 => ?_, fun k r b o N h1 h3 => ?_⟩
  · have hx' : κ.z b = some x := hx
    rw [old b (h.zlt hx')]; exact h.z b x hx'
  · simp only [upd, List.foldl] at hk
    split at hk
    · rename_i e
      subst e
      injection hk with hk; subst hk
      refine .inr ⟨w.heap.size, 0, arr.size, arr, by simp [Kr.put], ?_, by show (w.heap.push _)[_]? = _; simp, rfl, by omega, fun j a ha => ?_⟩
      · show κ.z _ = none
        cases hz : κ.z w.heap.size with
        | none => rfl
        | some x => have := h.zlt hz; omega
      · obtain ⟨x, h1, h2⟩ := hr j a ha
        exact ⟨x, by simpa using h1, h2.mono hle⟩
    · rename_i hne
      rcases h.live k r hk with ⟨h1, h2⟩ | ⟨b, o, N, ar, h1, h2, h3, h4, h5, h6⟩
      · exact .inl ⟨by unfold Kr.put; simp only; rw [if_neg hne]; exact h1, h2⟩
      · refine .inr ⟨b, o, N, ar, hle.at_ _ _ h1, h2, by rw [old b (block_of h3)]; exact h3, h4, h5, fun j a ha => ?_⟩
        obtain ⟨x, g1, g2⟩ := h6 j a ha
        exact ⟨x, g1, g2.mono hle⟩
  · simp only [upd, List.foldl] at h1 h2
    have key : ∀ k r, (if k = id then some row else C k) = some r → k ≠ id → C k = some r := fun k r hk hne => by rwa [if_neg hne] at hk
    have fresh : ∀ k r b o N, C k = some r → κ.at_ k = some (b, o, N) → b ≠ w.heap.size := fun k r b o N hk ha e => by have := h.atlt hk ha; omega
    by_cases e1 : k = id <;> by_cases e2 : k' = id
    · rw [e1, e2]
    · exfalso
      have g2 := key k' r' h2 e2
      unfold Kr.put at h3 h4
      simp only [if_pos e1, if_neg e2] at h3 h4
      injection h3 with h3; injection h3 with h3 _
      exact fresh k' r' b o' N' g2 h4 h3.symm
    · exfalso
      have g1 := key k r h1 e1
      unfold Kr.put at h3 h4
      simp only [if_neg e1, if_pos e2] at h3 h4
      injection h4 with h4; injection h4 with h4 _
      exact fresh k r b o N g1 h3 h4.symm
    · have g1 := key k r h1 e1
      have g2 := key k' r' h2 e2
      unfold Kr.put at h3 h4
      simp only [if_neg e1, if_neg e2] at h3 h4
      exact h.apart k k' r r' b o N o' N' g1 g2 h3 h4
  · simp only [upd, List.foldl] at h1
    unfold Kr.put at h3
    simp only at h3
    split at h1
    · rename_i e
      rw [if_pos e] at h3
      injection h3 with h3; injection h3 with h3 _
      exact .inl (by have := h.size; omega)
    · rename_i e
      rw [if_neg e] at h3
      exact h.own k r b o N h1 h3
/-- The cells of a row's block change; the row is gone, and another one may lie in its block. -/
theorem Inv.reuse (h : Inv P w0 κ C w) {id b o N : Nat} {row : Row} (hr : C id = some row) (ha : κ.at_ id = some (b, o, N)) (arr' : Array Value) (hsz : arr'.size = N)
    (id' : Nat) (o' : Nat) (row' : Row) (hid : id' = id ∧ o' = o ∨ C id' = none ∧ κ.at_ id' = none) (hty : row'.t = row.t) (hlen : o' + row'.as.length ≤ N)
    (hcs : ∀ (j : Nat) (a : A), row'.as[j]? = some a → ∃ x, arr'[o' + j]? = some x ∧ gA P κ a x) (w' : World) (hw : w'.os = w.os ∧ w'.tape = w.tape ∧ w'.output = w.output ∧ w'.heap.size = w.heap.size)
    (hx : w'.heap[b]? = some (.cells arr' row.t (0, 0))) (ho : ∀ k, k ≠ b → w'.heap[k]? = w.heap[k]?) :
    ∃ κ', κ.le κ' ∧ κ'.at_ id' = some (b, o', N) ∧ (∀ k, k ≠ id' → κ'.at_ k = κ.at_ k) ∧ κ'.z = κ.z ∧ Inv P w0 κ' (upd C [(id, none), (id', some row')]) w' := by
  have hzb : κ.z b = none := by
    rcases h.live id row hr with ⟨h1, _⟩ | ⟨b2, o2, N2, arr, h1, h2, _⟩
    · rw [h1] at ha; cases ha
    · rw [h1] at ha
      injection ha with ha
      injection ha with ha _
      subst ha; exact h2
  have hκ : ∃ κ' : Kr, κ.le κ' ∧ κ'.at_ id' = some (b, o', N) ∧ (∀ k, k ≠ id' → κ'.at_ k = κ.at_ k) ∧ κ'.z = κ.z := by
    rcases hid with ⟨rfl, rfl⟩ | ⟨_, h2⟩
    · exact ⟨κ, Kr.le.refl κ, ha, fun _ _ => rfl, rfl⟩
    · exact ⟨κ.put id' (b, o', N), Kr.le_put h2, by simp [Kr.put], fun k hk => by unfold Kr.put; simp only; rw [if_neg hk], rfl⟩
  obtain ⟨κ', hle, k1, k2, k3⟩ := hκ
  refine ⟨κ', hle, k1, k2, k3, hw.1.trans h.os, hw.2.1.trans h.tape, hw.2.2.1.trans h.output, by rw [hw.2.2.2]; exact h.size, fun k hk hW => by rw [k3, ho k (fun e => by subst e; rcases h.own id row k o N hr ha with h9 | h9 <;> first | omega | exact hW h9)]; exact h.base k hk hW, fun k x hk => ?_, fun k r hk => ?_, fun k k' r r' b1 o1 N1 o2 N2 h1 h2 h3 h4 => ?_, fun k r b1 o1 N1 h1 h3 => ?_⟩
  · rw [k3] at hk
    rw [ho k (fun e => by rw [e, hzb] at hk; cases hk)]; exact h.z k x hk
  · simp only [upd, List.foldl] at hk
    split at hk
    · rename_i e
      subst e
      injection hk with hk; subst hk
      refine .inr ⟨b, o', N, arr', k1, by rw [k3]; exact hzb, by rw [hty]; exact hx, hsz, hlen, fun j a hj => ?_⟩
      obtain ⟨x, g1, g2⟩ := hcs j a hj
      exact ⟨x, g1, g2.mono hle⟩
    · rename_i hne
      split at hk
      · cases hk
      · rename_i hne2
        rcases h.live k r hk with ⟨h1, h2⟩ | ⟨b1, o1, N1, ar, h1, h2, h3, h4, h5, h6⟩
        · exact .inl ⟨by rw [k2 k hne]; exact h1, h2⟩
        · have hb : b1 ≠ b := fun e => by
            subst e
            exact hne2 (h.apart k id r row b1 o1 N1 o N hk hr h1 ha)
          refine .inr ⟨b1, o1, N1, ar, hle.at_ _ _ h1, by rw [k3]; exact h2, by rw [ho b1 hb]; exact h3, h4, h5, fun j a hj => ?_⟩
          obtain ⟨x, g1, g2⟩ := h6 j a hj
          exact ⟨x, g1, g2.mono hle⟩
  · simp only [upd, List.foldl] at h1 h2
    have key : ∀ k r, (if k = id' then some row' else if k = id then none else C k) = some r → k ≠ id' → k ≠ id ∧ C k = some r := fun k r hk hne => by
      rw [if_neg hne] at hk
      split at hk
      · cases hk
      · rename_i hne2; exact ⟨hne2, hk⟩
    by_cases e1 : k = id' <;> by_cases e2 : k' = id'
    · rw [e1, e2]
    · exfalso
      obtain ⟨g1, g2⟩ := key k' r' h2 e2
      rw [e1, k1] at h3
      rw [k2 k' e2] at h4
      injection h3 with h3; injection h3 with h3 _
      subst h3
      exact g1 (h.apart k' id r' row b o2 N2 o N g2 hr h4 ha)
    · exfalso
      obtain ⟨g1, g2⟩ := key k r h1 e1
      rw [e2, k1] at h4
      rw [k2 k e1] at h3
      injection h4 with h4; injection h4 with h4 _
      subst h4
      exact g1 (h.apart k id r row b o1 N1 o N g2 hr h3 ha)
    · obtain ⟨_, g2⟩ := key k r h1 e1
      obtain ⟨_, g3⟩ := key k' r' h2 e2
      rw [k2 k e1] at h3
      rw [k2 k' e2] at h4
      exact h.apart k k' r r' b1 o1 N1 o2 N2 g2 g3 h3 h4
  · simp only [upd, List.foldl] at h1
    split at h1
    · rename_i e
      subst e
      rw [k1] at h3
      injection h3 with h3; injection h3 with h3 _
      subst h3
      exact h.own id row b o N hr ha
    · rename_i e
      split at h1
      · cases h1
      rw [k2 k e] at h3
      exact h.own k r b1 o1 N1 h1 h3
/-- A row that never changes from here on. -/
theorem Inv.freeze (h : Inv P w0 κ C w) {id b o N : Nat} {row : Row} (hr : C id = some row) (ha : κ.at_ id = some (b, o, N)) :
    ∃ κ' arr, κ.le κ' ∧ κ'.at_ = κ.at_ ∧ w.heap[b]? = some (.cells arr row.t (0, 0)) ∧ κ'.z b = some (.cells arr row.t (0, 0)) ∧ (∀ (j : Nat) (a : A), row.as[j]? = some a → ∃ x, arr[o + j]? = some x ∧ gA P κ a x) ∧ o + row.as.length ≤ arr.size ∧ Inv P w0 κ' (upd C [(id, none)]) w := by
  rcases h.live id row hr with ⟨h1, _⟩ | ⟨b2, o2, N2, arr, h1, h2, h3, h4, h5, h6⟩
  · rw [h1] at ha; cases ha
  rw [h1] at ha
  injection ha with ha
  injection ha with e1 e2
  injection e2 with e2 e3
  subst e1; subst e2; subst e3
  have hle : κ.le ⟨κ.at_, fun k => if k = b2 then some (.cells arr row.t (0, 0)) else κ.z k⟩ := ⟨fun _ _ hx => hx, fun k x hx => by
    simp only
    split
    · rename_i e; subst e; rw [h2] at hx; cases hx
    · exact hx⟩
  refine ⟨_, arr, hle, rfl, h3, by simp, h6, by omega, h.os, h.tape, h.output, h.size, fun k hk hW => ⟨(h.base k hk hW).1, fun x hx => ?_⟩, fun k x hk => ?_, fun k r hk => ?_, fun k k' r r' b1 o1 N1 o2 N2 h1 h2 h3 h4 => ?_, fun k r b1 o1 N1 h1 h3 => ?_⟩
  · simp only at hx
    split at hx
    · rename_i e
      subst e
      rcases h.own id row k o2 N2 hr h1 with h9 | h9
      · omega
      · exact absurd h9 hW
    · exact (h.base k hk hW).2 x hx
  · simp only at hk
    split at hk
    · rename_i e
      subst e
      injection hk with hk; subst hk; exact h3
    · exact h.z k x hk
  · simp only [upd, List.foldl] at hk
    split at hk
    · cases hk
    · rename_i hne
      rcases h.live k r hk with ⟨g1, g2⟩ | ⟨b1, o1, N1, ar, g1, g2, g3, g4, g5, g6⟩
      · exact .inl ⟨g1, g2⟩
      · have hb : b1 ≠ b2 := fun e => by
          subst e
          exact hne (h.apart k id r row b1 o1 N1 o2 N2 hk hr g1 h1)
        refine .inr ⟨b1, o1, N1, ar, g1, by simp only; rw [if_neg hb]; exact g2, g3, g4, g5, fun j a hj => ?_⟩
        obtain ⟨x, q1, q2⟩ := g6 j a hj
        exact ⟨x, q1, q2.mono hle⟩
  · simp only [upd, List.foldl] at h1 h2
    split at h1
    · cases h1
    split at h2
    · cases h2
    exact h.apart k k' r r' b1 o1 N1 o2 N2 h1 h2 h3 h4
  · simp only [upd, List.foldl] at h1
    split at h1
    · cases h1
    exact h.own k r b1 o1 N1 h1 h3
end
end Go.Proofs.Ytjleempapphlhab.Mini
end
