/- Parts of the proof: Typ1. -/
import Derived.WalkKit
import Derived.OwnWalk
import Derived.Deep.Draws
import Derived.Below
import Derived.Laws.Append
import Derived.Laws.AppendOwn
import Derived.Laws.IdiomStrings
import Derived.Laws.MakeOwn
section
namespace Go.Proofs.Ytjleempapphlhab.Typ
open Go Go.RowKit
set_option linter.unusedVariables false
/-- What a cell may hold. -/
inductive At where
  | any
  | int (k : IntKind) (lo hi : Int)
  | bool (o : Option Bool)
  | str (m : Nat)
  | nil
  | slice (t : Nat) (lo hi : Nat)
  | sliceQ (t k : Nat)
  | ptr (t : Nat) (off : Nat)
  | rd
  | code
  deriving DecidableEq, Inhabited
/-- What a temporary may hold. -/
inductive V1 where
  | one (a : At)
  | agg (l : List At)
  deriving DecidableEq, Inhabited
inductive AV where
  | v (x : V1)
  | tup (l : List V1)
  deriving DecidableEq, Inhabited
/-- What is known of a type. -/
structure TI where
  und : TypeDesc
  size : Nat
  bytes : Nat
  zero : Value
  cells : List At
abbrev Tab := Nat → Option TI
def Tab.get (T : Tab) (t : Nat) : Option TI := T t
/-- A row's type may say more than the program's type of its cells: t + 1000 * k. -/
def real (t : Nat) : Nat := t % 1000
def Tab.getR (T : Tab) (t : Nat) : Option TI := if real t = t then T t else none
/-- Which rows there are, of which type, how long; where readers are; how long lists may be that lie in rows. -/
structure Kr where
  Γ : Nat → Option (Nat × Nat)
  G : Nat → Prop
  c : Nat
/-- What does not change. -/
structure Env where
  P : Program
  T : Tab
  w0 : World
  cv : Value
  Rd : World → Nat → Nat → Prop
def Env.sz (E : Env) (t : Nat) : Nat := match E.T.get t with | some e => e.size | none => 1
def Env.cells (E : Env) (t : Nat) : List At := match E.T.get t with | some e => e.cells | none => []
def gAt (E : Env) (κ : Kr) : At → Value → Prop
  | .any, _ => True
  | .int k lo hi, v => ∃ n, v = .int k n ∧ lo ≤ n ∧ n ≤ hi
  | .bool o, v => ∃ b, v = .bool b ∧ (o = none ∨ o = some b)
  | .str m, v => ∃ s : ByteArray, v = .string s ∧ s.size ≤ m
  | .nil, v => v = .slice none 0 0
  | .slice t lo hi, v => ∃ A n c, v = .slice A n c ∧ lo ≤ n ∧ n ≤ hi ∧ n ≤ c ∧ ((A = none ∧ c = 0) ∨ ∃ b k N, A = some ⟨b, k * E.sz t, none⟩ ∧ κ.Γ b = some (t, N) ∧ k + c ≤ N)
  | .sliceQ t d, v => ∃ A n c, v = .slice A n c ∧ n ≤ κ.c + d ∧ n ≤ c ∧ ((A = none ∧ c = 0) ∨ ∃ b k N, A = some ⟨b, k * E.sz t, none⟩ ∧ κ.Γ b = some (t, N) ∧ k + c ≤ N)
  | .ptr t off, v => ∃ b k N, v = .pointer (some ⟨b, k * E.sz t + off, none⟩) ∧ κ.Γ b = some (t, N) ∧ k < N ∧ off < E.sz t
  | .rd, v => ∃ g, κ.G g ∧ v = .pointer (some ⟨g, 0, none⟩)
  | .code, v => v = E.cv
def gList (E : Env) (κ : Kr) : List At → List Value → Prop
  | [], [] => True
  | a :: l, v :: vs => gAt E κ a v ∧ gList E κ l vs
  | _, _ => False
def gV1 (E : Env) (κ : Kr) : V1 → Value → Prop
  | .one a, v => gAt E κ a v
  | .agg l, v => ∃ cs, v = .agg cs ∧ gList E κ l cs.toList
def gV1s (E : Env) (κ : Kr) : List V1 → List Value → Prop
  | [], [] => True
  | a :: l, v :: vs => gV1 E κ a v ∧ gV1s E κ l vs
  | _, _ => False
def gAV (E : Env) (κ : Kr) : AV → Value → Prop
  | .v x, v => gV1 E κ x v
  | .tup l, v => ∃ vs, v = .tuple vs ∧ gV1s E κ l vs.toList
structure Kr.le (κ κ' : Kr) : Prop where
  Γ : ∀ b x, κ.Γ b = some x → κ'.Γ b = some x
  G : ∀ g, κ.G g → κ'.G g
  c : κ.c ≤ κ'.c
theorem Kr.le.refl (κ : Kr) : κ.le κ := ⟨fun _ _ h => h, fun _ h => h, Nat.le_refl _⟩
theorem Kr.le.trans {a b c : Kr} (h : a.le b) (k : b.le c) : a.le c := ⟨fun b x hx => k.Γ b x (h.Γ b x hx), fun g hg => k.G g (h.G g hg), Nat.le_trans h.c k.c⟩
section
variable {E : Env} {κ κ' : Kr}
theorem gAt.mono (hle : κ.le κ') : ∀ {a : At} {v : Value}, gAt E κ a v → gAt E κ' a v
  | .any, _, _ => trivial
  | .int .., _, h => h
  | .bool _, _, h => h
  | .str _, _, h => h
  | .nil, _, h => h
  | .slice .., _, ⟨A, n, c, h1, h2, h3, h4, h5⟩ => ⟨A, n, c, h1, h2, h3, h4, h5.imp id (fun ⟨b, k, N, h6, h7, h8⟩ => ⟨b, k, N, h6, hle.Γ _ _ h7, h8⟩)⟩
  | .sliceQ .., _, ⟨A, n, c, h1, h2, h3, h4⟩ => ⟨A, n, c, h1, Nat.le_trans h2 (Nat.add_le_add_right hle.c _), h3, h4.imp id (fun ⟨b, k, N, h6, h7, h8⟩ => ⟨b, k, N, h6, hle.Γ _ _ h7, h8⟩)⟩
  | .ptr .., _, ⟨b, k, N, h1, h2, h3, h4⟩ => ⟨b, k, N, h1, hle.Γ _ _ h2, h3, h4⟩
  | .rd, _, ⟨g, h1, h2⟩ => ⟨g, hle.G _ h1, h2⟩
  | .code, _, h => h
theorem gList.mono (hle : κ.le κ') : ∀ {l : List At} {vs : List Value}, gList E κ l vs → gList E κ' l vs
  | [], [], _ => trivial
  | _ :: _, _ :: _, ⟨h1, h2⟩ => ⟨h1.mono hle, gList.mono hle h2⟩
theorem gV1.mono (hle : κ.le κ') : ∀ {x : V1} {v : Value}, gV1 E κ x v → gV1 E κ' x v
  | .one _, _, h => gAt.mono hle h
  | .agg _, _, ⟨cs, h1, h2⟩ => ⟨cs, h1, h2.mono hle⟩
theorem gV1s.mono (hle : κ.le κ') : ∀ {l : List V1} {vs : List Value}, gV1s E κ l vs → gV1s E κ' l vs
  | [], [], _ => trivial
  | _ :: _, _ :: _, ⟨h1, h2⟩ => ⟨h1.mono hle, gV1s.mono hle h2⟩
theorem gAV.mono (hle : κ.le κ') : ∀ {x : AV} {v : Value}, gAV E κ x v → gAV E κ' x v
  | .v _, _, h => gV1.mono hle h
  | .tup _, _, ⟨cs, h1, h2⟩ => ⟨cs, h1, h2.mono hle⟩
theorem gList.len : ∀ {l : List At} {vs : List Value}, gList E κ l vs → l.length = vs.length
  | [], [], _ => rfl
  | _ :: _, _ :: _, ⟨_, h2⟩ => by simp [gList.len h2]
theorem gList.at : ∀ {l : List At} {vs : List Value} {i : Nat} {a : At} {v : Value}, gList E κ l vs → l[i]? = some a → vs[i]? = some v → gAt E κ a v
  | _ :: _, _ :: _, 0, _, _, ⟨h1, _⟩, ha, hv => by simp at ha hv; subst ha; subst hv; exact h1
  | _ :: _, _ :: _, i + 1, _, _, ⟨_, h2⟩, ha, hv => gList.at h2 (by simpa using ha) (by simpa using hv)
theorem gList.of : ∀ {l : List At} {vs : List Value}, l.length = vs.length → (∀ (i : Nat) (a : At) (v : Value), l[i]? = some a → vs[i]? = some v → gAt E κ a v) → gList E κ l vs
  | [], [], _, _ => trivial
  | a :: l, v :: vs, hl, h => ⟨h 0 a v rfl rfl, gList.of (by simpa using hl) (fun i a v ha hv => h (i + 1) a v (by simpa using ha) (by simpa using hv))⟩
  | [], _ :: _, hl, _ => by simp at hl
  | _ :: _, [], hl, _ => by simp at hl
theorem gV1s.at : ∀ {l : List V1} {vs : List Value} {i : Nat} {a : V1}, gV1s E κ l vs → l[i]? = some a → ∃ v, vs[i]? = some v ∧ gV1 E κ a v
  | _ :: _, v :: _, 0, _, ⟨h1, _⟩, ha => by simp at ha; subst ha; exact ⟨v, rfl, h1⟩
  | _ :: _, _ :: _, i + 1, _, ⟨_, h2⟩, ha => by simpa using gV1s.at h2 (by simpa using ha)
end
/-- a says more than b. -/
def At.leq : At → At → Bool
  | _, .any => true
  | .int k lo hi, .int k' lo' hi' => k == k' && decide (lo' ≤ lo) && decide (hi ≤ hi')
  | .bool o, .bool o' => o' == none || o == o'
  | .str m, .str m' => decide (m ≤ m')
  | .nil, .nil => true
  | .nil, .slice _ lo _ => lo == 0
  | .slice t lo hi, .slice t' lo' hi' => t == t' && decide (lo' ≤ lo) && decide (hi ≤ hi')
  | .nil, .sliceQ _ _ => true
  | .slice t _ hi, .sliceQ t' d => t == t' && decide (hi ≤ d)
  | .sliceQ t d, .sliceQ t' d' => t == t' && decide (d ≤ d')
  | .ptr t o, .ptr t' o' => t == t' && o == o'
  | .rd, .rd => true
  | .code, .code => true
  | _, _ => false
def At.join (a b : At) : At :=
  if a.leq b then b else if b.leq a then a else match a, b with
  | .int k lo hi, .int k' lo' hi' => if k == k' then .int k (min lo lo') (max hi hi') else .any
  | .bool _, .bool _ => .bool none
  | .nil, .slice t _ hi => .slice t 0 hi
  | .slice t _ hi, .nil => .slice t 0 hi
  | .slice t lo hi, .slice t' lo' hi' => if t == t' then .slice t (min lo lo') (max hi hi') else .any
  | .sliceQ t d, .slice t' _ hi => if t == t' then .sliceQ t (max d hi) else .any
  | .slice t _ hi, .sliceQ t' d => if t == t' then .sliceQ t (max d hi) else .any
  | _, _ => .any
def leqs : List At → List At → Bool
  | [], [] => true
  | a :: l, b :: m => a.leq b && leqs l m
  | _, _ => false
def V1.leq : V1 → V1 → Bool
  | _, .one .any => true
  | .one a, .one b => a.leq b
  | .agg l, .agg m => leqs l m
  | _, _ => false
def V1.join : V1 → V1 → V1
  | .one a, .one b => .one (a.join b)
  | .agg l, .agg m => if l.length == m.length then .agg (l.zipWith At.join m) else .one .any
  | _, _ => .one .any
def AV.join : AV → AV → AV
  | .v x, .v y => .v (x.join y)
  | .tup l, .tup m => if l.length == m.length then .tup (l.zipWith V1.join m) else .v (.one .any)
  | _, _ => .v (.one .any)
section
variable {E : Env} {κ : Kr}
theorem gAt.leq {a b : At} {v : Value} (h : a.leq b = true) (hg : gAt E κ a v) : gAt E κ b v := by
  cases b with
  | any => trivial
  | int k lo hi =>
    cases a <;> simp [At.leq] at h
    obtain ⟨⟨rfl, h1⟩, h2⟩ := h
    obtain ⟨n, rfl, h3, h4⟩ := hg
    exact ⟨n, rfl, by omega, by omega⟩
  | bool o =>
    cases a <;> simp [At.leq] at h
    obtain ⟨b, rfl, h1⟩ := hg
    rcases h with rfl | rfl
    · exact ⟨b, rfl, .inl rfl⟩
    · exact ⟨b, rfl, h1⟩
  | str m =>
    cases a <;> simp [At.leq] at h
    obtain ⟨s, rfl, h1⟩ := hg
    exact ⟨s, rfl, by omega⟩
  | nil => cases a <;> simp [At.leq] at h; exact hg
  | slice t lo hi =>
    cases a <;> simp [At.leq] at h
    · subst h
      exact ⟨none, 0, 0, hg, Nat.le_refl _, Nat.zero_le _, Nat.le_refl _, .inl ⟨rfl, rfl⟩⟩
    · obtain ⟨⟨rfl, h1⟩, h2⟩ := h
      obtain ⟨A, n, c, rfl, h3, h4, h5⟩ := hg
      exact ⟨A, n, c, rfl, by omega, by omega, h5⟩
  | sliceQ t d =>
    cases a <;> simp [At.leq] at h
    · exact ⟨none, 0, 0, hg, Nat.zero_le _, Nat.le_refl _, .inl ⟨rfl, rfl⟩⟩
    · obtain ⟨rfl, h1⟩ := h
      obtain ⟨A, n, c, rfl, h3, h4, h5⟩ := hg
      exact ⟨A, n, c, rfl, by omega, h5⟩
    · obtain ⟨rfl, h1⟩ := h
      obtain ⟨A, n, c, rfl, h3, h5⟩ := hg
      exact ⟨A, n, c, rfl, by omega, h5⟩
  | ptr t o =>
    cases a <;> simp [At.leq] at h
    obtain ⟨rfl, rfl⟩ := h
    exact hg
  | rd => cases a <;> simp [At.leq] at h; exact hg
  | code => cases a <;> simp [At.leq] at h; exact hg
theorem gAt.join_l {a b : At} {v : Value} (hg : gAt E κ a v) : gAt E κ (a.join b) v := by
  unfold At.join
  split
  · exact hg.leq (by assumption)
  split
  · exact hg
  split
  · split
    · rename_i k lo hi k' lo' hi' _ _ hk
      obtain ⟨n, rfl, h1, h2⟩ := hg
      exact ⟨n, rfl, by omega, by omega⟩
    · trivial
  · obtain ⟨b, rfl, _⟩ := hg; exact ⟨b, rfl, .inl rfl⟩
  · exact ⟨none, 0, 0, hg, Nat.zero_le _, Nat.zero_le _, Nat.le_refl _, .inl ⟨rfl, rfl⟩⟩
  · obtain ⟨A, n, c, rfl, h1, h2, h3⟩ := hg
    exact ⟨A, n, c, rfl, Nat.zero_le _, h2, h3⟩
  · split
    · obtain ⟨A, n, c, rfl, h1, h2, h3⟩ := hg
      exact ⟨A, n, c, rfl, by omega, by omega, h3⟩
    · trivial
  · split
    · obtain ⟨A, n, c, rfl, h1, h2⟩ := hg
      exact ⟨A, n, c, rfl, by omega, h2⟩
    · trivial
  · split
    · obtain ⟨A, n, c, rfl, h1, h2, h3⟩ := hg
      exact ⟨A, n, c, rfl, by omega, h3⟩
    · trivial
  · trivial
theorem gAt.join_r {a b : At} {v : Value} (hg : gAt E κ b v) : gAt E κ (a.join b) v := by
  unfold At.join
  split
  · exact hg
  split
  · exact hg.leq (by assumption)
  split
  · split
    · rename_i k lo hi k' lo' hi' _ _ hk
      obtain rfl : k = k' := by simpa using hk
      obtain ⟨n, rfl, h1, h2⟩ := hg
      exact ⟨n, rfl, by omega, by omega⟩
    · trivial
  · obtain ⟨b, rfl, _⟩ := hg; exact ⟨b, rfl, .inl rfl⟩
  · obtain ⟨A, n, c, rfl, h1, h2, h3⟩ := hg
    exact ⟨A, n, c, rfl, Nat.zero_le _, h2, h3⟩
  · exact ⟨none, 0, 0, hg, Nat.zero_le _, Nat.zero_le _, Nat.le_refl _, .inl ⟨rfl, rfl⟩⟩
  · split
    · rename_i hk
      simp at hk
      subst hk
      obtain ⟨A, n, c, rfl, h1, h2, h3⟩ := hg
      exact ⟨A, n, c, rfl, by omega, by omega, h3⟩
    · trivial
  · split
    · rename_i hk
      simp at hk
      subst hk
      obtain ⟨A, n, c, rfl, h1, h2, h3⟩ := hg
      exact ⟨A, n, c, rfl, by omega, h3⟩
    · trivial
  · split
    · rename_i hk
      simp at hk
      subst hk
      obtain ⟨A, n, c, rfl, h1, h2⟩ := hg
      exact ⟨A, n, c, rfl, by omega, h2⟩
    · trivial
  · trivial
theorem gList.leqs : ∀ {l m : List At} {vs : List Value}, leqs l m = true → gList E κ l vs → gList E κ m vs
  | [], [], _, _, h => h
  | a :: l, b :: m, v :: vs, h, ⟨h1, h2⟩ => by
    simp [Typ.leqs] at h
    exact ⟨h1.leq h.1, gList.leqs h.2 h2⟩
theorem gV1.leq {x y : V1} {v : Value} (h : x.leq y = true) (hg : gV1 E κ x v) : gV1 E κ y v := by
  cases y with
  | one b =>
    cases x with
    | one a => cases b <;> first | trivial | exact gAt.leq (by simpa [V1.leq] using h) hg
    | agg l => cases b <;> first | trivial | simp [V1.leq] at h
  | agg m =>
    cases x with
    | one a => simp [V1.leq] at h
    | agg l =>
      obtain ⟨cs, rfl, h1⟩ := hg
      exact ⟨cs, rfl, h1.leqs (by simpa [V1.leq] using h)⟩
theorem gList.zip_l : ∀ {l m : List At} {vs : List Value}, l.length = m.length → gList E κ l vs → gList E κ (l.zipWith At.join m) vs
  | [], [], _, _, h => h
  | a :: l, b :: m, v :: vs, hl, ⟨h1, h2⟩ => ⟨h1.join_l, gList.zip_l (by simpa using hl) h2⟩
theorem gList.zip_r : ∀ {l m : List At} {vs : List Value}, l.length = m.length → gList E κ m vs → gList E κ (l.zipWith At.join m) vs
  | [], [], _, _, h => h
  | a :: l, b :: m, v :: vs, hl, ⟨h1, h2⟩ => ⟨h1.join_r, gList.zip_r (by simpa using hl) h2⟩
theorem gV1.join_l {x y : V1} {v : Value} (hg : gV1 E κ x v) : gV1 E κ (x.join y) v := by
  cases x <;> cases y <;> simp only [V1.join]
  · exact gAt.join_l hg
  · trivial
  · trivial
  · split
    · rename_i h
      obtain ⟨cs, rfl, h1⟩ := hg
      exact ⟨cs, rfl, h1.zip_l (by simpa using h)⟩
    · trivial
theorem gV1.join_r {x y : V1} {v : Value} (hg : gV1 E κ y v) : gV1 E κ (x.join y) v := by
  cases x <;> cases y <;> simp only [V1.join]
  · exact gAt.join_r hg
  · trivial
  · trivial
  · split
    · rename_i h
      obtain ⟨cs, rfl, h1⟩ := hg
      exact ⟨cs, rfl, h1.zip_r (by simpa using h)⟩
    · trivial
theorem gV1s.zip_l : ∀ {l m : List V1} {vs : List Value}, l.length = m.length → gV1s E κ l vs → gV1s E κ (l.zipWith V1.join m) vs
  | [], [], _, _, h => h
  | a :: l, b :: m, v :: vs, hl, ⟨h1, h2⟩ => ⟨h1.join_l, gV1s.zip_l (by simpa using hl) h2⟩
theorem gV1s.zip_r : ∀ {l m : List V1} {vs : List Value}, l.length = m.length → gV1s E κ m vs → gV1s E κ (l.zipWith V1.join m) vs
  | [], [], _, _, h => h
  | a :: l, b :: m, v :: vs, hl, ⟨h1, h2⟩ => ⟨h1.join_r, gV1s.zip_r (by simpa using hl) h2⟩
theorem gAV.join_l {x y : AV} {v : Value} (hg : gAV E κ x v) : gAV E κ (x.join y) v := by
  cases x <;> cases y <;> simp only [AV.join]
  · exact gV1.join_l hg
  · trivial
  · trivial
  · split
    · rename_i h
      obtain ⟨cs, rfl, h1⟩ := hg
      exact ⟨cs, rfl, h1.zip_l (by simpa using h)⟩
    · trivial
theorem gAV.join_r {x y : AV} {v : Value} (hg : gAV E κ y v) : gAV E κ (x.join y) v := by
  cases x <;> cases y <;> simp only [AV.join]
  · exact gV1.join_r hg
  · trivial
  · trivial
  · split
    · rename_i h
      obtain ⟨cs, rfl, h1⟩ := hg
      exact ⟨cs, rfl, h1.zip_r (by simpa using h)⟩
    · trivial
end
/-- A world in which all new rows keep to what is said of their types. -/
structure Inv (E : Env) (κ : Kr) (q : Nat) (w : World) : Prop where
  os : w.os = E.w0.os
  tape : w.tape = E.w0.tape
  output : w.output = E.w0.output
  size : E.w0.heap.size ≤ w.heap.size
  base : ∀ b, b < E.w0.heap.size → w.heap[b]? = E.w0.heap[b]?
  rows : ∀ b t N, κ.Γ b = some (t, N) → E.w0.heap.size ≤ b ∧ ¬ κ.G b ∧ ∃ c : Array Value, w.heap[b]? = some (.cells c (real t) (0, 0)) ∧ c.size = N * E.sz t ∧ ∀ i x, c[i]? = some x → ∃ a, (E.cells t)[i % E.sz t]? = some a ∧ gAt E κ a x
  c : κ.c ≤ q ∧ κ.c ≤ 900000
  rd : ∀ g, κ.G g → E.w0.heap.size ≤ g ∧ E.Rd w g q
/-- What the table of types says is so; the reader is left alone by what is done elsewhere. -/
structure EnvOk (E : Env) : Prop where
  types' : ∀ t e, E.T.get t = some e → E.P.underlying (real t) = some e.und ∧ ∃ i, E.P.info? (real t) = some i ∧ i.size = e.size ∧ i.bytes = e.bytes ∧ i.zero = some e.zero
  sizes' : ∀ t e, E.T.get t = some e → 0 < e.size ∧ e.cells.length = e.size ∧ e.zero.cells.size = e.size
  zeros' : ∀ t e, E.T.get t = some e → ∀ κ, gList E κ e.cells e.zero.cells.toList
  ones' : ∀ t e, E.T.get t = some e → e.zero.cells.all (·.oneCell') = true
  rdLt : ∀ w g q, E.Rd w g q → g < w.heap.size
  rdMono : ∀ w g q q', E.Rd w g q → q ≤ q' → E.Rd w g q'
  rdKeep : ∀ w w' g q, E.Rd w g q → w'.heap[g]? = w.heap[g]? → (∀ b, b < E.w0.heap.size → w'.heap[b]? = w.heap[b]?) → E.Rd w' g q
section
variable {E : Env} {κ κ' : Kr} {q : Nat} {w : World}
theorem Env.sz_of' {t : Nat} {e : TI} (h : E.T.get t = some e) : E.sz t = e.size := by unfold Env.sz; rw [h]
theorem Env.cells_of' {t : Nat} {e : TI} (h : E.T.get t = some e) : E.cells t = e.cells := by unfold Env.cells; rw [h]
theorem Tab.getR_get {T : Tab} {t : Nat} {e : TI} (h : T.getR t = some e) : T.get t = some e := by
  unfold Tab.getR at h
  split at h
  · exact h
  · cases h
theorem Tab.getR_real {T : Tab} {t : Nat} {e : TI} (h : T.getR t = some e) : real t = t := by
  unfold Tab.getR at h
  split at h
  · assumption
  · cases h
theorem Env.sz_of {t : Nat} {e : TI} (h : E.T.getR t = some e) : E.sz t = e.size := Env.sz_of' (Tab.getR_get h)
theorem Env.cells_of {t : Nat} {e : TI} (h : E.T.getR t = some e) : E.cells t = e.cells := Env.cells_of' (Tab.getR_get h)
theorem EnvOk.types (hE : EnvOk E) (t : Nat) (e : TI) (h : E.T.getR t = some e) : E.P.underlying t = some e.und ∧ ∃ i, E.P.info? t = some i ∧ i.size = e.size ∧ i.bytes = e.bytes ∧ i.zero = some e.zero := by
  have h1 := hE.types' t e (Tab.getR_get h)
  rw [Tab.getR_real h] at h1
  exact h1
theorem EnvOk.sizes (hE : EnvOk E) (t : Nat) (e : TI) (h : E.T.getR t = some e) : 0 < e.size ∧ e.cells.length = e.size ∧ e.zero.cells.size = e.size := hE.sizes' t e (Tab.getR_get h)
theorem EnvOk.zeros (hE : EnvOk E) (t : Nat) (e : TI) (h : E.T.getR t = some e) : ∀ κ, gList E κ e.cells e.zero.cells.toList := hE.zeros' t e (Tab.getR_get h)
/-- Two tables for one type of the program. -/
theorem EnvOk.same (hE : EnvOk E) {t u : Nat} {e f : TI} (h : E.T.get t = some e) (k : E.T.get u = some f) (hr : real t = real u) : e.size = f.size := by
  obtain ⟨_, i, i1, i2, _⟩ := hE.types' t e h
  obtain ⟨_, j, j1, j2, _⟩ := hE.types' u f k
  rw [hr, j1] at i1
  injection i1 with i1
  subst i1
  omega
theorem Inv.drew (h : Inv E κ q w) (hE : EnvOk E) : Inv E κ q w.drew :=
  ⟨h.os, h.tape, h.output, h.size, h.base, h.rows, h.c, fun g hg => ⟨(h.rd g hg).1, hE.rdKeep w w.drew g q (h.rd g hg).2 rfl (fun _ _ => rfl)⟩⟩
/-- One row more. -/
def Kr.add (κ : Kr) (b t N : Nat) : Kr := ⟨fun k => if k = b then some (t, N) else κ.Γ k, κ.G, κ.c⟩
theorem Inv.fresh (h : Inv E κ q w) : κ.Γ w.heap.size = none := by
  cases hx : κ.Γ w.heap.size with
  | none => rfl
  | some x =>
    obtain ⟨t, N⟩ := x
    obtain ⟨_, _, c, hc, _⟩ := h.rows _ t N hx
    simp at hc
theorem Kr.le_add {b t N : Nat} (h : κ.Γ b = none) : κ.le (κ.add b t N) :=
  ⟨fun k x hx => by
    unfold Kr.add
    simp only
    split
    · rename_i e; subst e; rw [h] at hx; cases hx
    · exact hx, fun g hg => hg, Nat.le_refl _⟩
theorem Inv.alloc (h : Inv E κ q w) (hE : EnvOk E) {t u : Nat} (hu : real t = u) (N : Nat) (c : Array Value) (hc : c.size = N * E.sz t)
    (ht : ∀ i x, c[i]? = some x → ∃ a, (E.cells t)[i % E.sz t]? = some a ∧ gAt E κ a x) :
    κ.le (κ.add w.heap.size t N) ∧ Inv E (κ.add w.heap.size t N) q (w.alloc (.cells c u)) := by
  subst hu
  have hle : κ.le (κ.add w.heap.size t N) := Kr.le_add h.fresh
  have old : ∀ b, b < w.heap.size → (w.alloc (.cells c (real t))).heap[b]? = w.heap[b]? := fun b hb => Below.heap_alloc w _ b hb
  refine ⟨hle, h.os, h.tape, h.output, by have := h.size; simp; omega, fun b hb => ?_, fun b t' N' hb => ?_, h.c, fun g hg => ?_⟩
  · rw [old b (by have := h.size; omega)]; exact h.base b hb
  · unfold Kr.add at hb
    simp only at hb
    split at hb
    · rename_i e
      subst e
      injection hb with hb
      injection hb with h1 h2
      subst h1; subst h2
      refine ⟨h.size, fun hg => ?_, c, by show (w.heap.push _)[_]? = _; simp, hc, fun i x hx => ?_⟩
      · have := hE.rdLt _ _ _ (h.rd _ hg).2; omega
      · obtain ⟨a, h1, h2⟩ := ht i x hx
        exact ⟨a, h1, h2.mono hle⟩
    · obtain ⟨h1, h2, c', h3, h4, h5⟩ := h.rows b t' N' hb
      refine ⟨h1, h2, c', ?_, h4, fun i x hx => ?_⟩
      · rw [old b (Array.getElem?_eq_some_iff.mp h3).1]; exact h3
      · obtain ⟨a, h6, h7⟩ := h5 i x hx
        exact ⟨a, h6, h7.mono hle⟩
  · obtain ⟨hr0, hr⟩ := h.rd g hg
    have hl := hE.rdLt _ _ _ hr
    exact ⟨hr0, hE.rdKeep _ _ _ _ hr (old g hl) (fun b hb => old b (by have := h.size; omega))⟩
theorem Inv.cell (h : Inv E κ q w) {b t N i : Nat} (hb : κ.Γ b = some (t, N)) (hi : i < N * E.sz t) :
    ∃ x a, w.cell? ⟨b, i, none⟩ = some x ∧ w.frozen? ⟨b, i, none⟩ = false ∧ (E.cells t)[i % E.sz t]? = some a ∧ gAt E κ a x := by
  obtain ⟨_, _, c, hc, hs, ht⟩ := h.rows b t N hb
  obtain ⟨a, h1, h2⟩ := ht i (c[i]'(by omega)) (Array.getElem?_eq_getElem (by omega))
  exact ⟨_, a, by simp [World.cell?, hc], by simp [World.frozen?, hc], h1, h2⟩
/-- The cells of a row are changed, and keep to its type. -/
theorem Inv.put (h : Inv E κ q w) (hE : EnvOk E) {b t N : Nat} (hb : κ.Γ b = some (t, N)) (c : Array Value) (hc : c.size = N * E.sz t)
    (ht : ∀ i x, c[i]? = some x → ∃ a, (E.cells t)[i % E.sz t]? = some a ∧ gAt E κ a x) (w' : World) (hw : w'.os = w.os ∧ w'.tape = w.tape ∧ w'.output = w.output ∧ w'.heap.size = w.heap.size)
    (hx : w'.heap[b]? = some (.cells c (real t) (0, 0))) (ho : ∀ k, k ≠ b → w'.heap[k]? = w.heap[k]?) : Inv E κ q w' := by
  obtain ⟨hb1, hb2, _⟩ := h.rows b t N hb
  refine ⟨hw.1.trans h.os, hw.2.1.trans h.tape, hw.2.2.1.trans h.output, by rw [hw.2.2.2]; exact h.size, fun k hk => ?_, fun k t' N' hk => ?_, h.c, fun g hg => ?_⟩
  · rw [ho k (by omega)]; exact h.base k hk
  · by_cases e : k = b
    · subst e
      rw [hb] at hk
      injection hk with hk
      injection hk with h1 h2
      subst h1; subst h2
      exact ⟨hb1, hb2, c, hx, hc, ht⟩
    · obtain ⟨h1, h2, c', h3, h4, h5⟩ := h.rows k t' N' hk
      exact ⟨h1, h2, c', by rw [ho k e]; exact h3, h4, h5⟩
  · exact ⟨(h.rd g hg).1, hE.rdKeep _ _ _ _ (h.rd g hg).2 (ho g (fun e => hb2 (by rw [← e]; exact hg))) (fun k hk => ho k (by omega))⟩
theorem Inv.more {q' : Nat} (h : Inv E κ q w) (hq : q ≤ q') (hR : ∀ w g q q', E.Rd w g q → q ≤ q' → E.Rd w g q') : Inv E κ q' w :=
  ⟨h.os, h.tape, h.output, h.size, h.base, h.rows, ⟨Nat.le_trans h.c.1 hq, h.c.2⟩, fun g hg => ⟨(h.rd g hg).1, hR _ _ _ _ (h.rd g hg).2 hq⟩⟩
/-- Lists may be longer from here on. -/
def Kr.bump (κ : Kr) (d : Nat) : Kr := ⟨κ.Γ, κ.G, κ.c + d⟩
theorem Kr.le_bump (κ : Kr) (d : Nat) : κ.le (κ.bump d) := ⟨fun _ _ h => h, fun _ h => h, Nat.le_add_right _ _⟩
theorem Inv.bump (h : Inv E κ q w) (d : Nat) (hd : q + d ≤ 900000) (hR : ∀ w g q q', E.Rd w g q → q ≤ q' → E.Rd w g q') : Inv E (κ.bump d) (q + d) w :=
  ⟨h.os, h.tape, h.output, h.size, h.base, fun b t N hb => by
    obtain ⟨h1, h2, c, h3, h4, h5⟩ := h.rows b t N hb
    exact ⟨h1, h2, c, h3, h4, fun i x hx => by
      obtain ⟨a, h6, h7⟩ := h5 i x hx
      exact ⟨a, h6, h7.mono (Kr.le_bump κ d)⟩⟩, ⟨Nat.add_le_add_right h.c.1 d, by have := h.c.1; show κ.c + d ≤ _; omega⟩, fun g hg => ⟨(h.rd g hg).1, hR _ _ _ _ (h.rd g hg).2 (by omega)⟩⟩
/-- A value of one cell. -/
theorem gAt.one {a : At} {v : Value} (ha : a ≠ .any) (hc : a ≠ .code) (h : gAt E κ a v) : v.oneCell' = true := by
  cases a with
  | any => exact absurd rfl ha
  | code => exact absurd rfl hc
  | int => obtain ⟨n, rfl, _⟩ := h; rfl
  | bool => obtain ⟨n, rfl, _⟩ := h; rfl
  | str => obtain ⟨n, rfl, _⟩ := h; rfl
  | nil => rw [show v = _ from h]; rfl
  | slice => obtain ⟨A, n, c, rfl, _⟩ := h; rfl
  | sliceQ => obtain ⟨A, n, c, rfl, _⟩ := h; rfl
  | ptr => obtain ⟨b, k, N, rfl, _⟩ := h; rfl
  | rd => obtain ⟨g, _, rfl⟩ := h; rfl
end
end Go.Proofs.Ytjleempapphlhab.Typ
namespace Go.Proofs.Ytjleempapphlhab.Typ
open Go Go.RowKit
set_option linter.unusedVariables false
def inI64 (n : Int) : Bool := decide (-9223372036854775808 ≤ n) && decide (n ≤ 9223372036854775807)
theorem wrap_in {n : Int} (h : inI64 n = true) : IntKind.i64.wrap n = n := by
  unfold inI64 at h
  simp only [Bool.and_eq_true, decide_eq_true_eq] at h
  exact IntWalk.i64_in _ (by omega)
theorem wrap_mid {a b n : Int} (ha : inI64 a = true) (hb : inI64 b = true) (h1 : a ≤ n) (h2 : n ≤ b) : IntKind.i64.wrap n = n := by
  unfold inI64 at ha hb
  simp only [Bool.and_eq_true, decide_eq_true_eq] at ha hb
  exact IntWalk.i64_in _ (by omega)
/-- Two numbers, two texts. -/
def absBin (op : BinOp) (x y : At) : Option At :=
  match x, y with
  | .int .i64 a b, .int .i64 c d =>
    match op with
    | .add => if inI64 (a + c) && inI64 (b + d) then some (.int .i64 (a + c) (b + d)) else none
    | .sub => if inI64 (a - d) && inI64 (b - c) then some (.int .i64 (a - d) (b - c)) else none
    | .mul => if decide (0 ≤ a) && decide (0 ≤ c) && inI64 (a * c) && inI64 (b * d) then some (.int .i64 (a * c) (b * d)) else none
    | .quo => if decide (0 ≤ a) && decide (1 ≤ c) && inI64 b then some (.int .i64 0 (b / c)) else none
    | .rem => if decide (0 ≤ a) && decide (1 ≤ c) then some (.int .i64 0 (min b (d - 1))) else none
    | .lss => some (.bool (if decide (b < c) then some true else if decide (d ≤ a) then some false else none))
    | .leq => some (.bool (if decide (b ≤ c) then some true else if decide (d < a) then some false else none))
    | .gtr => some (.bool (if decide (d < a) then some true else if decide (b ≤ c) then some false else none))
    | .geq => some (.bool (if decide (d ≤ a) then some true else if decide (b < c) then some false else none))
    | .eql => some (.bool (if a == b && b == c && c == d then some true else if decide (b < c) || decide (d < a) then some false else none))
    | .neq => some (.bool (if a == b && b == c && c == d then some false else if decide (b < c) || decide (d < a) then some true else none))
    | _ => none
  | .str m, .str n =>
    match op with
    | .add => if decide (m + n ≤ 1048576) then some (.str (m + n)) else none
    | .eql | .neq | .lss | .leq | .gtr | .geq => some (.bool none)
    | _ => none
  | _, _ => none
theorem absBin_sound {E : Env} {κ : Kr} {op : BinOp} {x y z : At} {a b : Value} {t : Nat} {ox oy : Operand} {w : World} (ha : gAt E κ x a) (hb : gAt E κ y b) (h : absBin op x y = some z) :
    ∃ v, (do eqGuard op t ox oy a b; binOp op t a b : Sem Value).run E.P w = .ok v w ∧ gAt E κ z v := by
  cases x with
  | int k lo hi =>
    cases y with
    | int k' lo' hi' =>
      obtain ⟨n, rfl, h1, h2⟩ := ha
      obtain ⟨m, rfl, h3, h4⟩ := hb
      cases k <;> cases k' <;> simp only [absBin] at h <;> try (cases h; done)
      cases op <;> simp only at h <;> try (cases h; done)
      · split at h <;> try (cases h; done)
        rename_i hc
        simp only [Bool.and_eq_true] at hc
        injection h with h; subst h
        refine ⟨.int .i64 (n + m), ?_, n + m, rfl, by omega, by omega⟩
        simp [eqGuard, binOp, Op.intArith, wrap_mid hc.1 hc.2 (show lo + lo' ≤ n + m by omega) (by omega)]
      · split at h <;> try (cases h; done)
        rename_i hc
        simp only [Bool.and_eq_true] at hc
        injection h with h; subst h
        refine ⟨.int .i64 (n - m), ?_, n - m, rfl, by omega, by omega⟩
        simp [eqGuard, binOp, Op.intArith, wrap_mid hc.1 hc.2 (show lo - hi' ≤ n - m by omega) (by omega)]
      · split at h <;> try (cases h; done)
        rename_i hc
        simp only [Bool.and_eq_true, decide_eq_true_eq] at hc
        injection h with h; subst h
        have l1 : lo * lo' ≤ n * m := Int.mul_le_mul h1 h3 hc.1.1.2 (by omega)
        have l2 : n * m ≤ hi * hi' := Int.mul_le_mul h2 h4 (by omega) (by omega)
        refine ⟨.int .i64 (n * m), ?_, n * m, rfl, l1, l2⟩
        simp [eqGuard, binOp, Op.intArith, wrap_mid hc.1.2 hc.2 l1 l2]
      · split at h <;> try (cases h; done)
        rename_i hc
        simp only [Bool.and_eq_true, decide_eq_true_eq] at hc
        injection h with h; subst h
        have l1 : 0 ≤ n.tdiv m := Int.tdiv_nonneg (by omega) (by omega)
        have l2 : n.tdiv m ≤ n := Int.tdiv_le_self _ (by omega)
        have l3 : n.tdiv m ≤ hi / lo' := by
          rw [Int.le_ediv_iff_mul_le (by omega)]
          have e1 := Int.tmod_add_mul_tdiv n m
          have e2 : 0 ≤ n.tmod m := Int.tmod_nonneg m (by omega)
          have e3 : n.tdiv m * lo' ≤ n.tdiv m * m := Int.mul_le_mul_of_nonneg_left h3 l1
          have e4 : n.tdiv m * m = m * n.tdiv m := Int.mul_comm _ _
          omega
        have hm : m ≠ 0 := by omega
        refine ⟨.int .i64 (n.tdiv m), ?_, n.tdiv m, rfl, l1, l3⟩
        simp [eqGuard, binOp, Op.intDiv, hm, wrap_mid (show inI64 0 = true by decide) hc.2 l1 (by omega)]
      · split at h <;> try (cases h; done)
        rename_i hc
        simp only [Bool.and_eq_true, decide_eq_true_eq] at hc
        injection h with h; subst h
        have l1 : 0 ≤ n.tmod m := Int.tmod_nonneg m (by omega)
        have l2 : n.tmod m < m := Int.tmod_lt_of_pos n (by omega)
        have l3 : n.tmod m ≤ n := by
          have := Int.tmod_add_mul_tdiv n m
          have h9 : 0 ≤ m * n.tdiv m := Int.mul_nonneg (by omega) (Int.tdiv_nonneg (by omega) (by omega))
          omega
        have hm : m ≠ 0 := by omega
        refine ⟨.int .i64 (n.tmod m), ?_, n.tmod m, rfl, l1, by omega⟩
        simp [eqGuard, binOp, Op.intDiv, hm]
      all_goals
        injection h with h; subst h
        refine ⟨.bool _, by simp [eqGuard, binOp, Op.intCmp]; rfl, _, rfl, ?_⟩
        repeat' split
        all_goals first | exact .inl rfl | (refine .inr ?_; simp_all <;> omega)
    | _ => cases k <;> simp [absBin] at h
  | str m =>
    cases y with
    | str n =>
      obtain ⟨s, rfl, h1⟩ := ha
      obtain ⟨r, rfl, h2⟩ := hb
      cases op <;> simp only [absBin] at h <;> try (cases h; done)
      · split at h <;> try (cases h; done)
        rename_i hc
        simp only [decide_eq_true_eq] at hc
        injection h with h; subst h
        refine ⟨.string (s ++ r), ?_, s ++ r, rfl, by rw [ByteArray.size_append]; omega⟩
        simp [eqGuard, binOp, Op.stringOp]
        omega
      all_goals
        injection h with h; subst h
        exact ⟨.bool _, rfl, _, rfl, .inl rfl⟩
    | _ => simp [absBin] at h
  | _ => simp [absBin] at h
/-- What a value says of itself. -/
def absV : Value → At
  | .int k n => .int k n n
  | .bool b => .bool (some b)
  | .string s => .str s.size
  | .slice none 0 0 => .nil
  | _ => .any
theorem absV_sound {E : Env} {κ : Kr} (v : Value) : gAt E κ (absV v) v := by
  unfold absV
  split
  · exact ⟨_, rfl, Int.le_refl _, Int.le_refl _⟩
  · exact ⟨_, rfl, .inr rfl⟩
  · exact ⟨_, rfl, Nat.le_refl _⟩
  · rfl
  · trivial
def absC (v : Value) : AV :=
  match v with
  | .agg cs => .v (.agg (cs.toList.map absV))
  | _ => .v (.one (absV v))
theorem gList_absV {E : Env} {κ : Kr} : ∀ l : List Value, gList E κ (l.map absV) l
  | [] => trivial
  | v :: l => ⟨absV_sound v, gList_absV l⟩
theorem absC_sound {E : Env} {κ : Kr} (v : Value) : gAV E κ (absC v) v := by
  unfold absC
  split
  · exact ⟨_, rfl, gList_absV _⟩
  · exact absV_sound _
/-- The cells of a value. -/
def V1.cells : V1 → Option (List At)
  | .one .any => none
  | .one .code => none
  | .one a => some [a]
  | .agg l => some l
theorem V1.cells_sound {E : Env} {κ : Kr} {x : V1} {v : Value} {l : List At} (h : x.cells = some l) (hg : gV1 E κ x v) : gList E κ l v.cells.toList := by
  cases x with
  | one a =>
    have h1 : a ≠ .any ∧ a ≠ .code ∧ l = [a] := by cases a <;> simp [V1.cells] at h <;> simp [h]
    obtain ⟨h1, h2, rfl⟩ := h1
    have h3 := gAt.one h1 h2 hg
    have h4 : v.cells = #[v] := by cases v <;> first | rfl | simp [Value.oneCell'] at h3
    rw [h4]
    exact ⟨hg, trivial⟩
  | agg m =>
    obtain ⟨cs, rfl, h1⟩ := hg
    simp [V1.cells] at h
    subst h
    exact h1
theorem gList.oneCells {E : Env} {κ : Kr} : ∀ {l : List At} {vs : List Value}, l.all (fun a => a != .any && a != .code) = true → gList E κ l vs → ∀ v ∈ vs, v.oneCell' = true
  | [], [], _, _, v, hv => by simp at hv
  | a :: l, u :: vs, h, ⟨h1, h2⟩, v, hv => by
    simp only [List.all_cons, Bool.and_eq_true, bne_iff_ne, ne_eq] at h
    rcases List.mem_cons.mp hv with rfl | hv
    · exact gAt.one h.1.1 h.1.2 h1
    · exact gList.oneCells h.2 h2 v hv
def isStruct : TypeDesc → Bool
  | .struct _ => true
  | _ => false
def isFlat : TypeDesc → Bool
  | .struct _ => false
  | .array _ _ => false
  | _ => true
/-- A field of a struct: where, how long. -/
def fieldOf (T : Tab) (s : Nat) (f : Nat) : Option (Nat × TI) :=
  match T.getR s with
  | some e => match e.und with
    | .struct fs => match fs[f]? with
      | some fd => match T.getR fd.type with
        | some g => some (fd.offset, g)
        | none => none
      | none => none
    | _ => none
  | none => none
section
variable {E : Env} {κ : Kr} {q : Nat} {w : World}
theorem addr_add (b o n : Nat) : (⟨b, o, none⟩ : Addr).add n = ⟨b, o + n, none⟩ := by
  unfold Addr.add
  split
  · rename_i h; rw [h]; rfl
  · rfl
theorem at_row {k N sz off i : Nat} (h1 : k < N) (h2 : off + i < sz) : k * sz + off + i < N * sz ∧ (k * sz + off + i) % sz = off + i := by
  have : (k + 1) * sz ≤ N * sz := Nat.mul_le_mul_right sz h1
  rw [Nat.succ_mul] at this
  refine ⟨by omega, ?_⟩
  rw [Nat.add_assoc, Nat.add_comm, Nat.add_mul_mod_self_right, Nat.mod_eq_of_lt h2]
/-- A part of an element is read. -/
theorem Inv.loads (h : Inv E κ q w) {b t N k off n : Nat} (hb : κ.Γ b = some (t, N)) (hk : k < N) (hn : off + n ≤ E.sz t) (hl : (E.cells t).length = E.sz t) :
    ∃ cs : List Value, (loadCells ⟨b, k * E.sz t + off, none⟩ n).run E.P w = .ok cs.toArray w ∧ gList E κ (((E.cells t).drop off).take n) cs := by
  have hx : ∀ i, i < n → ∃ x a, w.cell? ⟨b, k * E.sz t + off + i, none⟩ = some x ∧ (E.cells t)[off + i]? = some a ∧ gAt E κ a x := fun i hi => by
    obtain ⟨h1, h2⟩ := at_row hk (show off + i < E.sz t by omega)
    obtain ⟨x, a, h3, _, h4, h5⟩ := h.cell hb h1
    rw [h2] at h4
    exact ⟨x, a, h3, h4, h5⟩
  refine ⟨(List.range n).map (fun i => (w.cell? ⟨b, k * E.sz t + off + i, none⟩).getD undef), ?_, ?_⟩
  · have := run_loadCells_list (P := E.P) w ⟨b, k * E.sz t + off, none⟩ ((List.range n).map (fun i => (w.cell? ⟨b, k * E.sz t + off + i, none⟩).getD undef)) (fun j v hv => by
      rw [addr_add]
      rw [List.getElem?_map] at hv
      by_cases hj : j < n
      · rw [List.getElem?_range hj] at hv
        simp at hv
        obtain ⟨x, a, h1, _⟩ := hx j hj
        rw [h1] at hv
        simp at hv
        rw [h1, hv]
      · rw [List.getElem?_eq_none (by simpa using hj)] at hv
        simp at hv)
    simpa using this
  · refine gList.of (by simp [hl]; omega) (fun i a v ha hv => ?_)
    rw [List.getElem?_map] at hv
    by_cases hj : i < n
    · rw [List.getElem?_range hj] at hv
      simp at hv
      obtain ⟨x, a', h1, h2, h3⟩ := hx i hj
      rw [h1] at hv
      simp at hv
      subst hv
      rw [List.getElem?_take_of_lt hj, List.getElem?_drop, h2] at ha
      injection ha with ha
      subst ha
      exact h3
    · rw [List.getElem?_eq_none (by simpa using hj)] at hv
      simp at hv
/-- A part of an element is written. -/
theorem Inv.stores (h : Inv E κ q w) (hE : EnvOk E) {b t N k off : Nat} (hb : κ.Γ b = some (t, N)) (hk : k < N) (vs : List Value) (hn : off + vs.length ≤ E.sz t)
    (h1 : ∀ v ∈ vs, v.oneCell' = true) (hg : gList E κ (((E.cells t).drop off).take vs.length) vs) :
    ∃ w', (storeCells ⟨b, k * E.sz t + off, none⟩ vs).run E.P w = .ok () w' ∧ Inv E κ q w' := by
  obtain ⟨_, _, c, hc, hs, ht⟩ := h.rows b t N hb
  have hle : (k + 1) * E.sz t ≤ N * E.sz t := Nat.mul_le_mul_right _ hk
  rw [Nat.succ_mul] at hle
  have hst := run_storeCells_at E.P b (k * E.sz t + off) (real t) vs 0 c w hc (by omega) h1
  simp only [Nat.add_zero] at hst
  refine ⟨_, hst, ?_⟩
  have hlen : ((c.toList.take (k * E.sz t + off) ++ vs ++ c.toList.drop (k * E.sz t + off + vs.length)).toArray).size = N * E.sz t := by
    simp; omega
  refine h.put hE hb _ hlen (fun i x hx => ?_) _ ⟨rfl, rfl, rfl, by simp [World.setRow]⟩ ?_ ?_
  · rw [List.getElem?_toArray] at hx
    have hl1 : (c.toList.take (k * E.sz t + off)).length = k * E.sz t + off := by simp; omega
    by_cases h1' : i < k * E.sz t + off
    · rw [List.getElem?_append_left (by simp; omega), List.getElem?_append_left (by omega), List.getElem?_take_of_lt h1'] at hx
      exact ht i x (by simpa using hx)
    by_cases h2' : i < k * E.sz t + off + vs.length
    · rw [List.getElem?_append_left (by simp; omega), List.getElem?_append_right (by omega), hl1] at hx
      obtain ⟨j, rfl⟩ : ∃ j, i = k * E.sz t + off + j := ⟨i - (k * E.sz t + off), by omega⟩
      rw [Nat.add_sub_cancel_left] at hx
      have hj : j < vs.length := by omega
      obtain ⟨_, h4⟩ := at_row hk (show off + j < E.sz t by omega)
      have hcl : off + j < (E.cells t).length := by
        have := hg.len
        simp at this
        omega
      refine ⟨(E.cells t)[off + j], by rw [h4]; exact List.getElem?_eq_getElem hcl, ?_⟩
      refine gList.at (i := j) hg ?_ hx
      rw [List.getElem?_take_of_lt hj, List.getElem?_drop]
      exact List.getElem?_eq_getElem hcl
    · rw [List.getElem?_append_right (by simp; omega), List.getElem?_drop] at hx
      refine ht i x ?_
      rw [List.length_append, hl1] at hx
      rw [show k * E.sz t + off + vs.length + (i - (k * E.sz t + off + vs.length)) = i by omega] at hx
      simpa using hx
  · exact setRow_heap w b c _ (real t) (0, 0) hc
  · intro j hj
    unfold World.setRow
    simp only
    rw [Array.getElem?_modify]
    rw [if_neg (fun e => hj e.symm)]
end
end Go.Proofs.Ytjleempapphlhab.Typ
namespace Go.Proofs.Ytjleempapphlhab.Typ
open Go Go.RowKit
set_option linter.unusedVariables false
/-- An operation yields a value of a type, and keeps all rows to theirs. -/
def Yields (E : Env) (κ : Kr) (q : Nat) (s : Result Next) (av : AV) : Prop :=
  ∃ n κ' w', s = .ok n w' ∧ κ.le κ' ∧ Inv E κ' q w' ∧ ((∃ v, n = .value v ∧ gAV E κ' av v) ∨ (n = .skip ∧ av = .v (.one .any)))
section
variable {E : Env} {κ : Kr} {q : Nat} {w : World}
theorem Yields.val (hi : Inv E κ q w) {av : AV} {v : Value} (h : gAV E κ av v) : Yields E κ q (.ok (.value v) w) av := ⟨_, κ, w, rfl, Kr.le.refl κ, hi, .inl ⟨v, rfl, h⟩⟩
end
def aMove (e : Operand → AV) (x : Operand) : Option AV := some (e x)
def aPick (e : Operand → AV) (c a b : Operand) : Option AV :=
  match e c with
  | .v (.one (.bool (some true))) => some (e a)
  | .v (.one (.bool (some false))) => some (e b)
  | .v (.one (.bool none)) => some ((e a).join (e b))
  | _ => none
def aAlloc (T : Tab) (t : Nat) : Option AV :=
  match T.getR t with
  | some _ => some (.v (.one (.ptr t 0)))
  | none => none
def aLoad (T : Tab) (e : Operand → AV) (t : Nat) (x : Operand) : Option AV :=
  match e x with
  | .v (.one (.ptr u off)) =>
    match T.get u, T.getR t with
    | some eu, some et =>
      if isStruct et.und = true then if off + et.size ≤ eu.size then some (.v (.agg ((eu.cells.drop off).take et.size))) else none
      else if isFlat et.und = true then (match eu.cells[off]? with | some a => some (.v (.one a)) | none => none) else none
    | _, _ => none
  | _ => none
def aStore (T : Tab) (e : Operand → AV) (t : Nat) (x y : Operand) : Option AV :=
  match e x, e y with
  | .v (.one (.ptr u off)), .v y =>
    match T.get u, T.getR t, y.cells with
    | some eu, some et, some l =>
      if et.size = l.length ∧ off + l.length ≤ eu.size ∧ leqs l ((eu.cells.drop off).take l.length) = true ∧ l.all (fun a => a != .any && a != .code) = true then some (.v (.one .any)) else none
    | _, _, _ => none
  | _, _ => none
def aBin (e : Operand → AV) (op : BinOp) (x y : Operand) : Option AV :=
  match e x, e y with
  | .v (.one a), .v (.one b) => match absBin op a b with | some z => some (.v (.one z)) | none => none
  | _, _ => none
def aUn (e : Operand → AV) (op : UnOp) (x : Operand) : Option AV :=
  match op, e x with
  | .not, .v (.one (.bool o)) => some (.v (.one (.bool (o.map not))))
  | .neg, .v (.one (.int .i64 a b)) => if inI64 (-b) && inI64 (-a) then some (.v (.one (.int .i64 (-b) (-a)))) else none
  | _, _ => none
def isBytes (ee : TI) : Bool :=
  match ee.und, ee.cells with
  | .int .u8, [.int .u8 a b] => decide (0 ≤ a) && decide (b ≤ 255) && decide (ee.size = 1)
  | _, _ => false
def aConvI (T : Tab) (e : Operand → AV) (src dst : Nat) (x : Operand) : Option AV :=
  match T.getR src, T.getR dst, e x with
  | some _, some ed, .v (.one (.int _ a b)) =>
    match ed.und with
    | .int .i64 => if inI64 a && inI64 b then some (.v (.one (.int .i64 a b))) else none
    | .int .u8 => if decide (0 ≤ a) && decide (b ≤ 255) then some (.v (.one (.int .u8 a b))) else none
    | _ => none
  | _, _, _ => none
def aConv (T : Tab) (e : Operand → AV) (src dst : Nat) (x : Operand) : Option AV :=
  match T.getR src, T.getR dst, e x with
  | some _, some ed, .v (.one (.int _ a b)) =>
    match ed.und with
    | .int .i64 => if inI64 a && inI64 b then some (.v (.one (.int .i64 a b))) else none
    | .int .u8 => if decide (0 ≤ a) && decide (b ≤ 255) then some (.v (.one (.int .u8 a b))) else none
    | _ => none
  | some es, some ed, .v (.one (.slice u lo hi)) =>
    match es.und, ed.und with
    | .slice el, .string => match T.getR el with
      | some ee => if el = u ∧ 1 ≤ lo ∧ isBytes ee = true then some (.v (.one (.str hi))) else none
      | none => none
    | _, _ => none
  | _, _, _ => none
def aField (T : Tab) (e : Operand → AV) (s : Nat) (x : Operand) (f : Nat) : Option AV :=
  match fieldOf T s f, e x with
  | some (o, g), .v (.agg l) =>
    if isStruct g.und = true then if o + g.size ≤ l.length then some (.v (.agg ((l.drop o).take g.size))) else none
    else if isFlat g.und = true then (match l[o]? with | some a => some (.v (.one a)) | none => none) else none
  | _, _ => none
def aFieldAddr (T : Tab) (e : Operand → AV) (s : Nat) (x : Operand) (f : Nat) : Option AV :=
  match fieldOf T s f, e x with
  | some (o, _), .v (.one (.ptr t off)) =>
    match T.get t with
    | some et => if off + o < et.size then some (.v (.one (.ptr t (off + o)))) else none
    | none => none
  | _, _ => none
def aIndexAddr (T : Tab) (e : Operand → AV) (t : Nat) (x ix : Operand) : Option AV :=
  match T.getR t with
  | some et => match et.und, e x, e ix with
    | .slice el, .v (.one (.slice u lo hi)), .v (.one (.int _ a b)) =>
      match T.get u with
      | some _ => if el = real u ∧ 0 ≤ a ∧ b < (lo : Int) then some (.v (.one (.ptr u 0))) else none
      | none => none
    | _, _, _ => none
  | none => none
def aExtract (e : Operand → AV) (x : Operand) (i : Nat) : Option AV :=
  match e x with
  | .tup l => match l[i]? with | some y => some (.v y) | none => none
  | _ => none
def aLen (T : Tab) (ts : Array Nat) (args : List AV) : Option AV :=
  match ts.toList, args with
  | [t], [.v (.one a)] =>
    match T.getR t with
    | some et => match et.und, a with
      | .slice _, .slice _ lo hi => some (.v (.one (.int .i64 lo hi)))
      | .slice _, .nil => some (.v (.one (.int .i64 0 0)))
      | .slice _, .sliceQ _ d => some (.v (.one (.int .i64 0 (900000 + (d : Int)))))
      | .string, .str m => some (.v (.one (.int .i64 0 m)))
      | _, _ => none
    | none => none
  | _, _ => none
section
variable {E : Env} {κ : Kr} {q : Nat} {w : World} {ρ : Operand → Value} {e : Operand → AV} {av : AV} {o : Oper}
theorem s_move (hi : Inv E κ q w) (he : ∀ x, gAV E κ (e x) (ρ x)) {x : Operand} (h : aMove e x = some av) : Yields E κ q ((pure (.value (ρ x)) : Sem Next).run E.P w) av := by
  injection h with h; subst h
  exact .val hi (he x)
theorem s_pick (hi : Inv E κ q w) (he : ∀ x, gAV E κ (e x) (ρ x)) {c a b : Operand} (h : aPick e c a b = some av) :
    Yields E κ q ((do pure (.value (if ← asBool (ρ c) then ρ a else ρ b)) : Sem Next).run E.P w) av := by
  unfold aPick at h
  have hc := he c
  split at h <;> try (cases h; done)
  · rename_i hx
    rw [hx] at hc
    obtain ⟨bb, h1, h2⟩ := hc
    injection h with h; subst h
    obtain rfl : bb = true := by rcases h2 with h2 | h2 <;> simp at h2; exact h2
    rw [h1]; exact .val hi (he a)
  · rename_i hx
    rw [hx] at hc
    obtain ⟨bb, h1, h2⟩ := hc
    injection h with h; subst h
    obtain rfl : bb = false := by rcases h2 with h2 | h2 <;> simp at h2; exact h2
    rw [h1]; exact .val hi (he b)
  · rename_i hx
    rw [hx] at hc
    obtain ⟨bb, h1, _⟩ := hc
    injection h with h; subst h
    rw [h1]
    cases bb
    · exact .val hi (he b).join_r
    · exact .val hi (he a).join_l
theorem run_info {P : Program} {t : Nat} {i : TypeInfo} (h : P.info? t = some i) (w : World) : (typeInfo t).run P w = .ok i w := by simp [typeInfo, h]
theorem s_alloc (hE : EnvOk E) (hi : Inv E κ q w) {t : Nat} (h : aAlloc E.T t = some av) :
    Yields E κ q ((do pure (.value (← Instr.alloc t true (.tuple #[]))) : Sem Next).run E.P w) av := by
  unfold aAlloc at h
  split at h <;> try (cases h; done)
  rename_i et ht
  injection h with h; subst h
  obtain ⟨hu, i, h1, h2, h3, h4⟩ := hE.types t et ht
  obtain ⟨hs1, hs2, hs3⟩ := hE.sizes t et ht
  have hz := hE.zeros t et ht κ
  obtain ⟨hle, hinv⟩ := hi.alloc hE (Tab.getR_real ht) 1 et.zero.cells (by rw [Env.sz_of ht, hs3]; omega) (fun j x hx => by
    have hj : j < et.size := by rw [← hs3]; exact (Array.getElem?_eq_some_iff.mp hx).1
    rw [Env.sz_of ht, Env.cells_of ht, Nat.mod_eq_of_lt hj]
    refine ⟨et.cells[j]'(by omega), List.getElem?_eq_getElem (by omega), ?_⟩
    exact gList.at hz (List.getElem?_eq_getElem (by omega)) (by simpa using hx))
  refine ⟨_, _, _, ?_, hle, hinv, .inl ⟨.pointer (some ⟨w.heap.size, 0, none⟩), rfl, w.heap.size, 0, 1, by simp, by simp [Kr.add], by omega, by rw [Env.sz_of ht]; exact hs1⟩⟩
  simp [Instr.alloc, zeroValue, run_info h1, h4, newVar, newRow]
theorem isStruct_not {d : TypeDesc} (h : isStruct d = true) : ∃ fs, d = .struct fs := by cases d <;> simp [isStruct] at h; exact ⟨_, rfl⟩
theorem s_load0 (hE : EnvOk E) (hi : Inv E κ q w) (he : ∀ x, gAV E κ (e x) (ρ x)) {t : Nat} {x : Operand} (h : aLoad E.T e t x = some av) :
    ∃ a v, ρ x = .pointer (some a) ∧ (loadVar t a).run E.P w = .ok v w ∧ gAV E κ av v := by
  unfold aLoad at h
  have hx := he x
  split at h <;> try (cases h; done)
  rename_i u off hp
  rw [hp] at hx
  obtain ⟨b, k, N, h1, h2, h3, h4⟩ := hx
  refine ⟨⟨b, k * E.sz u + off, none⟩, ?_⟩
  rw [h1]
  split at h <;> try (cases h; done)
  rename_i eu et hu ht
  obtain ⟨hun, i, j1, j2, j3, j4⟩ := hE.types t et ht
  obtain ⟨hs1, hs2, hs3⟩ := hE.sizes' u eu hu
  have hcl : (E.cells u).length = E.sz u := by rw [Env.cells_of' hu, Env.sz_of' hu, hs2]
  split at h
  · rename_i hst
    obtain ⟨fs, hfs⟩ := isStruct_not hst
    split at h <;> try (cases h; done)
    rename_i hle
    injection h with h; subst h
    obtain ⟨cs, hl1, hl2⟩ := hi.loads h2 h3 (show off + et.size ≤ E.sz u by rw [Env.sz_of' hu]; exact hle) hcl
    rw [Env.cells_of' hu] at hl2
    have : (loadVar t ⟨b, k * E.sz u + off, none⟩).run E.P w = .ok (.agg cs.toArray) w := by
      simp [loadVar, isAgg, run_underlying hun, hfs, sizeOf, run_info j1, j2, hl1]
    exact ⟨_, rfl, this, cs.toArray, rfl, by simpa using hl2⟩
  · split at h <;> try (cases h; done)
    rename_i hfl
    split at h <;> try (cases h; done)
    rename_i a ha
    injection h with h; subst h
    obtain ⟨c1, c2⟩ := at_row (off := off) (i := 0) h3 (by rw [Nat.add_zero]; exact h4)
    obtain ⟨v, a', d1, _, d2, d3⟩ := hi.cell h2 (by simpa using c1)
    rw [show (k * E.sz u + off) % E.sz u = off by simpa using c2, Env.cells_of' hu, ha] at d2
    injection d2 with d2; subst d2
    have : (loadVar t ⟨b, k * E.sz u + off, none⟩).run E.P w = .ok v w := by
      cases hd : et.und <;> rw [hd] at hfl hun <;> simp [isFlat] at hfl <;> simp [loadVar, isAgg, run_underlying hun, d1]
    exact ⟨_, rfl, this, d3⟩
theorem s_load (hE : EnvOk E) (hi : Inv E κ q w) (he : ∀ x, gAV E κ (e x) (ρ x)) {t : Nat} {x : Operand} (h : aLoad E.T e t x = some av) :
    Yields E κ q ((do pure (.value (← Instr.loadAt t (ρ x))) : Sem Next).run E.P w) av := by
  obtain ⟨a, v, h1, h2, h3⟩ := s_load0 hE hi he h
  rw [h1]
  have : (do pure (.value (← Instr.loadAt t (.pointer (some a)))) : Sem Next).run E.P w = .ok (.value v) w := by
    simp [Instr.loadAt, Instr.sureAddr, h2]
  rw [this]
  exact .val hi h3
theorem s_store (hE : EnvOk E) (hi : Inv E κ q w) (he : ∀ x, gAV E κ (e x) (ρ x)) {t : Nat} {x y : Operand} (h : aStore E.T e t x y = some av) :
    Yields E κ q ((do Instr.storeAt t (ρ x) (ρ y); pure .skip : Sem Next).run E.P w) av := by
  unfold aStore at h
  have hx := he x
  have hy := he y
  split at h <;> try (cases h; done)
  rename_i u off yv hp hpy
  rw [hp] at hx
  rw [hpy] at hy
  obtain ⟨b, k, N, h1, h2, h3, h4⟩ := hx
  rw [h1]
  split at h <;> try (cases h; done)
  rename_i eu et l hu ht hl
  split at h <;> try (cases h; done)
  rename_i hc
  obtain ⟨c1, c2, c3, c4⟩ := hc
  injection h with h; subst h
  obtain ⟨hun, i, j1, j2, j3, j4⟩ := hE.types t et ht
  have hg := V1.cells_sound hl hy
  have hlen := hg.len
  obtain ⟨w', r1, r2⟩ := hi.stores hE (off := off) h2 h3 (ρ y).cells.toList (by rw [Env.sz_of' hu, ← hlen]; exact c2) (gList.oneCells c4 hg) (by
    rw [Env.cells_of' hu, ← hlen]; exact hg.leqs c3)
  refine ⟨.skip, κ, w', ?_, Kr.le.refl κ, r2, .inr ⟨rfl, rfl⟩⟩
  have hsz : (ρ y).cells.size = i.size := by rw [j2, c1, hlen]; simp
  simp [Instr.storeAt, Instr.sureAddr, storeVar, sizeOf, run_info j1, hsz, r1]
theorem s_bin (hi : Inv E κ q w) (he : ∀ x, gAV E κ (e x) (ρ x)) {op : BinOp} {t : Nat} {x y : Operand} (h : aBin e op x y = some av) :
    Yields E κ q ((do pure (.value (← (do eqGuard op t x y (ρ x) (ρ y); binOp op t (ρ x) (ρ y) : Sem Value))) : Sem Next).run E.P w) av := by
  unfold aBin at h
  have hx := he x
  have hy := he y
  split at h <;> try (cases h; done)
  rename_i a b ha hb
  rw [ha] at hx
  rw [hb] at hy
  split at h <;> try (cases h; done)
  rename_i z hz
  injection h with h; subst h
  obtain ⟨v, h1, h2⟩ := absBin_sound (t := t) (ox := x) (oy := y) (w := w) hx hy hz
  rw [Sem.run_bind, h1]
  exact .val hi h2
theorem s_un (hi : Inv E κ q w) (he : ∀ x, gAV E κ (e x) (ρ x)) {op : UnOp} {x : Operand} (h : aUn e op x = some av) :
    Yields E κ q ((do pure (.value (← Op.unary op (ρ x))) : Sem Next).run E.P w) av := by
  unfold aUn at h
  have hx := he x
  split at h <;> try (cases h; done)
  · rename_i o hp
    rw [hp] at hx
    obtain ⟨b, h1, h2⟩ := hx
    injection h with h; subst h
    rw [h1]
    exact .val hi ⟨!b, rfl, by rcases h2 with rfl | rfl; exact .inl rfl; exact .inr rfl⟩
  · rename_i a b hp
    rw [hp] at hx
    obtain ⟨n, h1, h2, h3⟩ := hx
    split at h <;> try (cases h; done)
    rename_i hc
    simp only [Bool.and_eq_true] at hc
    injection h with h; subst h
    rw [h1]
    have := wrap_mid hc.1 hc.2 (show -b ≤ -n by omega) (by omega)
    have hr : (do pure (.value (← Op.unary .neg (.int .i64 n))) : Sem Next).run E.P w = .ok (.value (.int .i64 (-n))) w := by
      simp [Op.unary, Op.intArith, this]
    rw [hr]
    exact .val hi ⟨-n, rfl, by omega, by omega⟩
theorem isBytes_spec {ee : TI} (h : isBytes ee = true) : ee.und = .int .u8 ∧ ee.size = 1 ∧ ∃ a b, ee.cells = [.int .u8 a b] ∧ 0 ≤ a ∧ b ≤ 255 := by
  unfold isBytes at h
  split at h <;> try (cases h; done)
  rename_i a b h1 h2
  simp only [Bool.and_eq_true, decide_eq_true_eq] at h
  exact ⟨h1, h.2, a, b, h2, h.1.1, h.1.2⟩
theorem bytes_of_cells {w : World} {b off n : Nat} (h : ∀ j, j < n → ∃ z : Int, 0 ≤ z ∧ z ≤ 255 ∧ w.cell? ⟨b, off + j, none⟩ = some (.int .u8 z)) :
    ∃ l : List UInt8, l.length = n ∧ ∀ j (hj : j < l.length), w.cell? ((⟨b, off, none⟩ : Addr).add j) = some (.int .u8 (l[j].toNat : Int)) := by
  induction n with
  | zero => exact ⟨[], rfl, fun j hj => by simp at hj⟩
  | succ n ih =>
    obtain ⟨l, h1, h2⟩ := ih (fun j hj => h j (by omega))
    obtain ⟨z, z0, z1, hz⟩ := h n (by omega)
    refine ⟨l ++ [UInt8.ofNat z.toNat], by simp [h1], fun j hj => ?_⟩
    rw [List.length_append, h1] at hj
    by_cases hjn : j < n
    · rw [List.getElem_append_left (by omega)]
      exact h2 j (by omega)
    · obtain rfl : j = n := by simp at hj; omega
      rw [List.getElem_append_right (by omega), addr_add, hz]
      congr 2
      simp [h1]
      omega
theorem s_conv0 (hE : EnvOk E) (hi : Inv E κ q w) (he : ∀ x, gAV E κ (e x) (ρ x)) {src dst : Nat} {x : Operand} (h : aConvI E.T e src dst x = some av) :
    Yields E κ q ((do pure (.value (← convert src dst (ρ x))) : Sem Next).run E.P w) av := by
  unfold aConvI at h
  have hx := he x
  split at h <;> try (cases h; done)
  rename_i es ed k a b hs hd hp
  rw [hp] at hx
  obtain ⟨n, h1, h2, h3⟩ := hx
  rw [h1]
  obtain ⟨hus, _⟩ := hE.types src es hs
  obtain ⟨hud, _⟩ := hE.types dst ed hd
  split at h <;> try (cases h; done)
  · rename_i hdd
    rw [hdd] at hud
    split at h <;> try (cases h; done)
    rename_i hc
    simp only [Bool.and_eq_true] at hc
    injection h with h; subst h
    have hr : (do pure (.value (← convert src dst (.int k n))) : Sem Next).run E.P w = .ok (.value (.int .i64 n)) w := by
      simp [convert, run_underlying hus, run_underlying hud, Conv.intToInt, wrap_mid hc.1 hc.2 h2 h3]
    rw [hr]
    exact .val hi ⟨n, rfl, h2, h3⟩
  · rename_i hdd
    rw [hdd] at hud
    split at h <;> try (cases h; done)
    rename_i hc
    simp only [Bool.and_eq_true, decide_eq_true_eq] at hc
    injection h with h; subst h
    have hw : IntKind.u8.wrap n = n := by simp [IntKind.wrap, IntKind.bits, IntKind.signed]; omega
    have hr : (do pure (.value (← convert src dst (.int k n))) : Sem Next).run E.P w = .ok (.value (.int .u8 n)) w := by
      simp [convert, run_underlying hus, run_underlying hud, Conv.intToInt, hw]
    rw [hr]
    exact .val hi ⟨n, rfl, h2, h3⟩
theorem s_conv (hE : EnvOk E) (hi : Inv E κ q w) (he : ∀ x, gAV E κ (e x) (ρ x)) {src dst : Nat} {x : Operand} (h : aConv E.T e src dst x = some av) :
    Yields E κ q ((do pure (.value (← convert src dst (ρ x))) : Sem Next).run E.P w) av := by
  unfold aConv at h
  have hx := he x
  split at h <;> try (cases h; done)
  · rename_i es ed k a b hs hd hp
    exact s_conv0 hE hi he (by unfold aConvI; rw [hs, hd, hp]; exact h)
  · rename_i es ed u lo hi' hs hd hp
    rw [hp] at hx
    obtain ⟨A, n, c, h1, h2, h3, h4, h5⟩ := hx
    rw [h1]
    obtain ⟨hus, _⟩ := hE.types src es hs
    obtain ⟨hud, _⟩ := hE.types dst ed hd
    split at h <;> try (cases h; done)
    rename_i el hes hed
    split at h <;> try (cases h; done)
    rename_i ee hee
    split at h <;> try (cases h; done)
    rename_i hc
    injection h with h; subst h
    obtain ⟨rfl, hlo, hb⟩ := hc
    obtain ⟨b1, b2, a, b, b3, b4, b5⟩ := isBytes_spec hb
    obtain ⟨hue, _⟩ := hE.types _ ee hee
    rw [hes] at hus
    rw [hed] at hud
    rw [b1] at hue
    have hsz : E.sz el = 1 := by rw [Env.sz_of hee, b2]
    rcases h5 with ⟨rfl, rfl⟩ | ⟨bb, k, N, rfl, h6, h7⟩
    · omega
    · obtain ⟨l, l1, l2⟩ := bytes_of_cells (w := w) (b := bb) (off := k * E.sz el) (n := n) (fun j hj => by
        obtain ⟨x, a', g1, _, g2, g3⟩ := hi.cell (i := k * E.sz el + j) h6 (by rw [hsz]; omega)
        rw [Env.cells_of hee, b3, hsz, Nat.mod_one] at g2
        simp at g2
        subst g2
        obtain ⟨z, rfl, z0, z1⟩ := g3
        exact ⟨z, by omega, by omega, g1⟩)
      subst l1
      have hr : (do pure (.value (← convert src dst (.slice (some ⟨bb, k * E.sz el, none⟩) l.length c))) : Sem Next).run E.P w = .ok (.value (.string ⟨l.toArray⟩)) w := by
        rw [Sem.run_bind, run_convert_bytes_back w src dst el ⟨bb, k * E.sz el, none⟩ c l hus hue hud l2]
        rfl
      rw [hr]
      exact .val hi ⟨_, rfl, by show l.toArray.size ≤ _; simpa using h3⟩
theorem fieldOf_spec (hE : EnvOk E) {s f o : Nat} {g : TI} (h : fieldOf E.T s f = some (o, g)) :
    ∃ fs fd, E.P.underlying s = some (.struct fs) ∧ fs[f]? = some fd ∧ fd.offset = o ∧ E.T.getR fd.type = some g := by
  unfold fieldOf at h
  split at h <;> try (cases h; done)
  rename_i es hs
  split at h <;> try (cases h; done)
  rename_i fs hfs
  split at h <;> try (cases h; done)
  rename_i fd hfd
  split at h <;> try (cases h; done)
  rename_i g' hg
  injection h with h
  injection h with h1 h2
  subst h2
  obtain ⟨hu, _⟩ := hE.types s es hs
  rw [hfs] at hu
  exact ⟨fs, fd, hu, hfd, h1, hg⟩
theorem s_field (hE : EnvOk E) (hi : Inv E κ q w) (he : ∀ x, gAV E κ (e x) (ρ x)) {s f : Nat} {x : Operand} (h : aField E.T e s x f = some av) :
    Yields E κ q ((do pure (.value (← Instr.field s (ρ x) f)) : Sem Next).run E.P w) av := by
  unfold aField at h
  have hx := he x
  split at h <;> try (cases h; done)
  rename_i o g l hf hp
  rw [hp] at hx
  obtain ⟨cs, h1, h2⟩ := hx
  rw [h1]
  obtain ⟨fs, fd, hu, hfd, ho, hg⟩ := fieldOf_spec hE hf
  obtain ⟨hug, i, j1, j2, j3, j4⟩ := hE.types _ g hg
  have hlen := h2.len
  split at h
  · rename_i hst
    obtain ⟨fs', hfs'⟩ := isStruct_not hst
    split at h <;> try (cases h; done)
    rename_i hle
    injection h with h; subst h
    have hr : (do pure (.value (← Instr.field s (.agg cs) f)) : Sem Next).run E.P w = .ok (.value (.agg (cs.extract o (o + g.size)))) w := by
      simp [Instr.field, run_underlying hu, hfd, asAgg, part, isAgg, run_underlying hug, hfs', sizeOf, run_info j1, j2, ho]
    rw [hr]
    refine .val hi ⟨_, rfl, gList.of (by simp; simp at hlen; omega) (fun j a v ha hv => ?_)⟩
    have hj : j < g.size := by
      have := (List.getElem?_eq_some_iff.mp ha).1
      simp at this; omega
    refine gList.at (i := o + j) h2 ?_ ?_
    · rw [List.getElem?_take_of_lt hj, List.getElem?_drop] at ha; exact ha
    · simp only [Array.toList_extract, List.extract_eq_take_drop] at hv
      rw [List.getElem?_take_of_lt (by omega), List.getElem?_drop] at hv
      exact hv
  · split at h <;> try (cases h; done)
    rename_i hfl
    split at h <;> try (cases h; done)
    rename_i a ha
    injection h with h; subst h
    have ho' : o < cs.toList.length := by rw [← hlen]; exact (List.getElem?_eq_some_iff.mp ha).1
    have hv : cs.toList[o]? = some cs.toList[o] := List.getElem?_eq_getElem ho'
    have hv2 : cs[o]? = some cs.toList[o] := by rw [← Array.getElem?_toList]; exact hv
    have hr : (do pure (.value (← Instr.field s (.agg cs) f)) : Sem Next).run E.P w = .ok (.value cs.toList[o]) w := by
      cases hd : g.und <;> rw [hd] at hfl hug <;> simp [isFlat] at hfl <;> simp [Instr.field, run_underlying hu, hfd, asAgg, part, isAgg, run_underlying hug, ho, hv2]
    rw [hr]
    exact .val hi (gList.at h2 ha hv)
theorem s_fieldAddr (hE : EnvOk E) (hi : Inv E κ q w) (he : ∀ x, gAV E κ (e x) (ρ x)) {s f : Nat} {x : Operand} (h : aFieldAddr E.T e s x f = some av) :
    Yields E κ q ((do pure (.value (← Instr.fieldAt s (ρ x) f)) : Sem Next).run E.P w) av := by
  unfold aFieldAddr at h
  have hx := he x
  split at h <;> try (cases h; done)
  rename_i o g t off hf hp
  rw [hp] at hx
  obtain ⟨b, k, N, h1, h2, h3, h4⟩ := hx
  rw [h1]
  obtain ⟨fs, fd, hu, hfd, ho, hg⟩ := fieldOf_spec hE hf
  obtain ⟨hug, i, j1, j2, j3, j4⟩ := hE.types _ g hg
  obtain ⟨hs1, _⟩ := hE.sizes _ g hg
  split at h <;> try (cases h; done)
  rename_i et ht
  split at h <;> try (cases h; done)
  rename_i hlt
  injection h with h; subst h
  have hz : ¬ i.size = 0 := by omega
  have hr : (do pure (.value (← Instr.fieldAt s (.pointer (some ⟨b, k * E.sz t + off, none⟩)) f)) : Sem Next).run E.P w = .ok (.value (.pointer (some ⟨b, k * E.sz t + (off + o), none⟩))) w := by
    simp [Instr.fieldAt, run_underlying hu, hfd, Instr.sureAddr, fieldPlace, sizeOf, run_info j1, hz, addr_add, ho, Nat.add_assoc]
  rw [hr]
  exact .val hi ⟨b, k, N, rfl, h2, h3, by rw [Env.sz_of' ht]; exact hlt⟩
theorem s_indexAddr (hE : EnvOk E) (hi : Inv E κ q w) (he : ∀ x, gAV E κ (e x) (ρ x)) {t : Nat} {x ix : Operand} (h : aIndexAddr E.T e t x ix = some av) :
    Yields E κ q ((do pure (.value (← Instr.indexAt t (ρ x) (ρ ix))) : Sem Next).run E.P w) av := by
  unfold aIndexAddr at h
  have hx := he x
  have hix := he ix
  split at h <;> try (cases h; done)
  rename_i et ht
  split at h <;> try (cases h; done)
  rename_i el u lo hi' kk a b hund hp hpi
  rw [hp] at hx
  rw [hpi] at hix
  split at h <;> try (cases h; done)
  rename_i ee hee
  split at h <;> try (cases h; done)
  rename_i hc
  obtain ⟨rfl, c1, c2⟩ := hc
  injection h with h; subst h
  obtain ⟨A, n, c, h1, h2, h3, h4, h5⟩ := hx
  obtain ⟨m, m1, m2, m3⟩ := hix
  rw [h1, m1]
  obtain ⟨hut, _⟩ := hE.types t et ht
  rw [hund] at hut
  obtain ⟨hue, i, j1, j2, j3, j4⟩ := hE.types' _ ee hee
  obtain ⟨hs1, _⟩ := hE.sizes' _ ee hee
  rcases h5 with ⟨rfl, h5⟩ | ⟨bb, k, N, rfl, h6, h7⟩
  · omega
  have hr : (do pure (.value (← Instr.indexAt t (.slice (some ⟨bb, k * E.sz u, none⟩) n c) (.int kk m))) : Sem Next).run E.P w = .ok (.value (.pointer (some ⟨bb, (k + m.toNat) * E.sz u + 0, none⟩))) w := by
    have hm : 0 ≤ m ∧ m < (n : Int) := by omega
    simp [Instr.indexAt, asIntOf, run_underlying hut, hm, sizeOf, run_info j1, j2, addr_add, Env.sz_of' hee, Nat.add_mul]
  rw [hr]
  exact .val hi ⟨bb, k + m.toNat, N, rfl, h6, by omega, by rw [Env.sz_of' hee]; exact hs1⟩
theorem s_extract (hi : Inv E κ q w) (he : ∀ x, gAV E κ (e x) (ρ x)) {x : Operand} {j : Nat} (h : aExtract e x j = some av) :
    Yields E κ q ((do pure (.value (← Instr.extract (ρ x) j)) : Sem Next).run E.P w) av := by
  unfold aExtract at h
  have hx := he x
  split at h <;> try (cases h; done)
  rename_i l hp
  rw [hp] at hx
  obtain ⟨vs, h1, h2⟩ := hx
  rw [h1]
  split at h <;> try (cases h; done)
  rename_i y hy
  injection h with h; subst h
  obtain ⟨v, h3, h4⟩ := h2.at hy
  have hr : (do pure (.value (← Instr.extract (.tuple vs) j)) : Sem Next).run E.P w = .ok (.value v) w := by
    have : vs[j]? = some v := by rw [← Array.getElem?_toList]; exact h3
    simp [Instr.extract, this]
  rw [hr]
  exact .val hi h4
end
end Go.Proofs.Ytjleempapphlhab.Typ
namespace Go.Proofs.Ytjleempapphlhab.Typ
open Go Go.RowKit
set_option linter.unusedVariables false
section
variable {E : Env} {κ : Kr} {q : Nat} {w : World}
theorem gList.append : ∀ {a b : List At} {x y : List Value}, gList E κ a x → gList E κ b y → gList E κ (a ++ b) (x ++ y)
  | [], _, [], _, _, h => h
  | _ :: _, _, _ :: _, _, ⟨h1, h2⟩, h => ⟨h1, gList.append h2 h⟩
theorem gList.take : ∀ {a : List At} {x : List Value} (n : Nat), gList E κ a x → gList E κ (a.take n) (x.take n)
  | [], [], n, _ => by simp; trivial
  | _ :: _, _ :: _, 0, _ => trivial
  | _ :: _, _ :: _, n + 1, ⟨h1, h2⟩ => ⟨h1, gList.take n h2⟩
theorem gList.drop : ∀ {a : List At} {x : List Value} (n : Nat), gList E κ a x → gList E κ (a.drop n) (x.drop n)
  | [], [], n, _ => by simp; trivial
  | _ :: _, _ :: _, 0, h => h
  | _ :: _, _ :: _, n + 1, ⟨h1, h2⟩ => gList.drop n h2
/-- Cells keep to a type. -/
def Fits (E : Env) (κ : Kr) (t : Nat) (cs : List Value) : Prop := ∀ (i : Nat) (x : Value), cs[i]? = some x → ∃ a, (E.cells t)[i % E.sz t]? = some a ∧ gAt E κ a x
theorem Fits.append {t n : Nat} {a b : List Value} (hn : a.length = n * E.sz t) (ha : Fits E κ t a) (hb : Fits E κ t b) : Fits E κ t (a ++ b) := by
  intro i x hx
  by_cases h : i < a.length
  · rw [List.getElem?_append_left h] at hx; exact ha i x hx
  · rw [List.getElem?_append_right (by omega)] at hx
    obtain ⟨c, h1, h2⟩ := hb _ x hx
    refine ⟨c, ?_, h2⟩
    rw [hn] at h1 h
    rw [← h1]
    congr 1
    obtain ⟨j, rfl⟩ : ∃ j, i = n * E.sz t + j := ⟨i - n * E.sz t, by omega⟩
    rw [Nat.add_sub_cancel_left, Nat.add_comm, Nat.add_mul_mod_self_right]
theorem Fits.mono {κ' : Kr} {t : Nat} {a : List Value} (hle : κ.le κ') (ha : Fits E κ t a) : Fits E κ' t a := fun i x hx => by
  obtain ⟨c, h1, h2⟩ := ha i x hx
  exact ⟨c, h1, h2.mono hle⟩
theorem Fits.zeros (hE : EnvOk E) {t : Nat} {et : TI} (ht : E.T.get t = some et) (n : Nat) (f : Nat → Value) (hf : ∀ i, i < n → f i = et.zero.cells[i % et.zero.cells.size]!) : Fits E κ t ((List.range n).map f) := by
  intro i x hx
  obtain ⟨hs1, hs2, hs3⟩ := hE.sizes' t et ht
  rw [List.getElem?_map] at hx
  by_cases hj : i < n
  · rw [List.getElem?_range hj] at hx
    simp at hx
    have hm : i % et.size < et.size := Nat.mod_lt _ hs1
    have hz := hE.zeros' t et ht κ
    rw [Env.sz_of' ht, Env.cells_of' ht]
    refine ⟨et.cells[i % et.size]'(by omega), List.getElem?_eq_getElem (by omega), ?_⟩
    refine gList.at hz (List.getElem?_eq_getElem (by omega)) ?_
    rw [← hx, hf i hj, hs3]
    have : i % et.size < et.zero.cells.size := by omega
    simp [this]
  · rw [List.getElem?_eq_none (by simpa using hj)] at hx
    simp at hx
/-- The elements of a slice. -/
theorem Inv.elems (h : Inv E κ q w) {b t N k n c : Nat} (hb : κ.Γ b = some (t, N)) (hk : k + c ≤ N) (hn : n ≤ c) (hs : 0 < E.sz t) :
    ∃ cs : List Value, cs.length = n * E.sz t ∧ (∀ j v, cs[j]? = some v → w.cell? ((⟨b, k * E.sz t, none⟩ : Addr).add j) = some v) ∧ Fits E κ t cs := by
  have hx : ∀ i, i < n * E.sz t → ∃ x a, w.cell? ⟨b, k * E.sz t + i, none⟩ = some x ∧ (E.cells t)[i % E.sz t]? = some a ∧ gAt E κ a x := fun i hi => by
    have h1 : (k + n) * E.sz t ≤ N * E.sz t := Nat.mul_le_mul_right _ (by omega)
    rw [Nat.add_mul] at h1
    obtain ⟨x, a, h3, _, h4, h5⟩ := h.cell hb (i := k * E.sz t + i) (by omega)
    rw [Nat.add_comm, Nat.add_mul_mod_self_right] at h4
    exact ⟨x, a, h3, h4, h5⟩
  refine ⟨(List.range (n * E.sz t)).map (fun i => (w.cell? ⟨b, k * E.sz t + i, none⟩).getD undef), by simp, fun j v hv => ?_, fun j v hv => ?_⟩
  all_goals
    rw [List.getElem?_map] at hv
    by_cases hj : j < n * E.sz t
    · rw [List.getElem?_range hj] at hv
      simp at hv
      obtain ⟨x, a, h1, h2, h3⟩ := hx j hj
      rw [h1] at hv
      simp at hv
      subst hv
      first | exact ⟨a, h2, h3⟩ | (rw [addr_add]; exact h1)
    · rw [List.getElem?_eq_none (by simpa using hj)] at hv
      simp at hv
theorem Fits.ones {t : Nat} {cs : List Value} (hc : ∀ a ∈ E.cells t, a ≠ .any ∧ a ≠ .code) (h : Fits E κ t cs) : ∀ v ∈ cs, v.oneCell' = true := by
  intro v hv
  obtain ⟨i, hi, rfl⟩ := List.getElem_of_mem hv
  obtain ⟨a, h1, h2⟩ := h i _ (List.getElem?_eq_getElem hi)
  obtain ⟨h3, h4⟩ := hc a (List.mem_of_getElem? h1)
  exact gAt.one h3 h4 h2
end
def aMake (T : Tab) (e : Operand → AV) (t : Nat) (x y : Operand) : Option AV :=
  match T.getR t with
  | some et => match et.und, e x, e y with
    | .slice el, .v (.one (.int _ a b)), .v (.one (.int _ c d)) =>
      match T.getR el with
      | some ee => if a = b ∧ c = d ∧ a = c ∧ 0 ≤ a ∧ a * ee.size ≤ 16777216 ∧ ee.bytes * a ≤ 281474976710656 then some (.v (.one (.slice el a.toNat a.toNat))) else none
      | none => none
    | _, _, _ => none
  | none => none
def aBounds (e : Operand → AV) (lo : Option Operand) : Option (Int × Int) :=
  match lo with
  | none => some (0, 0)
  | some x => match e x with | .v (.one (.int _ a b)) => some (a, b) | _ => none
def aSlice (T : Tab) (e : Operand → AV) (t : Nat) (x : Operand) (lo hi mx : Option Operand) : Option AV :=
  match T.getR t, mx with
  | some et, none => match et.und, e x, aBounds e lo with
    | .slice el, .v (.one (.slice u l h)), some (a, b) =>
      match T.get u with
      | some _ =>
        if el = real u ∧ 0 ≤ a then
          match hi with
          | none => if b ≤ (l : Int) then some (.v (.one (.slice u (l - b.toNat) (h - a.toNat)))) else none
          | some y => match e y with
            | .v (.one (.int _ c d)) => if b ≤ c ∧ d ≤ (l : Int) then some (.v (.one (.slice u (c - b).toNat (d - a).toNat))) else none
            | _ => none
        else none
      | none => none
    | _, _, _ => none
  | _, _ => none
/-- A list that is appended to, a list that is appended. -/
def sliceOf : At → Option (Option Nat × Nat × Nat × Bool)
  | .nil => some (none, 0, 0, false)
  | .slice t lo hi => some (some t, lo, hi, false)
  | .sliceQ t d => some (some t, 0, d, true)
  | _ => none
def mostOf (c : Nat) (j : Bool) : Nat := if j = true then c else 0
/-- What lies in rows of one type may lie in rows of the other. -/
def fitsInto (T : Tab) (v : Option Nat) (u : Nat) (l : List At) : Bool :=
  match v with
  | none => true
  | some v => v == u || (real v == real u && (match T.get v with | some ev => leqs ev.cells l | none => false))
def aAppend (T : Tab) (ts : Array Nat) (args : List AV) : Option AV :=
  match ts.toList, args with
  | [t, t'], [.v (.one x), .v (.one y)] =>
    match T.getR t with
    | some et => match et.und, sliceOf x, sliceOf y with
      | .slice el, some (u, a, b, j), some (v, c, d, j') =>
        match T.get (u.getD el) with
        | some ee => if t = t' ∧ real (u.getD el) = el ∧ fitsInto T v (u.getD el) ee.cells = true ∧ b + d + mostOf 900000 j + mostOf 900000 j' ≤ 1048576 ∧ ee.bytes ≤ 65536 ∧ ee.cells.all (fun a => a != .any && a != .code) = true then
            some (.v (.one (if (j || j') = true then .sliceQ (u.getD el) (b + d) else .slice (u.getD el) (a + c) (b + d)))) else none
        | none => none
      | _, _, _ => none
    | none => none
  | _, _ => none
section
variable {E : Env} {κ : Kr} {q : Nat} {w : World} {ρ : Operand → Value} {e : Operand → AV} {av : AV} {o : Oper}
theorem s_make (hE : EnvOk E) (hi : Inv E κ q w) (he : ∀ x, gAV E κ (e x) (ρ x)) {t : Nat} {x y : Operand} (h : aMake E.T e t x y = some av) :
    Yields E κ q ((do pure (.value (← Instr.makeSlice t (ρ x) (ρ y))) : Sem Next).run E.P w) av := by
  unfold aMake at h
  have hx := he x
  have hy := he y
  split at h <;> try (cases h; done)
  rename_i et ht
  split at h <;> try (cases h; done)
  rename_i el k1 a b k2 c d hund hp1 hp2
  rw [hp1] at hx
  rw [hp2] at hy
  split at h <;> try (cases h; done)
  rename_i ee hee
  split at h <;> try (cases h; done)
  rename_i hc
  obtain ⟨rfl, rfl, rfl, c1, c2, c3⟩ := hc
  injection h with h; subst h
  obtain ⟨n, n1, n2, n3⟩ := hx
  obtain ⟨m, m1, m2, m3⟩ := hy
  obtain rfl : n = a := by omega
  obtain rfl : m = n := by omega
  rw [n1, m1]
  obtain ⟨hut, _⟩ := hE.types t et ht
  rw [hund] at hut
  obtain ⟨hue, i, j1, j2, j3, j4⟩ := hE.types _ ee hee
  obtain ⟨hs1, hs2, hs3⟩ := hE.sizes _ ee hee
  have hm0 : m.toNat * i.size ≤ 16777216 := by
    rw [j2]
    have : ((m.toNat * ee.size : Nat) : Int) = m * ee.size := by rw [Int.natCast_mul]; congr 1; omega
    omega
  have hr := run_makeSlice (P := E.P) w t el i ee.zero hut j1 j4 k1 k2 m m c1 (Int.le_refl _) hm0 (by rw [j3]; exact c3) (by
    have h0 : m * 1 ≤ m * ee.size := Int.mul_le_mul_of_nonneg_left (by omega) c1
    omega)
  have hsz : (madeCells ee.zero.cells (m.toNat * i.size)).size = m.toNat * E.sz el := by simp [madeCells, j2, Env.sz_of hee]
  obtain ⟨hle, hinv⟩ := hi.alloc hE (Tab.getR_real hee) m.toNat (madeCells ee.zero.cells (m.toNat * i.size)) hsz (fun j v hv => by
    have := Fits.zeros (κ := κ) hE (Tab.getR_get hee) (m.toNat * i.size) (fun j => ee.zero.cells[j % ee.zero.cells.size]!) (fun _ _ => rfl) j v (by
      unfold madeCells at hv
      rw [← Array.getElem?_toList] at hv
      simpa using hv)
    exact this)
  refine ⟨_, _, _, by rw [Sem.run_bind, hr]; rfl, hle, hinv, .inl ⟨_, rfl, some ⟨w.heap.size, 0, none⟩, m.toNat, m.toNat, rfl, Nat.le_refl _, Nat.le_refl _, Nat.le_refl _, .inr ⟨w.heap.size, 0, m.toNat, by simp, by simp [Kr.add], by omega⟩⟩⟩
theorem aBounds_spec (he : ∀ x, gAV E κ (e x) (ρ x)) {lo : Option Operand} {a b : Int} (h : aBounds e lo = some (a, b)) :
    (lo = none ∧ a = 0 ∧ b = 0) ∨ ∃ x k n, lo = some x ∧ ρ x = .int k n ∧ a ≤ n ∧ n ≤ b := by
  unfold aBounds at h
  split at h
  · injection h with h; injection h with h1 h2; exact .inl ⟨rfl, h1.symm, h2.symm⟩
  · rename_i x
    have hx := he x
    split at h <;> try (cases h; done)
    rename_i k a' b' hp
    rw [hp] at hx
    injection h with h; injection h with h1 h2
    subst h1; subst h2
    obtain ⟨n, h1, h2, h3⟩ := hx
    exact .inr ⟨x, k, n, rfl, h1, h2, h3⟩
theorem s_slice (hE : EnvOk E) (hi : Inv E κ q w) (he : ∀ x, gAV E κ (e x) (ρ x)) {t : Nat} {x : Operand} {lo hi' mx : Option Operand} (h : aSlice E.T e t x lo hi' mx = some av) :
    Yields E κ q ((do pure (.value (← Instr.sliceAt t (ρ x) (lo.map ρ) (hi'.map ρ) (mx.map ρ))) : Sem Next).run E.P w) av := by
  unfold aSlice at h
  have hx := he x
  split at h <;> try (cases h; done)
  rename_i et ht
  split at h <;> try (cases h; done)
  rename_i el u l hh a b hund hp hb
  rw [hp] at hx
  split at h <;> try (cases h; done)
  rename_i ee hee
  split at h <;> try (cases h; done)
  rename_i hc
  obtain ⟨rfl, c1⟩ := hc
  obtain ⟨A, n, c, h1, h2, h3, h4, h5⟩ := hx
  rw [h1]
  obtain ⟨hut, _⟩ := hE.types t et ht
  rw [hund] at hut
  obtain ⟨hue, i, j1, j2, j3, j4⟩ := hE.types' _ ee hee
  obtain ⟨hs1, _⟩ := hE.sizes' _ ee hee
  have hsz : E.sz u = i.size := by rw [Env.sz_of' hee, j2]
  -- what the cut is
  have cut : ∀ p m : Nat, p ≤ m → m ≤ c → gAt E κ (.slice u (m - p) (m - p)) (.slice (if c = p then A else A.map (·.add (p * i.size))) (m - p) (c - p)) := by
    intro p m hpm hmc
    refine ⟨_, m - p, c - p, rfl, Nat.le_refl _, Nat.le_refl _, by omega, ?_⟩
    rcases h5 with ⟨rfl, h5⟩ | ⟨bb, k, N, rfl, h6, h7⟩
    · left; refine ⟨by split <;> rfl, by omega⟩
    · right
      by_cases hcp : c = p
      · rw [if_pos hcp]; exact ⟨bb, k, N, rfl, h6, by omega⟩
      · rw [if_neg hcp]
        refine ⟨bb, k + p, N, ?_, h6, by omega⟩
        simp [addr_add, hsz, Nat.add_mul]
  have fin : ∀ (p m : Nat) (L H : Nat), p ≤ m → m ≤ c → L ≤ m - p → m - p ≤ H → gAt E κ (.slice u L H) (.slice (if c = p then A else A.map (·.add (p * i.size))) (m - p) (c - p)) := by
    intro p m L H g1 g2 g3 g4
    exact (cut p m g1 g2).leq (by simp [At.leq]; omega)
  rcases aBounds_spec he hb with ⟨rfl, rfl, rfl⟩ | ⟨x0, k0, p, rfl, hp0, g1, g2⟩
  · split at h
    · split at h <;> try (cases h; done)
      injection h with h; subst h
      have hr : (do pure (.value (← Instr.sliceAt t (.slice A n c) none none none)) : Sem Next).run E.P w = .ok (.value (.slice (if c = 0 then A else A.map (·.add (0 * i.size))) (n - 0) (c - 0))) w := by
        simp [Instr.sliceAt, run_underlying hut, Instr.slice, Instr.sliceBounds, sizeOf, run_info j1]
      exact ⟨_, κ, w, hr, Kr.le.refl κ, hi, .inl ⟨_, rfl, fin 0 n _ _ (by omega) h4 (by simp; omega) (by simp; omega)⟩⟩
    · rename_i y
      have hy := he y
      split at h <;> try (cases h; done)
      rename_i ky cc dd hpy
      rw [hpy] at hy
      split at h <;> try (cases h; done)
      rename_i hcd
      injection h with h; subst h
      obtain ⟨m, m1, m2, m3⟩ := hy
      have hm : 0 ≤ m ∧ m ≤ (c : Int) := by omega
      have hr : (do pure (.value (← Instr.sliceAt t (.slice A n c) none (some (ρ y)) none)) : Sem Next).run E.P w = .ok (.value (.slice (if c = 0 then A else A.map (·.add (0 * i.size))) (m.toNat - 0) (c - 0))) w := by
        rw [m1]
        simp [Instr.sliceAt, run_underlying hut, Instr.slice, Instr.sliceBounds, Instr.sliceBound, asIntOf, hm, sizeOf, run_info j1]
      exact ⟨_, κ, w, hr, Kr.le.refl κ, hi, .inl ⟨_, rfl, fin 0 m.toNat _ _ (by omega) (by omega) (by omega) (by omega)⟩⟩
  · split at h
    · split at h <;> try (cases h; done)
      rename_i hbl
      injection h with h; subst h
      have hm : 0 ≤ p ∧ p ≤ (n : Int) := by omega
      have hr : (do pure (.value (← Instr.sliceAt t (.slice A n c) (some (ρ x0)) none none)) : Sem Next).run E.P w = .ok (.value (.slice (if c = p.toNat then A else A.map (·.add (p.toNat * i.size))) (n - p.toNat) (c - p.toNat))) w := by
        rw [hp0]
        simp [Instr.sliceAt, run_underlying hut, Instr.slice, Instr.sliceBounds, Instr.sliceBound, asIntOf, hm, sizeOf, run_info j1]
      exact ⟨_, κ, w, hr, Kr.le.refl κ, hi, .inl ⟨_, rfl, fin p.toNat n _ _ (by omega) h4 (by omega) (by omega)⟩⟩
    · rename_i y
      have hy := he y
      split at h <;> try (cases h; done)
      rename_i ky cc dd hpy
      rw [hpy] at hy
      split at h <;> try (cases h; done)
      rename_i hcd
      injection h with h; subst h
      obtain ⟨m, m1, m2, m3⟩ := hy
      have hm : 0 ≤ m ∧ m ≤ (c : Int) := by omega
      have hp1 : 0 ≤ p ∧ p ≤ m := by omega
      have hp2 : p ≤ max m 0 := by omega
      have hr : (do pure (.value (← Instr.sliceAt t (.slice A n c) (some (ρ x0)) (some (ρ y)) none)) : Sem Next).run E.P w = .ok (.value (.slice (if c = p.toNat then A else A.map (·.add (p.toNat * i.size))) (m.toNat - p.toNat) (c - p.toNat))) w := by
        rw [hp0, m1]
        simp [Instr.sliceAt, run_underlying hut, Instr.slice, Instr.sliceBounds, Instr.sliceBound, asIntOf, hm, hp1.1, hp2, sizeOf, run_info j1]
      exact ⟨_, κ, w, hr, Kr.le.refl κ, hi, .inl ⟨_, rfl, fin p.toNat m.toNat _ _ (by omega) (by omega) (by omega) (by omega)⟩⟩
theorem sliceOf_spec {x : At} {v : Value} {u : Option Nat} {a b el : Nat} {j : Bool} (h : sliceOf x = some (u, a, b, j)) (hu : u = none ∨ u = some el) (hg : gAt E κ x v) :
    gAt E κ (.slice el a (b + mostOf κ.c j)) v := by
  cases x <;> simp [sliceOf] at h
  · obtain ⟨rfl, rfl, rfl, rfl⟩ := h
    exact hg.leq rfl
  · obtain ⟨rfl, rfl, rfl, rfl⟩ := h
    rcases hu with hu | hu
    · cases hu
    · injection hu with hu; subst hu; exact hg
  · obtain ⟨rfl, rfl, rfl, rfl⟩ := h
    rcases hu with hu | hu
    · cases hu
    · injection hu with hu; subst hu
      obtain ⟨A, n, c, rfl, h1, h2⟩ := hg
      exact ⟨A, n, c, rfl, Nat.zero_le _, by simp [mostOf]; omega, h2⟩
theorem mostOf_le {c : Nat} (h : c ≤ 900000) (j : Bool) : mostOf c j ≤ mostOf 900000 j := by cases j <;> simp [mostOf]; exact h
theorem s_len (hE : EnvOk E) (hi : Inv E κ q w) {ts : Array Nat} {args : List AV} {vs : Array Value} {ty : Nat} (hg : ∀ (i : Nat) (a : AV), args[i]? = some a → ∃ v, vs[i]? = some v ∧ gAV E κ a v) (hl : vs.size = args.length) (h : aLen E.T ts args = some av) :
    Yields E κ q ((do pure (.value (← Builtin.len_ ts ty vs)) : Sem Next).run E.P w) av := by
  unfold aLen at h
  split at h <;> try (cases h; done)
  rename_i t a hts
  have hts' : ts = #[t] := by rw [← Array.toArray_toList (xs := ts), hts]
  subst hts'
  obtain ⟨v, hv, hgv⟩ := hg 0 _ rfl
  obtain rfl : vs = #[v] := by
    apply Array.ext (by simpa using hl)
    intro i h1 h2
    obtain rfl : i = 0 := by simp at h2; omega
    rw [Array.getElem?_eq_getElem h1] at hv
    injection hv
  split at h <;> try (cases h; done)
  rename_i et ht
  obtain ⟨hut, _⟩ := hE.types t et ht
  split at h <;> try (cases h; done)
  all_goals
    rename_i hund
    rw [hund] at hut
    injection h with h; subst h
  · obtain ⟨A, n, c, rfl, h2, h3, _⟩ := hgv
    have hr : (do pure (.value (← Builtin.len_ #[t] ty #[.slice A n c])) : Sem Next).run E.P w = .ok (.value (.int .i64 n)) w := by
      simp [Builtin.len_, run_underlying hut, goInt]
    exact ⟨_, κ, w, hr, Kr.le.refl κ, hi, .inl ⟨_, rfl, n, rfl, by omega, by omega⟩⟩
  · rw [show v = .slice none 0 0 from hgv]
    have hr : (do pure (.value (← Builtin.len_ #[t] ty #[.slice none 0 0])) : Sem Next).run E.P w = .ok (.value (.int .i64 0)) w := by
      simp [Builtin.len_, run_underlying hut, goInt]
    exact ⟨_, κ, w, hr, Kr.le.refl κ, hi, .inl ⟨_, rfl, 0, rfl, by omega, by omega⟩⟩
  · obtain ⟨A, n, c, rfl, h2, h3, _⟩ := hgv
    have hr : (do pure (.value (← Builtin.len_ #[t] ty #[.slice A n c])) : Sem Next).run E.P w = .ok (.value (.int .i64 n)) w := by
      simp [Builtin.len_, run_underlying hut, goInt]
    have := hi.c.2
    exact ⟨_, κ, w, hr, Kr.le.refl κ, hi, .inl ⟨_, rfl, n, rfl, by omega, by omega⟩⟩
  · obtain ⟨s, rfl, h2⟩ := hgv
    have hr : (do pure (.value (← Builtin.len_ #[t] ty #[.string s])) : Sem Next).run E.P w = .ok (.value (.int .i64 s.size)) w := by
      simp [Builtin.len_, run_underlying hut, goInt]
    exact ⟨_, κ, w, hr, Kr.le.refl κ, hi, .inl ⟨_, rfl, s.size, rfl, by omega, by omega⟩⟩
theorem firstCells_of (hi : Inv E κ q w) {el : Nat} (hs : 0 < E.sz el) {A : Option Addr} {n c : Nat} (hn : n ≤ c) (h5 : (A = none ∧ c = 0) ∨ ∃ b k N, A = some ⟨b, k * E.sz el, none⟩ ∧ κ.Γ b = some (el, N) ∧ k + c ≤ N) :
    ∃ cs : List Value, cs.length = n * E.sz el ∧ Fits E κ el cs ∧ (Builtin.firstCells (E.sz el) n (.slice A n c)).run E.P w = .ok cs.toArray w ∧ (Builtin.firstCells (E.sz el) n (.slice A n c)).run E.P w.drew = .ok cs.toArray w.drew := by
  rcases h5 with ⟨rfl, rfl⟩ | ⟨b, k, N, rfl, h6, h7⟩
  · obtain rfl : n = 0 := by omega
    exact ⟨[], by simp, fun i x hx => by simp at hx, run_firstCells_none w _ _ _ _, run_firstCells_none w.drew _ _ _ _⟩
  · obtain ⟨cs, h8, h9, h10⟩ := hi.elems h6 h7 hn hs
    exact ⟨cs, h8, h10, run_firstCells_some w _ _ _ _ _ cs h8 h9, run_firstCells_some w.drew _ _ _ _ _ cs h8 (by simpa using h9)⟩
theorem leqs_at : ∀ {l m : List At} {i : Nat} {a : At}, leqs l m = true → l[i]? = some a → ∃ b, m[i]? = some b ∧ a.leq b = true
  | a :: l, b :: m, 0, _, h, ha => by
    simp [leqs] at h
    simp at ha
    subst ha
    exact ⟨b, rfl, h.1⟩
  | a :: l, b :: m, i + 1, _, h, ha => by
    simp [leqs] at h
    simpa using leqs_at h.2 (by simpa using ha)
theorem fitsInto_spec (hE : EnvOk E) {v : Option Nat} {u : Nat} {ee : TI} (hee : E.T.get u = some ee) (h : fitsInto E.T v u ee.cells = true) :
    E.sz (v.getD u) = E.sz u ∧ ∀ cs, Fits E κ (v.getD u) cs → Fits E κ u cs := by
  cases v with
  | none => exact ⟨rfl, fun _ h => h⟩
  | some v =>
    simp only [fitsInto, Bool.or_eq_true, beq_iff_eq, Bool.and_eq_true] at h
    rcases h with rfl | ⟨h1, h2⟩
    · exact ⟨rfl, fun _ h => h⟩
    · split at h2 <;> try (cases h2; done)
      rename_i ev hev
      have hsz : E.sz v = E.sz u := by rw [Env.sz_of' hev, Env.sz_of' hee]; exact hE.same hev hee h1
      refine ⟨hsz, fun cs hf i x hx => ?_⟩
      obtain ⟨a, g1, g2⟩ := hf i x hx
      change (E.cells v)[i % E.sz v]? = some a at g1
      rw [Env.cells_of' hev, hsz] at g1
      obtain ⟨b, k1, k2⟩ := leqs_at h2 g1
      exact ⟨b, by rw [Env.cells_of' hee]; exact k1, g2.leq k2⟩
theorem s_append (hE : EnvOk E) (hi : Inv E κ q w) {ts : Array Nat} {args : List AV} {vs : Array Value} {ty : Nat} (hg : ∀ (i : Nat) (a : AV), args[i]? = some a → ∃ v, vs[i]? = some v ∧ gAV E κ a v) (hl : vs.size = args.length) (h : aAppend E.T ts args = some av) :
    Yields E κ q ((do pure (.value (← Builtin.append_ ts ty vs)) : Sem Next).run E.P w) av := by
  unfold aAppend at h
  split at h <;> try (cases h; done)
  rename_i t t' x y hts
  have hts' : ts = #[t, t'] := by rw [← Array.toArray_toList (xs := ts), hts]
  subst hts'
  obtain ⟨vx, hvx, hgx⟩ := hg 0 _ rfl
  obtain ⟨vy, hvy, hgy⟩ := hg 1 _ rfl
  obtain rfl : vs = #[vx, vy] := by
    apply Array.ext (by simpa using hl)
    intro i h1 h2
    rcases (show i = 0 ∨ i = 1 by simp at h2; omega) with rfl | rfl
    · rw [Array.getElem?_eq_getElem h1] at hvx; injection hvx
    · rw [Array.getElem?_eq_getElem h1] at hvy; injection hvy
  split at h <;> try (cases h; done)
  rename_i et ht
  split at h <;> try (cases h; done)
  rename_i el u a b j v c d j' hund hsx hsy
  split at h <;> try (cases h; done)
  rename_i ee hee
  split at h <;> try (cases h; done)
  rename_i hc
  obtain ⟨rfl, c0, c2, c3, c4, c5⟩ := hc
  injection h with h; subst h
  obtain ⟨hut, _⟩ := hE.types t et ht
  rw [hund] at hut
  have c1 : u = none ∨ u = some (u.getD el) := by cases u <;> simp
  generalize u.getD el = uu at hee c0 c1 c2 ⊢
  subst c0
  have c2' : v = none ∨ v = some (v.getD uu) := by cases v <;> simp
  obtain ⟨y5, y6⟩ := fitsInto_spec (κ := κ) hE hee c2
  generalize v.getD uu = vv at c2' y5 y6
  obtain ⟨hue, i, j1, j2, j3, j4⟩ := hE.types' _ ee hee
  obtain ⟨hs1, hs2, hs3⟩ := hE.sizes' _ ee hee
  have hsz : i.size = E.sz uu := by rw [Env.sz_of' hee, j2]
  obtain ⟨A, n, cp, rfl, x1, x2, x3, x4⟩ := sliceOf_spec hsx c1 hgx
  obtain ⟨B, m, dp, rfl, y1, y2, y3, y4⟩ := sliceOf_spec hsy c2' hgy
  have hcm := hi.c.2
  have hjx := mostOf_le hcm j
  have hjy := mostOf_le hcm j'
  have fin : ∀ κ', κ.le κ' → ∀ (A' : Option Addr) (c' : Nat), n + m ≤ c' → ((A' = none ∧ c' = 0) ∨ ∃ b k N, A' = some ⟨b, k * E.sz uu, none⟩ ∧ κ'.Γ b = some (uu, N) ∧ k + c' ≤ N) →
      gAV E κ' (.v (.one (if (j || j') = true then .sliceQ uu (b + d) else .slice uu (a + c) (b + d)))) (.slice A' (n + m) c') := by
    intro κ' hle A' c' hc' hrow
    have hcc := hle.c
    show gAt E κ' _ _
    have m0 : ∀ c, mostOf c false = 0 := fun _ => rfl
    have m1 : ∀ c, mostOf c true = c := fun _ => rfl
    cases j <;> cases j' <;> simp only [m0, m1] at x2 y2 c3
    · exact ⟨A', n + m, c', rfl, by omega, by omega, hc', hrow⟩
    · exact ⟨A', n + m, c', rfl, by omega, hc', hrow⟩
    · exact ⟨A', n + m, c', rfl, by omega, hc', hrow⟩
    · exfalso; omega
  have hsp : 0 < E.sz uu := by rw [Env.sz_of' hee]; exact hs1
  obtain ⟨olds, o1, o2, o3, o4⟩ := firstCells_of hi hsp x3 x4
  obtain ⟨news, w1, w2, w3, w4⟩ := firstCells_of hi (by rw [y5]; exact hsp) y3 y4
  have w2 := y6 news w2
  rw [y5] at w1 w3 w4
  have hones : ∀ u ∈ news, u.oneCell' = true := Fits.ones (fun a ha => by
    rw [Env.cells_of' hee] at ha
    have := List.all_eq_true.mp c5 a ha
    simpa using this) w2
  by_cases hroom : n + m ≤ cp
  · rcases x4 with ⟨rfl, rfl⟩ | ⟨bb, k, N, rfl, h6, h7⟩
    · obtain rfl : n = 0 := by omega
      obtain rfl : m = 0 := by omega
      have hnil : news = [] := List.eq_nil_of_length_eq_zero (by rw [w1]; simp)
      have hr : (do pure (.value (← Builtin.append_ #[t, t] ty #[.slice none 0 0, .slice B 0 dp])) : Sem Next).run E.P w = .ok (.value (.slice none 0 0)) w := by
        rw [← hsz] at w3
        simp [Builtin.append_, run_underlying hut, sizeOf, run_info j1, Builtin.lenOf, w3]
      exact ⟨_, κ, w, hr, Kr.le.refl κ, hi, .inl ⟨_, rfl, fin κ (Kr.le.refl κ) none 0 (by omega) (.inl ⟨rfl, rfl⟩)⟩⟩
    · obtain ⟨_, _, cur, r1, r2, r3⟩ := hi.rows bb uu N h6
      have hle : (k + n + m) * E.sz uu ≤ N * E.sz uu := Nat.mul_le_mul_right _ (by omega)
      rw [Nat.add_mul, Nat.add_mul] at hle
      have hst := run_storeCells_at E.P bb (k * E.sz uu + n * E.sz uu) (real uu) news 0 cur w r1 (by omega) hones
      simp only [Nat.add_zero] at hst
      have hr : (do pure (.value (← Builtin.append_ #[t, t] ty #[.slice (some ⟨bb, k * E.sz uu, none⟩) n cp, .slice B m dp])) : Sem Next).run E.P w = .ok (.value (.slice (some ⟨bb, k * E.sz uu, none⟩) (n + m) cp)) (w.setRow bb (cur.toList.take (k * E.sz uu + n * E.sz uu) ++ news ++ cur.toList.drop (k * E.sz uu + n * E.sz uu + news.length)).toArray) := by
        simp [Builtin.append_, run_underlying hut, sizeOf, run_info j1, Builtin.lenOf, hroom, hsz, w3, addr_add, hst]
      have hfit : Fits E κ uu (cur.toList.take (k * E.sz uu + n * E.sz uu) ++ news ++ cur.toList.drop (k * E.sz uu + n * E.sz uu + news.length)) := by
        have hcur : Fits E κ uu cur.toList := fun j x hx => r3 j x (by rw [← Array.getElem?_toList]; exact hx)
        refine Fits.append (n := k + n + m) (by simp [w1, Nat.add_mul]; omega) (Fits.append (n := k + n) (by simp [Nat.add_mul]; omega) ?_ w2) ?_
        · intro j x hx
          by_cases hj : j < k * E.sz uu + n * E.sz uu
          · rw [List.getElem?_take_of_lt hj] at hx; exact hcur j x hx
          · rw [List.getElem?_eq_none (by simp; omega)] at hx; cases hx
        · intro j x hx
          rw [List.getElem?_drop] at hx
          obtain ⟨a, g1, g2⟩ := hcur _ x hx
          refine ⟨a, ?_, g2⟩
          rw [← g1, w1]
          congr 1
          rw [show k * E.sz uu + n * E.sz uu + m * E.sz uu + j = j + (k + n + m) * E.sz uu by rw [Nat.add_mul, Nat.add_mul]; omega, Nat.add_mul_mod_self_right]
      have hinv := hi.put hE h6 _ (by simp [w1]; omega) (fun j x hx => hfit j x (by rw [List.getElem?_toArray] at hx; exact hx)) (w.setRow bb (cur.toList.take (k * E.sz uu + n * E.sz uu) ++ news ++ cur.toList.drop (k * E.sz uu + n * E.sz uu + news.length)).toArray) ⟨rfl, rfl, rfl, by simp [World.setRow]⟩ (setRow_heap w bb cur _ (real uu) (0, 0) r1) (fun j hj => by
        unfold World.setRow
        simp only
        rw [Array.getElem?_modify, if_neg (fun e => hj e.symm)])
      exact ⟨_, κ, _, hr, Kr.le.refl κ, hinv, .inl ⟨_, rfl, fin κ (Kr.le.refl κ) _ cp hroom (.inr ⟨bb, k, N, rfl, h6, h7⟩)⟩⟩
  · have hlt : cp < n + m := by omega
    have hsm : n + m ≤ 1048576 := by omega
    have hby : i.bytes ≤ 65536 := by omega
    have hmul : (n + m) * i.bytes ≤ 1048576 * 65536 := Nat.mul_le_mul hsm hby
    have hfits := growslice_fits (old := cp) (bytes := i.bytes) hlt (by omega)
    have h63 : ¬ ((9223372036854775807 : Int) < (n : Int) + (m : Int)) := by omega
    have h48 : ¬ (281474976710656 < Builtin.nextslicecap (n + m) cp * i.bytes) := by omega
    have hge := grownCap_ge w (n + m) cp (real uu)
    have hr : (do pure (.value (← Builtin.append_ #[t, t] ty #[.slice A n cp, .slice B m dp])) : Sem Next).run E.P w =
        .ok (.value (.slice (some ⟨w.heap.size, 0, none⟩) (n + m) (grownCap w (n + m) cp (real uu)))) (w.drew.alloc (.cells ((olds ++ news).toArray ++ Builtin.zeroCells ee.zero.cells (grownCap w (n + m) cp (real uu) - (n + m))) (real uu))) := by
      rw [← hsz] at w4 o4
      simp [Builtin.append_, run_underlying hut, sizeOf, run_info j1, zeroValue, j4, Builtin.lenOf, hroom, h63, h48, Question.forced, w4, o4, newRow, grownCap]
      congr 2
      apply Array.ext'
      simp
    have hfit : Fits E κ uu (olds ++ news ++ (Builtin.zeroCells ee.zero.cells (grownCap w (n + m) cp (real uu) - (n + m))).toList) := by
      refine Fits.append (n := n + m) (by simp [o1, w1, Nat.add_mul]) (Fits.append o1 o2 w2) ?_
      have := Fits.zeros (κ := κ) hE hee ((grownCap w (n + m) cp (real uu) - (n + m)) * ee.zero.cells.size) (fun j => ee.zero.cells[j % ee.zero.cells.size]!) (fun _ _ => rfl)
      unfold Builtin.zeroCells
      simpa using this
    obtain ⟨hle, hinv⟩ := (hi.drew hE).alloc hE (t := uu) rfl (grownCap w (n + m) cp (real uu)) ((olds ++ news).toArray ++ Builtin.zeroCells ee.zero.cells (grownCap w (n + m) cp (real uu) - (n + m))) (by
      simp [o1, w1, size_zeroCells, hs3, Env.sz_of' hee, ← Nat.add_mul]
      congr 1; omega) (fun j x hx => hfit j x (by rw [← Array.getElem?_toList] at hx; simpa using hx))
    exact ⟨_, _, _, hr, hle, hinv, .inl ⟨_, rfl, fin _ hle _ _ hge (.inr ⟨w.heap.size, 0, grownCap w (n + m) cp (real uu), by simp, by simp [Kr.add], by omega⟩)⟩⟩
end
end Go.Proofs.Ytjleempapphlhab.Typ
namespace Go.Proofs.Ytjleempapphlhab.Typ
open Go Go.RowKit
set_option linter.unusedVariables false
/-- Cells set one behind the other. -/
theorem fold_set (off : Nat) : ∀ (vs : List Value) (n : Nat) (cs : Array Value), off + n + vs.length ≤ cs.size →
    ((vs.zipIdx n).foldl (fun (cs : Array Value) (p : Value × Nat) => cs.setIfInBounds (off + p.2) p.1) cs).toList = cs.toList.take (off + n) ++ vs ++ cs.toList.drop (off + n + vs.length)
  | [], n, cs, _ => by simp
  | v :: vs, n, cs, h => by
    simp only [List.length_cons] at h
    rw [List.zipIdx_cons, List.foldl_cons, fold_set off vs (n + 1) _ (by simp; omega)]
    simp only [Array.toList_setIfInBounds, List.length_cons]
    have hk : off + n < cs.toList.length := by simp; omega
    have h1 : (cs.toList.set (off + n) v).take (off + n + 1) = cs.toList.take (off + n) ++ [v] := by
      rw [List.set_eq_take_append_cons_drop, if_pos hk, List.take_append]
      simp
      rw [show min (off + n) cs.size = off + n by omega, List.take_of_length_le (by simp; omega)]
      simp
    rw [show off + (n + 1) = off + n + 1 by omega, h1, List.drop_set_of_lt (by omega)]
    simp
    congr 1
    omega
theorem fill_one (off : Nat) (v : Value) (cs : Array Value) (h : off + v.cells.size ≤ cs.size) :
    (v.cells.zipIdx.foldl (fun (cs : Array Value) (p : Value × Nat) => cs.setIfInBounds (off + p.2) p.1) cs).toList = cs.toList.take off ++ v.cells.toList ++ cs.toList.drop (off + v.cells.size) := by
  have := fold_set off v.cells.toList 0 cs (by simpa using h)
  rw [← Array.foldl_toList, Array.toList_zipIdx]
  simpa using this
def placesOf (T : Tab) : List Field → Option (List (Nat × Nat))
  | [] => some []
  | f :: fs => match T.getR f.type, placesOf T fs with
    | some g, some l => some ((f.offset, g.size) :: l)
    | _, _ => none
def afill (pl : List (Nat × Nat)) : List At → List (Nat × AV) → Option (List At)
  | acc, [] => some acc
  | acc, (i, x) :: rest =>
    match pl[i]?, x with
    | some (off, size), .v y => match y.cells with
      | some l => if l.length = size ∧ off + l.length ≤ acc.length then afill pl (acc.take off ++ l ++ acc.drop (off + l.length)) rest else none
      | none => none
    | _, _ => none
def aBuild (T : Tab) (e : Operand → AV) (t : Nat) (parts : Array (Nat × Operand)) : Option AV :=
  match T.getR t with
  | some et => match et.und with
    | .struct fs => match placesOf T fs.toList with
      | some pl => match afill pl (et.zero.cells.toList.map absV) (parts.toList.map fun p => (p.1, e p.2)) with
        | some l => some (.v (.agg l))
        | none => none
      | none => none
    | _ => none
  | none => none
def partsFit (cells : List At) (n : Nat) : List (Nat × AV) → Bool
  | [] => true
  | (i, .v y) :: rest => decide (i < n) && (match y.cells with | some l => leqs l cells | none => false) && partsFit cells n rest
  | _ :: _ => false
/-- The first table whose rows may hold these. -/
def firstFit (T : Tab) (el n : Nat) (parts : List (Nat × AV)) : List Nat → Option Nat
  | [] => none
  | u :: us => match T.get u with
    | some ee => if real u = el ∧ n * ee.size ≤ 16777216 ∧ partsFit ee.cells n parts = true then some u else firstFit T el n parts us
    | none => firstFit T el n parts us
def altsOf (el : Nat) : List Nat := (List.range 22).map (fun k => if k = 21 then el else el + 1000 * (k + 1))
theorem firstFit_spec {T : Tab} {el n : Nat} {parts : List (Nat × AV)} {u : Nat} : ∀ {us : List Nat}, firstFit T el n parts us = some u → ∃ ee, T.get u = some ee ∧ real u = el ∧ n * ee.size ≤ 16777216 ∧ partsFit ee.cells n parts = true
  | v :: us, h => by
    unfold firstFit at h
    split at h
    · rename_i ee he
      split at h
      · rename_i hc
        injection h with h; subst h
        exact ⟨ee, he, hc⟩
      · exact firstFit_spec h
    · exact firstFit_spec h
def aBuildSlice (T : Tab) (e : Operand → AV) (t : Nat) (n : Nat) (parts : Array (Nat × Operand)) : Option AV :=
  match T.getR t with
  | some et => match et.und with
    | .slice el => match firstFit T el n (parts.toList.map fun p => (p.1, e p.2)) (if n = 0 then [el] else altsOf el) with
      | some u => some (.v (.one (.slice u n n)))
      | none => none
    | _ => none
  | none => none
section
variable {E : Env} {κ : Kr} {q : Nat} {w : World} {ρ : Operand → Value} {e : Operand → AV} {av : AV} {o : Oper}
theorem places_run (hE : EnvOk E) : ∀ (fs : List Field) (pl : List (Nat × Nat)), placesOf E.T fs = some pl →
    (fs.mapM (fun f => do pure (f.offset, ← sizeOf f.type)) : Sem (List (Nat × Nat))).run E.P w = .ok pl w
  | [], pl, h => by simp [placesOf] at h; subst h; rfl
  | f :: fs, pl, h => by
    unfold placesOf at h
    split at h <;> try (cases h; done)
    rename_i g l hg hl
    injection h with h; subst h
    obtain ⟨hu, i, j1, j2, _⟩ := hE.types _ g hg
    have ih := places_run hE fs l hl
    rw [List.mapM_cons]
    simp [sizeOf, run_info j1, j2] at ih ⊢
    simp [ih]
theorem fill_sound {pl : List (Nat × Nat)} {place : Nat → Option (Nat × Nat)} (hp : ∀ i, place i = pl[i]?) : ∀ (parts : List (Nat × AV)) (vs : List (Nat × Value)) (acc l : List At) (cs : Array Value),
    parts.length = vs.length → (∀ (k i : Nat) (x : AV), parts[k]? = some (i, x) → ∃ v, vs[k]? = some (i, v) ∧ gAV E κ x v) → gList E κ acc cs.toList → afill pl acc parts = some l →
    ∃ cs', Instr.fill place cs vs = some cs' ∧ gList E κ l cs'.toList
  | [], [], acc, l, cs, _, _, hg, h => by
    injection h with h; subst h
    exact ⟨cs, rfl, hg⟩
  | [], _ :: _, _, _, _, hl, _, _, _ => by simp at hl
  | _ :: _, [], _, _, _, hl, _, _, _ => by simp at hl
  | (i, x) :: parts, (j, v) :: vs, acc, l, cs, hl, hps, hg, h => by
    obtain ⟨v', h1, h2⟩ := hps 0 i x rfl
    injection h1 with h1
    injection h1 with h3 h4
    subst h3; subst h4
    unfold afill at h
    split at h <;> try (cases h; done)
    rename_i off size y hpl
    split at h <;> try (cases h; done)
    rename_i lc hlc
    split at h <;> try (cases h; done)
    rename_i hc
    have hcl := V1.cells_sound hlc h2
    have n1 := hcl.len
    have n2 := hg.len
    simp at n1 n2
    have hsz : off + v.cells.size ≤ cs.size := by omega
    unfold Instr.fill
    rw [hp, hpl]
    simp only
    rw [if_neg (show ¬ ((decide (v.cells.size ≠ size) || decide (off + v.cells.size > cs.size)) = true) by simp; omega)]
    refine fill_sound hp parts vs _ l _ (by simpa using hl) (fun k i x hk => hps (k + 1) i x (by simpa using hk)) ?_ h
    rw [fill_one off v cs hsz]
    rw [n1]
    exact ((hg.take off).append hcl).append (hg.drop _)
theorem fill_row (hE : EnvOk E) {t : Nat} {et : TI} (ht : E.T.get t = some et) (n : Nat) : ∀ (parts : List (Nat × AV)) (vs : List (Nat × Value)) (cs : Array Value),
    parts.length = vs.length → (∀ (k i : Nat) (x : AV), parts[k]? = some (i, x) → ∃ v, vs[k]? = some (i, v) ∧ gAV E κ x v) → cs.size = n * E.sz t → Fits E κ t cs.toList → partsFit et.cells n parts = true →
    ∃ cs', Instr.fill (fun i => some (i * et.size, et.size)) cs vs = some cs' ∧ cs'.size = n * E.sz t ∧ Fits E κ t cs'.toList
  | [], [], cs, _, _, hs, hf, h => ⟨cs, rfl, hs, hf⟩
  | [], _ :: _, _, hl, _, _, _, _ => by simp at hl
  | _ :: _, [], _, hl, _, _, _, _ => by simp at hl
  | (i, x) :: parts, (j, v) :: vs, cs, hl, hps, hs, hf, h => by
    obtain ⟨v', h1, h2⟩ := hps 0 i x rfl
    injection h1 with h1
    injection h1 with h3 h4
    subst h3; subst h4
    obtain ⟨hs1, hs2, hs3⟩ := hE.sizes' t et ht
    cases x with
    | tup l => simp [partsFit] at h
    | v y =>
      simp only [partsFit, Bool.and_eq_true, decide_eq_true_eq] at h
      obtain ⟨⟨hin, hy⟩, hrest⟩ := h
      split at hy <;> try (cases hy; done)
      rename_i lc hlc
      have hcl := (V1.cells_sound hlc h2).leqs hy
      have n1 := hcl.len
      simp at n1
      have hsz := Env.sz_of' ht
      have hle : (j + 1) * et.size ≤ n * et.size := Nat.mul_le_mul_right _ hin
      rw [Nat.succ_mul] at hle
      have hb : j * et.size + v.cells.size ≤ cs.size := by rw [hs, hsz]; omega
      unfold Instr.fill
      simp only
      rw [if_neg (show ¬ ((decide (v.cells.size ≠ et.size) || decide (j * et.size + v.cells.size > cs.size)) = true) by simp; omega)]
      have hone := fill_one (j * et.size) v cs hb
      have hlen : (v.cells.zipIdx.foldl (fun (cs : Array Value) (p : Value × Nat) => cs.setIfInBounds (j * et.size + p.2) p.1) cs).size = n * E.sz t := by
        rw [← Array.length_toList, hone]
        simp; omega
      refine fill_row hE ht n parts vs _ (by simpa using hl) (fun k i x hk => hps (k + 1) i x (by simpa using hk)) hlen ?_ hrest
      rw [hone]
      have hvf : Fits E κ t v.cells.toList := fun k x hk => by
        have hkl : k < et.size := by
          have := (List.getElem?_eq_some_iff.mp hk).1
          simp at this; omega
        rw [hsz, Env.cells_of' ht, Nat.mod_eq_of_lt hkl]
        exact ⟨et.cells[k]'(by omega), List.getElem?_eq_getElem (by omega), gList.at hcl (List.getElem?_eq_getElem (by omega)) hk⟩
      refine Fits.append (n := j + 1) (by simp [hsz, Nat.succ_mul]; omega) (Fits.append (n := j) (by simp [hsz]; omega) ?_ hvf) ?_
      · intro k x hk
        by_cases hkj : k < j * et.size
        · rw [List.getElem?_take_of_lt hkj] at hk; exact hf k x hk
        · rw [List.getElem?_eq_none (by simp; omega)] at hk; cases hk
      · intro k x hk
        rw [List.getElem?_drop] at hk
        obtain ⟨a, g1, g2⟩ := hf _ x hk
        refine ⟨a, ?_, g2⟩
        rw [← g1]
        congr 1
        rw [show j * et.size + v.cells.size + k = k + (j + 1) * E.sz t by rw [hsz, Nat.succ_mul]; omega, Nat.add_mul_mod_self_right]
theorem parts_map (he : ∀ x, gAV E κ (e x) (ρ x)) (ps : List (Nat × Operand)) : ∀ (k i : Nat) (x : AV), (ps.map fun p => (p.1, e p.2))[k]? = some (i, x) → ∃ v, (ps.map fun p => (p.1, ρ p.2))[k]? = some (i, v) ∧ gAV E κ x v := by
  intro k i x hk
  rw [List.getElem?_map] at hk
  cases hp : ps[k]? with
  | none => rw [hp] at hk; cases hk
  | some p =>
    rw [hp] at hk
    injection hk with hk
    injection hk with h1 h2
    subst h1; subst h2
    exact ⟨ρ p.2, by rw [List.getElem?_map, hp]; rfl, he p.2⟩
theorem s_build (hE : EnvOk E) (hi : Inv E κ q w) (he : ∀ x, gAV E κ (e x) (ρ x)) {t : Nat} {parts : Array (Nat × Operand)} (h : aBuild E.T e t parts = some av) :
    Yields E κ q ((do pure (.value (← Instr.build t (parts.map fun (i, x) => (i, ρ x)))) : Sem Next).run E.P w) av := by
  unfold aBuild at h
  split at h <;> try (cases h; done)
  rename_i et ht
  split at h <;> try (cases h; done)
  rename_i fs hfs
  split at h <;> try (cases h; done)
  rename_i pl hpl
  split at h <;> try (cases h; done)
  rename_i l hl
  injection h with h; subst h
  obtain ⟨hut, i, j1, j2, j3, j4⟩ := hE.types t et ht
  rw [hfs] at hut
  obtain ⟨cs', f1, f2⟩ := fill_sound (κ := κ) (pl := pl) (place := (pl.toArray[·]?)) (fun i => by simp) _ (parts.toList.map fun p => (p.1, ρ p.2)) _ l et.zero.cells (by simp) (parts_map he parts.toList) (by
    exact gList_absV _) hl
  have hpr := places_run (w := w) hE fs.toList pl hpl
  have hpr' : (fs.mapM (fun f => do pure (f.offset, ← sizeOf f.type)) : Sem (Array (Nat × Nat))).run E.P w = .ok pl.toArray w := by
    rw [Array.mapM_eq_mapM_toList]
    simp only [Sem.run_map, hpr]
    rfl
  have hr : (do pure (.value (← Instr.build t (parts.map fun (i, x) => (i, ρ x)))) : Sem Next).run E.P w = .ok (.value (.agg cs')) w := by
    have hm : (parts.map fun (i, x) => (i, ρ x)).toList = parts.toList.map fun p => (p.1, ρ p.2) := by simp
    simp only [Instr.build, Sem.run_bind, zeroValue, run_info j1, j4, Result.andThen_ok, run_underlying hut, Sem.run_pure, hpr', hm]
    rw [f1]
    rfl
  rw [hr]
  exact .val hi ⟨cs', rfl, f2⟩
theorem s_buildSlice (hE : EnvOk E) (hi : Inv E κ q w) (he : ∀ x, gAV E κ (e x) (ρ x)) {t n : Nat} {parts : Array (Nat × Operand)} (h : aBuildSlice E.T e t n parts = some av) :
    Yields E κ q ((do pure (.value (← Instr.buildSlice t n (parts.map fun (i, x) => (i, ρ x)))) : Sem Next).run E.P w) av := by
  unfold aBuildSlice at h
  split at h <;> try (cases h; done)
  rename_i et ht
  split at h <;> try (cases h; done)
  rename_i el hund
  split at h <;> try (cases h; done)
  rename_i u hfit
  obtain ⟨ee, hee, hru, hc⟩ := firstFit_spec hfit
  subst hru
  injection h with h; subst h
  obtain ⟨hut, _⟩ := hE.types t et ht
  rw [hund] at hut
  obtain ⟨hue, i, j1, j2, j3, j4⟩ := hE.types' _ ee hee
  obtain ⟨hs1, hs2, hs3⟩ := hE.sizes' _ ee hee
  have hsz := Env.sz_of' hee
  have h0 : Fits E κ u ((Array.range (n * ee.size)).map (ee.zero.cells[· % ee.zero.cells.size]!)).toList := by
    have := Fits.zeros (κ := κ) hE hee (n * ee.size) (fun j => ee.zero.cells[j % ee.zero.cells.size]!) (fun _ _ => rfl)
    simpa using this
  obtain ⟨cs', f1, f2, f3⟩ := fill_row (κ := κ) hE hee n _ (parts.toList.map fun p => (p.1, ρ p.2)) _ (by simp) (parts_map he parts.toList) (by simp [hsz]) h0 hc.2
  obtain ⟨hle, hinv⟩ := hi.alloc hE (t := u) rfl n cs' f2 (fun j x hx => f3 j x (by rw [Array.getElem?_toList]; exact hx))
  have hm : (parts.map fun (i, x) => (i, ρ x)).toList = parts.toList.map fun p => (p.1, ρ p.2) := by simp
  have hr : (do pure (.value (← Instr.buildSlice t n (parts.map fun (i, x) => (i, ρ x)))) : Sem Next).run E.P w = .ok (.value (.slice (some ⟨w.heap.size, 0, none⟩) n n)) (w.alloc (.cells cs' (real u))) := by
    have hbig : ¬ (n * ee.size > 2 ^ 24) := by omega
    by_cases hz : n * ee.size = 0
    · have hn : n = 0 := by
        rcases Nat.mul_eq_zero.mp hz with h | h
        · exact h
        · omega
      rw [hz] at f1
      simp only [Instr.buildSlice, Sem.run_bind, run_underlying hut, Result.andThen_ok, sizeOf, run_info j1, Sem.run_pure, j2, hm, hz, if_true]
      simp only [Array.range_zero', Array.map_empty] at f1 ⊢
      simp [f1, newRow]
    · simp only [Instr.buildSlice, Sem.run_bind, run_underlying hut, Result.andThen_ok, sizeOf, run_info j1, Sem.run_pure, j2, hm, if_neg hbig, if_neg hz, zeroValue, j4]
      rw [f1]
      simp [newRow]
  exact ⟨_, _, _, hr, hle, hinv, .inl ⟨_, rfl, some ⟨w.heap.size, 0, none⟩, n, n, rfl, Nat.le_refl _, Nat.le_refl _, Nat.le_refl _, .inr ⟨w.heap.size, 0, n, by simp, by simp [Kr.add], by omega⟩⟩⟩
end
def absOp (T : Tab) (op : Op) (e : Operand → AV) : Option AV :=
  match op with
  | .move x => aMove e x
  | .assign x => aMove e x
  | .pick c a b => aPick e c a b
  | .alloc t => aAlloc T t
  | .build t ps => aBuild T e t ps
  | .buildSlice t n ps => aBuildSlice T e t n ps
  | .load t x => aLoad T e t x
  | .store t x y => aStore T e t x y
  | .binOp op _ x y _ => aBin e op x y
  | .unOp op _ x => aUn e op x
  | .convert s d x => aConv T e s d x
  | .makeSlice t l c => aMake T e t l c
  | .slice t x lo hi mx => aSlice T e t x lo hi mx
  | .fieldAddr s x f => aFieldAddr T e s x f
  | .field s x f => aField T e s x f
  | .indexAddr t x i => aIndexAddr T e t x i
  | .extract x i => aExtract e x i
  | .call ⟨.builtin .len, args, ts⟩ => aLen T ts (args.toList.map e)
  | .call ⟨.builtin .append, args, ts⟩ => aAppend T ts (args.toList.map e)
  | _ => none
section
variable {E : Env} {κ : Kr} {q : Nat} {w : World} {ρ : Operand → Value} {e : Operand → AV} {av : AV} {o : Oper}
theorem args_map (he : ∀ x, gAV E κ (e x) (ρ x)) (args : Array Operand) : ∀ (i : Nat) (a : AV), (args.toList.map e)[i]? = some a → ∃ v, (args.map ρ)[i]? = some v ∧ gAV E κ a v := by
  intro i a h
  rw [List.getElem?_map] at h
  cases hx : args.toList[i]? with
  | none => rw [hx] at h; cases h
  | some x =>
    rw [hx] at h
    injection h with h
    subst h
    rw [Array.getElem?_toList] at hx
    exact ⟨ρ x, by simp [hx], he x⟩
theorem absOp_sound (hE : EnvOk E) (hi : Inv E κ q w) (he : ∀ x, gAV E κ (e x) (ρ x)) (h : absOp E.T o.op e = some av) : Yields E κ q ((execOp ρ o).run E.P w) av := by
  unfold absOp at h
  unfold execOp
  split at h
  all_goals try (cases h; done)
  all_goals
    rename_i hop
    rw [hop]
    simp only
  · exact s_move hi he h
  · exact s_move hi he h
  · exact s_pick hi he h
  · exact s_alloc hE hi h
  · exact s_build hE hi he h
  · exact s_buildSlice hE hi he h
  · exact s_load hE hi he h
  · exact s_store hE hi he h
  · exact s_bin hi he h
  · exact s_un hi he h
  · exact s_conv hE hi he h
  · exact s_make hE hi he h
  · exact s_slice hE hi he h
  · exact s_fieldAddr hE hi he h
  · exact s_field hE hi he h
  · exact s_indexAddr hE hi he h
  · exact s_extract hi he h
  · exact s_len hE hi (args_map he _) (by simp) h
  · exact s_append hE hi (args_map he _) (by simp) h
end
end Go.Proofs.Ytjleempapphlhab.Typ
end
