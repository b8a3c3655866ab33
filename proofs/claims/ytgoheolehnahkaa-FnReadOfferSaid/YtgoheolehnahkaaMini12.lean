/- Exact values: code, loops, functions. -/
import Derived.Test.YtgoheolehnahkaaMini11
namespace Go.Proofs.Ytgoheolehnahkaa.Mini
open Go Go.RowKit
set_option linter.unusedVariables false

/-! ### What is carried round a loop -/
inductive SA where
  | any
  | kd (k : Kd)
  | sl (t id : Nat)
  | ptr (id off : Nat)
inductive SV where
  | one (s : SA)
  | agg (l : List SA)
  | skip
inductive SR where
  | gone
  | fix (t : Nat) (l : List SA)
  | sym (t : Nat)
structure Shape where
  tmps : List SV
  rows : List SR
  pin : Nat
/-- How many cells it takes. -/
def SA.n : SA → Nat
  | .kd _ => 1
  | .sl _ _ => 2
  | _ => 0
def SA.inst (xs : List D) (j : Nat) : SA → A
  | .any => .any
  | .kd k => .d (sel xs j k)
  | .sl t id => .sl t id (selI xs j).toNat (selI xs (j + 1)).toNat
  | .ptr id off => .ptr id off
def instL (xs : List D) : Nat → List SA → List A
  | _, [] => []
  | j, s :: l => s.inst xs j :: instL xs (j + s.n) l
def lenL : List SA → Nat
  | [] => 0
  | s :: l => s.n + lenL l
def SV.n : SV → Nat
  | .one s => s.n
  | .agg l => lenL l
  | .skip => 0
def SV.inst (xs : List D) (j : Nat) : SV → AV
  | .one s => .v (.one (s.inst xs j))
  | .agg l => .v (.agg (instL xs j l))
  | .skip => anyV
def instV (xs : List D) : Nat → List SV → List AV
  | _, [] => []
  | j, s :: l => s.inst xs j :: instV xs (j + s.n) l
def lenV : List SV → Nat
  | [] => 0
  | s :: l => s.n + lenV l
def SR.n : SR → Nat
  | .gone => 0
  | .fix _ l => lenL l
  | .sym _ => 1
def SR.inst (xs : List D) (j : Nat) : SR → Option Row
  | .gone => none
  | .fix t l => some (.fix t (instL xs j l))
  | .sym t => some (.sym t (selL xs j))
def instR (xs : List D) : Nat → List SR → List (Option Row)
  | _, [] => []
  | j, s :: l => s.inst xs j :: instR xs (j + s.n) l
def Shape.inst (s : Shape) (xs : List D) : St := ⟨instV xs 0 s.tmps, instR xs (lenV s.tmps) s.rows⟩

/-- The cells that a value gives to a shape; rows have other names there. -/
def SA.ex (ren : Nat → Option Nat) : SA → A → Option (List D)
  | .any, _ => some []
  | .kd k, .d d => if fitK d k = true then some [d] else none
  | .kd (.list t), .nil => some [.list t 0 []]
  | .kd .bool, .lit b => some [.bool b]
  | .sl t id, .sl t' id' off len => if t = t' ∧ ren id = some id' then some [.int .i64 off, .int .i64 len] else none
  | .sl t id, .nil => if ren id = none then some [.int .i64 0, .int .i64 0] else none
  | .ptr id off, .ptr id' off' => if off = off' ∧ ren id = some id' then some [] else none
  | _, _ => none
def exL (ren : Nat → Option Nat) : List SA → List A → Option (List D)
  | [], [] => some []
  | s :: l, a :: as => match s.ex ren a, exL ren l as with | some x, some y => some (x ++ y) | _, _ => none
  | _, _ => none
def SV.ex (ren : Nat → Option Nat) : SV → AV → Option (List D)
  | .one s, .v (.one a) => s.ex ren a
  | .agg l, .v (.agg as) => exL ren l as
  | .skip, _ => some []
  | _, _ => none
def exV (ren : Nat → Option Nat) : List SV → List AV → Option (List D)
  | [], [] => some []
  | s :: l, a :: as => match s.ex ren a, exV ren l as with | some x, some y => some (x ++ y) | _, _ => none
  | _, _ => none
/-- A row, under the name that it has now. -/
def SR.ex (ren : Nat → Option Nat) (H : List (Option Row)) (id : Nat) : SR → Option (List D)
  | .gone => some []
  | .fix t l => match ren id with
    | some id' => match cs H id' with
      | some (.fix t' as) => if t = t' then exL ren l as else none
      | _ => none
    | none => none
  | .sym t => match ren id with
    | some id' => match cs H id' with
      | some row => if row.t = t then (match rowD row with | some ds => some [.list t 0 ds] | none => none) else none
      | none => none
    | none => some [.list t 0 []]
def exR (ren : Nat → Option Nat) (H : List (Option Row)) : Nat → List SR → Option (List D)
  | _, [] => some []
  | id, s :: l => match s.ex ren H id, exR ren H (id + 1) l with | some x, some y => some (x ++ y) | _, _ => none
/-- The names of rows. -/
def SA.pairs : SA → A → List (Nat × Nat)
  | .sl _ id, .sl _ id' _ _ => [(id, id')]
  | .ptr id _, .ptr id' _ => [(id, id')]
  | _, _ => []
def pairsL : List SA → List A → List (Nat × Nat)
  | s :: l, a :: as => s.pairs a ++ pairsL l as
  | _, _ => []
def pairsV : List SV → List AV → List (Nat × Nat)
  | .one s :: l, .v (.one a) :: as => s.pairs a ++ pairsV l as
  | .agg m :: l, .v (.agg b) :: as => pairsL m b ++ pairsV l as
  | _ :: l, _ :: as => pairsV l as
  | _, _ => []
def find_ : List (Nat × Nat) → Nat → Option Nat
  | [], _ => none
  | (k, x) :: l, i => if k = i then some x else find_ l i
def pairsR (H : List (Option Row)) (ps : List (Nat × Nat)) : Nat → List SR → List (Nat × Nat)
  | _, [] => []
  | id, .fix _ l :: rs => (match find_ ps id with
    | some id' => match cs H id' with | some (.fix _ as) => pairsL l as | _ => []
    | none => []) ++ pairsR H ps (id + 1) rs
  | id, _ :: rs => pairsR H ps (id + 1) rs
def renOf (s : Shape) (σ : St) : List (Option Nat) :=
  let p1 := pairsV s.tmps σ.tmps
  let p2 := p1 ++ pairsR σ.H p1 0 s.rows
  (List.range s.rows.length).map (find_ p2)
def Shape.ex (s : Shape) (σ : St) : Option (List D) :=
  let ren := renOf s σ
  if (ren.filterMap fun x => x).Nodup ∧ (∀ i, i < s.pin → ren[i]? = some (some i)) then
    match exV (fun id => (ren[id]?).join) s.tmps σ.tmps, exR (fun id => (ren[id]?).join) σ.H 0 s.rows with
    | some x, some y => some (x ++ y)
    | _, _ => none
  else none
section
variable {P : Program} {w0 : Bs} {κ : Kr} {C : Cs} {w : World} {F : Tb} {a : Act} {J : Nat → List D → Prop} {Q : List D → Prop}
/-- Names of rows, exchanged. -/
def Kr.ren (κ : Kr) (ren : Nat → Option Nat) : Kr := ⟨fun id => (ren id).bind κ.at_, κ.z⟩
theorem ex_len {ren : Nat → Option Nat} {s : SA} {a : A} {x : List D} (h : s.ex ren a = some x) : x.length = s.n := by
  unfold SA.ex at h
  split at h <;> try (cases h; done)
  · injection h with h; subst h; rfl
  · split at h <;> try (cases h; done)
    injection h with h; subst h; rfl
  · injection h with h; subst h; rfl
  · injection h with h; subst h; rfl
  · split at h <;> try (cases h; done)
    injection h with h; subst h; rfl
  · split at h <;> try (cases h; done)
    injection h with h; subst h; rfl
  · split at h <;> try (cases h; done)
    injection h with h; subst h; rfl
theorem exL_len {ren : Nat → Option Nat} : ∀ {l : List SA} {as : List A} {x : List D}, exL ren l as = some x → x.length = lenL l ∧ l.length = as.length
  | [], [], x, h => by injection h with h; subst h; exact ⟨rfl, rfl⟩
  | s :: l, a :: as, x, h => by
    unfold exL at h
    split at h <;> try (cases h; done)
    rename_i x1 x2 h1 h2
    injection h with h; subst h
    obtain ⟨g1, g2⟩ := exL_len h2
    exact ⟨by rw [List.length_append, ex_len h1, g1]; rfl, by simp [g2]⟩
  | [], _ :: _, x, h => by cases h
  | _ :: _, [], x, h => by cases h
theorem sel_at {pre post : List D} {d : D} {k : Kd} (h : fitK d k = true) : sel (pre ++ d :: post) pre.length k = d := (fitK_sel (ds := pre ++ d :: post) (j := pre.length) (by simp) h).2
theorem selI_at {pre post : List D} {k : IntKind} {n : Int} : selI (pre ++ .int k n :: post) pre.length = n := by unfold selI; simp
theorem inst_ex {ren : Nat → Option Nat} {s : SA} {a : A} {x : List D} (h : s.ex ren a = some x) (pre post : List D) {v : Value} (hv : gA P κ a v) : gA P (κ.ren ren) (s.inst (pre ++ x ++ post) pre.length) v := by
  unfold SA.ex at h
  split at h <;> try (cases h; done)
  · trivial
  · rename_i k d
    split at h <;> try (cases h; done)
    rename_i hf
    injection h with h; subst h
    show gD P κ.z (sel _ _ k) v
    rw [List.append_assoc, List.singleton_append, sel_at hf]
    exact hv
  · rename_i t
    injection h with h; subst h
    show gD P κ.z (sel _ _ (.list t)) v
    rw [List.append_assoc, List.singleton_append, sel_at (by simp [fitK])]
    exact gD_nil (A.toD_sound (P := P) (κ := κ) (a := .nil) rfl hv)
  · rename_i b
    injection h with h; subst h
    show gD P κ.z (sel _ _ .bool) v
    rw [List.append_assoc, List.singleton_append, sel_at (by simp [fitK])]
    obtain rfl : v = .bool b := hv
    exact gbool' (P := P) (κ := κ) b
  · rename_i t id t' id' off len
    split at h <;> try (cases h; done)
    rename_i hc
    obtain ⟨rfl, hc⟩ := hc
    injection h with h; subst h
    have e1 : selI (pre ++ [.int .i64 off, .int .i64 len] ++ post) pre.length = off := by rw [List.append_assoc]; exact selI_at
    have e2 : selI (pre ++ [.int .i64 off, .int .i64 len] ++ post) (pre.length + 1) = len := by
      have : pre ++ [.int .i64 (off : Int), .int .i64 (len : Int)] ++ post = (pre ++ [.int .i64 (off : Int)]) ++ .int .i64 (len : Int) :: post := by simp
      rw [this, show pre.length + 1 = (pre ++ [D.int .i64 (off : Int)]).length by simp]
      exact selI_at
    show gA P (κ.ren ren) (.sl t id _ _) v
    rw [e1, e2]
    simp only [Int.toNat_natCast]
    obtain ⟨Ad, c, h1, h2, h3⟩ := hv
    exact ⟨Ad, c, h1, h2, h3.imp (fun h => h) (fun ⟨b, o, N, g1, g2⟩ => ⟨b, o, N, by unfold Kr.ren; simp only; rw [hc]; exact g1, g2⟩)⟩
  · rename_i t id
    split at h <;> try (cases h; done)
    rename_i hc
    injection h with h; subst h
    have e1 : selI (pre ++ [.int .i64 0, .int .i64 0] ++ post) pre.length = 0 := by rw [List.append_assoc]; exact selI_at
    have e2 : selI (pre ++ [.int .i64 0, .int .i64 0] ++ post) (pre.length + 1) = 0 := by
      have : pre ++ [.int .i64 0, .int .i64 0] ++ post = (pre ++ [.int .i64 0]) ++ .int .i64 0 :: post := by simp
      rw [this, show pre.length + 1 = (pre ++ [D.int .i64 0]).length by simp]
      exact selI_at
    show gA P (κ.ren ren) (.sl t id _ _) v
    rw [e1, e2]
    exact ⟨none, 0, hv, Nat.le_refl _, .inl ⟨rfl, rfl⟩⟩
  · rename_i id off id' off'
    split at h <;> try (cases h; done)
    rename_i hc
    obtain ⟨rfl, hc⟩ := hc
    obtain ⟨b, o, N, h1, h2⟩ := hv
    exact ⟨b, o, N, by unfold Kr.ren; simp only; rw [hc]; exact h1, h2⟩
theorem instL_ex {ren : Nat → Option Nat} : ∀ {l : List SA} {as : List A} {x : List D}, exL ren l as = some x → ∀ (pre post : List D) {vs : List Value}, gL P κ as vs → gL P (κ.ren ren) (instL (pre ++ x ++ post) pre.length l) vs
  | [], [], x, h, pre, post, vs, hv => by
    have : vs = [] := List.eq_nil_of_length_eq_zero hv.len.symm
    subst this
    trivial
  | s :: l, a :: as, x, h, pre, post, v :: vs, ⟨hv1, hv2⟩ => by
    unfold exL at h
    split at h <;> try (cases h; done)
    rename_i x1 x2 h1 h2
    injection h with h; subst h
    have e1 := inst_ex h1 pre (x2 ++ post) hv1
    have e2 := instL_ex h2 (pre ++ x1) post hv2
    rw [show pre ++ (x1 ++ x2) ++ post = pre ++ x1 ++ (x2 ++ post) by simp]
    refine ⟨e1, ?_⟩
    rw [List.length_append, ex_len h1, show pre ++ x1 ++ x2 ++ post = pre ++ x1 ++ (x2 ++ post) by simp] at e2
    exact e2
  | [], _ :: _, x, h, _, _, _, _ => by cases h
  | _ :: _, [], x, h, _, _, _, _ => by cases h
theorem instL_length (xs : List D) : ∀ (j : Nat) (l : List SA), (instL xs j l).length = l.length
  | _, [] => rfl
  | j, s :: l => by simp [instL, instL_length xs _ l]
theorem exSV_len {ren : Nat → Option Nat} {s : SV} {a : AV} {x : List D} (h : s.ex ren a = some x) : x.length = s.n := by
  unfold SV.ex at h
  split at h <;> try (cases h; done)
  · exact ex_len h
  · exact (exL_len h).1
  · injection h with h; subst h; rfl
theorem instSV_ex {ren : Nat → Option Nat} {s : SV} {a : AV} {x : List D} (h : s.ex ren a = some x) (pre post : List D) {v : Value} (hv : gAV P κ a v) : gAV P (κ.ren ren) (s.inst (pre ++ x ++ post) pre.length) v := by
  unfold SV.ex at h
  split at h <;> try (cases h; done)
  · exact inst_ex h pre post hv
  · obtain ⟨c, rfl, h2⟩ := hv
    exact ⟨c, rfl, instL_ex h pre post h2⟩
  · trivial
theorem instV_ex {ren : Nat → Option Nat} : ∀ {l : List SV} {as : List AV} {x : List D}, exV ren l as = some x → x.length = lenV l ∧ l.length = as.length ∧ ∀ (pre post : List D) (i : Nat) (av : AV), (instV (pre ++ x ++ post) pre.length l)[i]? = some av → ∃ a, as[i]? = some a ∧ ∀ v, gAV P κ a v → gAV P (κ.ren ren) av v
  | [], [], x, h => by injection h with h; subst h; exact ⟨rfl, rfl, fun pre post i av hi => by simp [instV] at hi⟩
  | s :: l, a :: as, x, h => by
    unfold exV at h
    split at h <;> try (cases h; done)
    rename_i x1 x2 h1 h2
    injection h with h; subst h
    obtain ⟨g1, g2, g3⟩ := instV_ex h2
    refine ⟨by rw [List.length_append, exSV_len h1, g1]; rfl, by simp [g2], fun pre post i av hi => ?_⟩
    rw [show pre ++ (x1 ++ x2) ++ post = pre ++ x1 ++ (x2 ++ post) by simp] at hi
    cases i with
    | zero =>
      simp [instV] at hi
      subst hi
      refine ⟨a, rfl, fun v hv => ?_⟩
      have := instSV_ex h1 pre (x2 ++ post) hv
      simpa using this
    | succ i =>
      have := g3 (pre ++ x1) post i av (by
        rw [List.length_append, exSV_len h1, show pre ++ x1 ++ x2 ++ post = pre ++ x1 ++ (x2 ++ post) by simp]
        simpa [instV] using hi)
      simpa using this
  | [], _ :: _, x, h => by cases h
  | _ :: _, [], x, h => by cases h
theorem instV_length (xs : List D) : ∀ (j : Nat) (l : List SV), (instV xs j l).length = l.length
  | _, [] => rfl
  | j, s :: l => by simp [instV, instV_length xs _ l]
theorem exSR_len {ren : Nat → Option Nat} {H : List (Option Row)} {id : Nat} {s : SR} {x : List D} (h : s.ex ren H id = some x) : x.length = s.n := by
  unfold SR.ex at h
  split at h
  · injection h with h; subst h; rfl
  · split at h <;> try (cases h; done)
    split at h <;> try (cases h; done)
    split at h <;> try (cases h; done)
    exact (exL_len h).1
  · split at h
    · split at h <;> try (cases h; done)
      split at h <;> try (cases h; done)
      split at h <;> try (cases h; done)
      injection h with h; subst h; rfl
    · injection h with h; subst h; rfl
/-- A row under its other name. -/
theorem instSR_ex {ren : Nat → Option Nat} {H : List (Option Row)} (hi : Inv P w0 κ (cs H) w) {id : Nat} {s : SR} {x : List D} (h : s.ex ren H id = some x) (pre post : List D) {row : Row} (hr : s.inst (pre ++ x ++ post) pre.length = some row) :
    RowIn P (κ.ren ren) w id row ∧ ∀ b o N, (κ.ren ren).at_ id = some (b, o, N) → ∃ id' row', ren id = some id' ∧ cs H id' = some row' ∧ κ.at_ id' = some (b, o, N) := by
  have hat : ∀ id', ren id = some id' → (κ.ren ren).at_ id = κ.at_ id' := fun id' he => by unfold Kr.ren; simp only; rw [he]; rfl
  have hnat : ren id = none → (κ.ren ren).at_ id = none := fun he => by unfold Kr.ren; simp only; rw [he]; rfl
  have done : ∀ id' row', ren id = some id' → cs H id' = some row' → ∀ b o N, (κ.ren ren).at_ id = some (b, o, N) → ∃ id' row', ren id = some id' ∧ cs H id' = some row' ∧ κ.at_ id' = some (b, o, N) :=
    fun id' row' h1 h2 b o N h3 => ⟨id', row', h1, h2, by rw [← hat id' h1]; exact h3⟩
  unfold SR.ex at h
  split at h
  · cases hr
  · rename_i t l
    split at h <;> try (cases h; done)
    rename_i id' hren
    split at h <;> try (cases h; done)
    rename_i t' as hrow
    split at h <;> try (cases h; done)
    rename_i ht
    subst ht
    injection hr with hr
    subst hr
    refine ⟨?_, done id' _ hren hrow⟩
    have hlen := (exL_len h).2
    rcases hi.live id' _ hrow with ⟨g1, g2⟩ | ⟨b, o, N, arr, g1, g2, g3, g4, g5, g6⟩
    · refine .inl ⟨by rw [hat id' hren]; exact g1, ?_⟩
      change as = [] at g2
      show instL _ _ l = []
      subst g2
      have : l = [] := List.eq_nil_of_length_eq_zero (by simpa using hlen)
      subst this
      rfl
    · refine .inr ⟨b, o, N, arr, by rw [hat id' hren]; exact g1, g2, g3, g4, by show o + (instL _ _ l).length ≤ N; rw [instL_length, hlen]; exact g5, fun j a' hj => ?_⟩
      change (instL (pre ++ x ++ post) pre.length l)[j]? = some a' at hj
      have hjl : j < l.length := by have := (List.getElem?_eq_some_iff.mp hj).1; rwa [instL_length] at this
      -- the values of the row
      have hvals : gL P κ as ((List.range as.length).map fun j => (arr[o + j]?).getD undef) := by
        refine gL.of (by simp) (fun q aq hq => ?_)
        obtain ⟨y, k1, k2⟩ := g6 q aq hq
        have hql := (List.getElem?_eq_some_iff.mp hq).1
        exact ⟨y, by simp [hql, k1], k2⟩
      obtain ⟨v, k1, k2⟩ := (instL_ex h pre post hvals).at hj
      have hja : j < as.length := by omega
      obtain ⟨y, k3, _⟩ := g6 j as[j] (List.getElem?_eq_getElem hja)
      refine ⟨v, ?_, k2⟩
      simp [hja, k3] at k1
      rw [k3, k1]
  · rename_i t
    injection hr with hr
    subst hr
    split at h
    · rename_i id' hren
      split at h <;> try (cases h; done)
      rename_i row' hrow
      split at h <;> try (cases h; done)
      rename_i ht
      split at h <;> try (cases h; done)
      rename_i ds hds
      injection h with h; subst h
      have e1 : selL (pre ++ [.list t 0 ds] ++ post) pre.length = ds := by unfold selL; simp
      refine ⟨?_, done id' _ hren hrow⟩
      show RowIn P _ w id (.sym t (selL _ _))
      rw [e1]
      rcases (hi.live id' _ hrow).ds hds with ⟨g1, g2⟩ | ⟨b, o, N, arr, g1, g2, g3, g4, g5, g6⟩
      · exact .inl ⟨by rw [hat id' hren]; exact g1, by rw [g2]; rfl⟩
      · refine .inr ⟨b, o, N, arr, by rw [hat id' hren]; exact g1, g2, by rw [ht] at g3; exact g3, g4, by simp [Row.as]; exact g5, fun j a' hj => ?_⟩
        simp only [Row.as, List.getElem?_map] at hj
        obtain ⟨d, hd, rfl⟩ := Option.map_eq_some_iff.mp hj
        obtain ⟨y, k1, k2⟩ := g6 j d hd
        exact ⟨y, k1, k2⟩
    · rename_i hren
      injection h with h; subst h
      have e1 : selL (pre ++ [.list t 0 []] ++ post) pre.length = [] := by unfold selL; simp
      refine ⟨?_, fun b o N hb => by rw [hnat hren] at hb; cases hb⟩
      show RowIn P _ w id (.sym t (selL _ _))
      rw [e1]
      exact .inl ⟨hnat hren, rfl⟩
theorem instR_ex {ren : Nat → Option Nat} {H : List (Option Row)} (hi : Inv P w0 κ (cs H) w) : ∀ {l : List SR} {id : Nat} {x : List D}, exR ren H id l = some x → ∀ (pre post : List D) (i : Nat) (row : Row), ((instR (pre ++ x ++ post) pre.length l)[i]?).join = some row →
    RowIn P (κ.ren ren) w (id + i) row ∧ ∀ b o N, (κ.ren ren).at_ (id + i) = some (b, o, N) → ∃ id' row', ren (id + i) = some id' ∧ cs H id' = some row' ∧ κ.at_ id' = some (b, o, N)
  | [], id, x, h, pre, post, i, row, hr => by simp [instR] at hr
  | s :: l, id, x, h, pre, post, i, row, hr => by
    unfold exR at h
    split at h <;> try (cases h; done)
    rename_i x1 x2 h1 h2
    injection h with h; subst h
    rw [show pre ++ (x1 ++ x2) ++ post = pre ++ x1 ++ (x2 ++ post) by simp] at hr
    cases i with
    | zero =>
      simp only [instR, List.getElem?_cons_zero, Option.join_some] at hr
      exact instSR_ex hi h1 pre (x2 ++ post) hr
    | succ i =>
      simp only [instR, List.getElem?_cons_succ] at hr
      have := instR_ex hi h2 (pre ++ x1) post i row (by
        rw [List.length_append, exSR_len h1, show pre ++ x1 ++ x2 ++ post = pre ++ x1 ++ (x2 ++ post) by simp]
        exact hr)
      rw [show id + (i + 1) = id + 1 + i by omega]
      exact this
theorem instR_length (xs : List D) : ∀ (j : Nat) (l : List SR), (instR xs j l).length = l.length
  | _, [] => rfl
  | j, s :: l => by simp [instR, instR_length xs _ l]
/-- At the head of a loop. -/
theorem Shape.ex_sound {s : Shape} {σ : St} {xs : List D} (hpin : w0.bs.length ≤ s.pin) (h : s.ex σ = some xs) (hr : Rel P w0 κ σ a w) : ∃ κ', Rel P w0 κ' (s.inst xs) a w := by
  unfold Shape.ex at h
  simp only at h
  split at h <;> try (cases h; done)
  rename_i hnd
  obtain ⟨hnd, hpi⟩ := hnd
  split at h <;> try (cases h; done)
  rename_i x y hx hy
  injection h with h; subst h
  generalize hren : renOf s σ = rl at hnd hx hy hpi
  have hrl : rl.length = s.rows.length := by rw [← hren]; simp [renOf]
  obtain ⟨g1, g2, g3⟩ := instV_ex (P := P) (κ := κ) hx
  have g4 := fun (i : Nat) (av : AV) (hi : (instV (x ++ y) 0 s.tmps)[i]? = some av) => g3 [] y i av (by simpa using hi)
  have g5 := fun (i : Nat) (row : Row) (hi : ((instR (x ++ y) (lenV s.tmps) s.rows)[i]?).join = some row) => instR_ex hr.inv hy x [] i row (by rw [g1, List.append_nil]; exact hi)
  refine ⟨κ.ren fun id => (rl[id]?).join, ⟨hr.t.defers, by rw [hr.t.size, ← g2]; show s.tmps.length = (instV _ _ s.tmps).length; rw [instV_length], fun i av hi => ?_⟩, ⟨hr.inv.os, hr.inv.tape, hr.inv.output, hr.inv.size, hr.inv.base, hr.inv.z, fun id row hrow => ?_, fun id id' row row' b o N o' N' h1 h2 h3 h4 => ?_, fun id row b o N h1 h3 => ?_⟩, fun id hid => ?_, fun i b o N h9 => ?_⟩
  · obtain ⟨a', k1, k2⟩ := g4 i av hi
    obtain ⟨v, k3, k4⟩ := hr.t.vals i a' k1
    exact ⟨v, k3, k2 v k4⟩
  · have := (g5 id row hrow).1
    rw [Nat.zero_add] at this
    exact this
  · obtain ⟨u, r1, q1, q2, q3⟩ := (g5 id row h1).2 b o N (by rw [Nat.zero_add]; exact h3)
    obtain ⟨u', r2, q4, q5, q6⟩ := (g5 id' row' h2).2 b o' N' (by rw [Nat.zero_add]; exact h4)
    rw [Nat.zero_add] at q1 q4
    obtain rfl := hr.inv.apart u u' r1 r2 b o N o' N' q2 q5 q3 q6
    -- the names are different
    have key : ∀ {l : List (Option Nat)}, (l.filterMap fun x => x).Nodup → ∀ {i j : Nat}, l[i]? = some (some u) → l[j]? = some (some u) → i = j := by
      intro l
      induction l with
      | nil => intro _ i j hi; simp at hi
      | cons o l ih =>
        intro hn i j hi hj
        have hmem : ∀ {k : Nat}, l[k]? = some (some u) → u ∈ l.filterMap fun x => x := fun hk => List.mem_filterMap.mpr ⟨some u, List.mem_of_getElem? hk, rfl⟩
        cases o with
        | none =>
          have hn' : (l.filterMap fun x => x).Nodup := by simpa using hn
          cases i with
          | zero => simp at hi
          | succ i => cases j with
            | zero => simp at hj
            | succ j => exact congrArg (· + 1) (ih hn' (by simpa using hi) (by simpa using hj))
        | some z =>
          have hn' : z ∉ (l.filterMap fun x => x) ∧ (l.filterMap fun x => x).Nodup := by simpa using hn
          cases i with
          | zero =>
            simp at hi
            subst hi
            cases j with
            | zero => rfl
            | succ j => exact absurd (hmem (by simpa using hj)) hn'.1
          | succ i => cases j with
            | zero =>
              simp at hj
              subst hj
              exact absurd (hmem (by simpa using hi)) hn'.1
            | succ j => exact congrArg (· + 1) (ih hn'.2 (by simpa using hi) (by simpa using hj))
    have un : ∀ {i : Nat}, (rl[i]?).join = some u → rl[i]? = some (some u) := fun {i} hi => by
      cases h9 : rl[i]? with
      | none => rw [h9] at hi; cases hi
      | some o => rw [h9] at hi; simp at hi; rw [hi]
    exact key hnd (un q1) (un q4)
  · obtain ⟨u, r1, q1, q2, q3⟩ := (g5 id row h1).2 b o N (by rw [Nat.zero_add]; exact h3)
    exact hr.inv.own u r1 b o N q2 q3
  · have hlen : (instR (x ++ y) (lenV s.tmps) s.rows).length = s.rows.length := instR_length _ _ _
    have hid' : s.rows.length ≤ id := by rw [← hlen]; exact hid
    unfold Kr.ren
    simp only
    rw [List.getElem?_eq_none (by omega)]
    rfl
  · have hlt : i < w0.bs.length := (List.getElem?_eq_some_iff.mp h9).1
    show (rl[i]?).join.bind κ.at_ = _
    rw [hpi i (by omega)]
    exact hr.pin i b o N h9
end
end Go.Proofs.Ytgoheolehnahkaa.Mini
