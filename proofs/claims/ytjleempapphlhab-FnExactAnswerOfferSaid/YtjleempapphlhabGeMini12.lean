/- Parts of the proof: Mini12. -/
import Derived.Test.YtjleempapphlhabGeMini11
section
namespace Go.Proofs.Ytjleempapphlhab.Mini
open Go Go.RowKit
set_option linter.unusedVariables false
inductive SA where
  | any
  | kd (k : Kd)
  | sl (t id : Nat)
  | ptr (id off : Nat)
inductive SV where
  | one (s : SA)
  | agg (l : List SA)
  | skip
inductive SR where
  | gone
  | fix (t : Nat) (l : List SA)
  | sym (t : Nat)
  | deep (t : Nat)
structure Shape where
  tmps : List SV
  rows : List SR
  pin : Nat
/-- How many cells it takes. -/
def SA.n : SA → Nat
  | .kd _ => 1
  | .sl _ _ => 2
  | _ => 0
def SA.inst (xs : List D) (j : Nat) : SA → A
  | .any => .any
  | .kd k => .d (sel xs j k)
  | .sl t id => .sl t id (selI xs j).toNat (selI xs (j + 1)).toNat
  | .ptr id off => .ptr id off
def instL (xs : List D) : Nat → List SA → List A
  | _, [] => []
  | j, s :: l => s.inst xs j :: instL xs (j + s.n) l
def lenL : List SA → Nat
  | [] => 0
  | s :: l => s.n + lenL l
def SV.n : SV → Nat
  | .one s => s.n
  | .agg l => lenL l
  | .skip => 0
def SV.inst (xs : List D) (j : Nat) : SV → AV
  | .one s => .v (.one (s.inst xs j))
  | .agg l => .v (.agg (instL xs j l))
  | .skip => anyV
def instV (xs : List D) : Nat → List SV → List AV
  | _, [] => []
  | j, s :: l => s.inst xs j :: instV xs (j + s.n) l
def lenV : List SV → Nat
  | [] => 0
  | s :: l => s.n + lenV l
def SR.n : SR → Nat
  | .gone => 0
  | .fix _ l => lenL l
  | .sym _ => 1
  | .deep _ => 1
def SR.inst (xs : List D) (j : Nat) : SR → Option Row
  | .gone => none
  | .fix t l => some (.fix t (instL xs j l))
  | .sym t => some (.sym t (selL xs j))
  | .deep t => some (.deep t (selL xs j))
def instR (xs : List D) : Nat → List SR → List (Option Row)
  | _, [] => []
  | j, s :: l => s.inst xs j :: instR xs (j + s.n) l
def Shape.inst (s : Shape) (xs : List D) : St := ⟨instV xs 0 s.tmps, instR xs (lenV s.tmps) s.rows⟩
/-- The cells that a value gives to a shape; rows have other names there. -/
def SA.ex (ren : Nat → Option Nat) : SA → A → Option (List D)
  | .any, _ => some []
  | .kd k, .d d => if fitK d k = true then some [d] else none
  | .kd (.list t), .nil => some [.list t 0 []]
  | .kd .bool, .lit b => some [.bool b]
  | .sl t id, .sl t' id' off len => if t = t' ∧ ren id = some id' then some [.int .i64 off, .int .i64 len] else none
  | .sl t id, .nil => if ren id = none then some [.int .i64 0, .int .i64 0] else none
  | .ptr id off, .ptr id' off' => if off = off' ∧ ren id = some id' then some [] else none
  | _, _ => none
def exL (ren : Nat → Option Nat) : List SA → List A → Option (List D)
  | [], [] => some []
  | s :: l, a :: as => match s.ex ren a, exL ren l as with | some x, some y => some (x ++ y) | _, _ => none
  | _, _ => none
def SV.ex (ren : Nat → Option Nat) : SV → AV → Option (List D)
  | .one s, .v (.one a) => s.ex ren a
  | .agg l, .v (.agg as) => exL ren l as
  | .skip, _ => some []
  | _, _ => none
def exV (ren : Nat → Option Nat) : List SV → List AV → Option (List D)
  | [], [] => some []
  | s :: l, a :: as => match s.ex ren a, exV ren l as with | some x, some y => some (x ++ y) | _, _ => none
  | _, _ => none
/-- A row, under the name that it has now. -/
def SR.ex (ren : Nat → Option Nat) (H : List (Option Row)) (id : Nat) : SR → Option (List D)
  | .gone => some []
  | .fix t l => match ren id with
    | some id' => match cs H id' with
      | some (.fix t' as) => if t = t' then exL ren l as else none
      | _ => none
    | none => none
  | .sym t => match ren id with
    | some id' => match cs H id' with
      | some row => if row.t = t then (match rowD row with | some ds => some [.list t 0 ds] | none => none) else none
      | none => none
    | none => some [.list t 0 []]
  | .deep t => match ren id with
    | some id' => match cs H id' with
      | some (.deep t' ds) => if t' = t then some [.list t 0 ds] else none
      | some row => if row.t = t then (match rowD row with | some ds => some [.list t 0 ds] | none => none) else none
      | none => none
    | none => some [.list t 0 []]
/-- A plain row that is a deep one from here on: none of its lists is its own. -/
def SR.nds (ren : Nat → Option Nat) (H : List (Option Row)) (id : Nat) : SR → List Prop
  | .deep _ => match ren id with
    | some id' => match cs H id' with
      | some (.deep _ _) => []
      | some row => (match rowD row with | some ds => [noOwn ds] | none => [])
      | none => []
    | none => []
  | _ => []
def ndsR (ren : Nat → Option Nat) (H : List (Option Row)) : Nat → List SR → List Prop
  | _, [] => []
  | id, s :: l => s.nds ren H id ++ ndsR ren H (id + 1) l
def exR (ren : Nat → Option Nat) (H : List (Option Row)) : Nat → List SR → Option (List D)
  | _, [] => some []
  | id, s :: l => match s.ex ren H id, exR ren H (id + 1) l with | some x, some y => some (x ++ y) | _, _ => none
/-- The names of rows. -/
def SA.pairs : SA → A → List (Nat × Nat)
  | .sl _ id, .sl _ id' _ _ => [(id, id')]
  | .ptr id _, .ptr id' _ => [(id, id')]
  | _, _ => []
def pairsL : List SA → List A → List (Nat × Nat)
  | s :: l, a :: as => s.pairs a ++ pairsL l as
  | _, _ => []
def pairsV : List SV → List AV → List (Nat × Nat)
  | .one s :: l, .v (.one a) :: as => s.pairs a ++ pairsV l as
  | .agg m :: l, .v (.agg b) :: as => pairsL m b ++ pairsV l as
  | _ :: l, _ :: as => pairsV l as
  | _, _ => []
def find_ : List (Nat × Nat) → Nat → Option Nat
  | [], _ => none
  | (k, x) :: l, i => if k = i then some x else find_ l i
def pairsR (H : List (Option Row)) (ps : List (Nat × Nat)) : Nat → List SR → List (Nat × Nat)
  | _, [] => []
  | id, .fix _ l :: rs => (match find_ ps id with
    | some id' => match cs H id' with | some (.fix _ as) => pairsL l as | _ => []
    | none => []) ++ pairsR H ps (id + 1) rs
  | id, _ :: rs => pairsR H ps (id + 1) rs
def renOf (s : Shape) (σ : St) : List (Option Nat) :=
  let p1 := pairsV s.tmps σ.tmps
  let p2 := p1 ++ pairsR σ.H p1 0 s.rows
  (List.range s.rows.length).map (find_ p2)
def Shape.nds (s : Shape) (σ : St) : List Prop := let ren := renOf s σ; ndsR (fun id => (ren[id]?).join) σ.H 0 s.rows
def Shape.ex (s : Shape) (σ : St) : Option (List D) :=
  let ren := renOf s σ
  if ((ren.filterMap fun x => x).Nodup ∧ (∀ i, i < s.pin → ren[i]? = some (some i))) ∧ σ.H.length ≤ big ∧ s.rows.length ≤ big ∧ (ren.filterMap fun x => x).all (fun i => decide (i < big)) = true then
    match exV (fun id => (ren[id]?).join) s.tmps σ.tmps, exR (fun id => (ren[id]?).join) σ.H 0 s.rows with
    | some x, some y => some (x ++ y)
    | _, _ => none
  else none
section
variable {P : Program} {w0 : Bs} {κ : Kr} {C : Cs} {w : World} {F : Tb} {a : Act} {J : Nat → List D → Prop} {Q : List D → Prop}
/-- Names of rows, exchanged. -/
noncomputable def Kr.ren (κ : Kr) (ren : Nat → Option Nat) (dp : Nat → Bool) : Kr := ⟨fun id => if id < big then (ren id).bind κ.at_ else if dp (innA id) = true then (ren (innA id)).bind (fun i => κ.at_ (inn i (innB id))) else none, κ.z⟩
theorem ren_ord {ren : Nat → Option Nat} {dp : Nat → Bool} {id : Nat} (h : id < big) : (κ.ren ren dp).at_ id = (ren id).bind κ.at_ := by unfold Kr.ren; simp only; rw [if_pos h]
theorem ren_inn {ren : Nat → Option Nat} {dp : Nat → Bool} {id p : Nat} (h : id < big) : (κ.ren ren dp).at_ (inn id p) = if dp id = true then (ren id).bind (fun i => κ.at_ (inn i p)) else none := by
  obtain ⟨a1, a2, a3⟩ := inn_parts (p := p) h
  unfold Kr.ren
  simp only
  rw [if_neg a3, a1, a2]
theorem ex_len {ren : Nat → Option Nat} {s : SA} {a : A} {x : List D} (h : s.ex ren a = some x) : x.length = s.n := by
  unfold SA.ex at h
  split at h <;> try (cases h; done)
  · injection h with h; subst h; rfl
  · split at h <;> try (cases h; done)
    injection h with h; subst h; rfl
  · injection h with h; subst h; rfl
  · injection h with h; subst h; rfl
  · split at h <;> try (cases h; done)
    injection h with h; subst h; rfl
  · split at h <;> try (cases h; done)
    injection h with h; subst h; rfl
  · split at h <;> try (cases h; done)
    injection h with h; subst h; rfl
theorem exL_len {ren : Nat → Option Nat} : ∀ {l : List SA} {as : List A} {x : List D}, exL ren l as = some x → x.length = lenL l ∧ l.length = as.length
  | [], [], x, h => by injection h with h; subst h; exact ⟨rfl, rfl⟩
  | s :: l, a :: as, x, h => by
    unfold exL at h
    split at h <;> try (cases h; done)
    rename_i x1 x2 h1 h2
    injection h with h; subst h
    obtain ⟨g1, g2⟩ := exL_len h2
    exact ⟨by rw [List.length_append, ex_len h1, g1]; rfl, by simp [g2]⟩
  | [], _ :: _, x, h => by cases h
  | _ :: _, [], x, h => by cases h
theorem sel_at {pre post : List D} {d : D} {k : Kd} (h : fitK d k = true) : sel (pre ++ d :: post) pre.length k = d := (fitK_sel (ds := pre ++ d :: post) (j := pre.length) (by simp) h).2
theorem selI_at {pre post : List D} {k : IntKind} {n : Int} : selI (pre ++ .int k n :: post) pre.length = n := by unfold selI; simp
theorem inst_ex {ren : Nat → Option Nat} {dp : Nat → Bool} (hrb : ∀ id id', ren id = some id' → id < big ∧ id' < big) {s : SA} {a : A} {x : List D} (h : s.ex ren a = some x) (pre post : List D) {v : Value} (hv : gA P κ a v) : gA P (κ.ren ren dp) (s.inst (pre ++ x ++ post) pre.length) v := by
  unfold SA.ex at h
  split at h <;> try (cases h; done)
  · trivial
  · rename_i k d
    split at h <;> try (cases h; done)
    rename_i hf
    injection h with h; subst h
    show gD P κ.z (sel _ _ k) v
    rw [List.append_assoc, List.singleton_append, sel_at hf]
    exact hv
  · rename_i t
    injection h with h; subst h
    show gD P κ.z (sel _ _ (.list t)) v
    rw [List.append_assoc, List.singleton_append, sel_at (by simp [fitK])]
    exact gD_nil (A.toD_sound (P := P) (κ := κ) (a := .nil) rfl hv)
  · rename_i b
    injection h with h; subst h
    show gD P κ.z (sel _ _ .bool) v
    rw [List.append_assoc, List.singleton_append, sel_at (by simp [fitK])]
    obtain rfl : v = .bool b := hv
    exact gbool' (P := P) (κ := κ) b
  · rename_i t id t' id' off len
    split at h <;> try (cases h; done)
    rename_i hc
    obtain ⟨rfl, hc⟩ := hc
    injection h with h; subst h
    have e1 : selI (pre ++ [.int .i64 off, .int .i64 len] ++ post) pre.length = off := by rw [List.append_assoc]; exact selI_at
    have e2 : selI (pre ++ [.int .i64 off, .int .i64 len] ++ post) (pre.length + 1) = len := by
      have : pre ++ [.int .i64 (off : Int), .int .i64 (len : Int)] ++ post = (pre ++ [.int .i64 (off : Int)]) ++ .int .i64 (len : Int) :: post := by simp
      rw [this, show pre.length + 1 = (pre ++ [D.int .i64 (off : Int)]).length by simp]
      exact selI_at
    show gA P (κ.ren ren dp) (.sl t id _ _) v
    rw [e1, e2]
    simp only [Int.toNat_natCast]
    obtain ⟨Ad, c, h1, h2, h3⟩ := hv
    exact ⟨Ad, c, h1, h2, h3.imp (fun h => h) (fun ⟨b, o, N, g1, g2⟩ => ⟨b, o, N, by rw [ren_ord (hrb _ _ hc).1, hc]; exact g1, g2⟩)⟩
  · rename_i t id
    split at h <;> try (cases h; done)
    rename_i hc
    injection h with h; subst h
    have e1 : selI (pre ++ [.int .i64 0, .int .i64 0] ++ post) pre.length = 0 := by rw [List.append_assoc]; exact selI_at
    have e2 : selI (pre ++ [.int .i64 0, .int .i64 0] ++ post) (pre.length + 1) = 0 := by
      have : pre ++ [.int .i64 0, .int .i64 0] ++ post = (pre ++ [.int .i64 0]) ++ .int .i64 0 :: post := by simp
      rw [this, show pre.length + 1 = (pre ++ [D.int .i64 0]).length by simp]
      exact selI_at
    show gA P (κ.ren ren dp) (.sl t id _ _) v
    rw [e1, e2]
    exact ⟨none, 0, hv, Nat.le_refl _, .inl ⟨rfl, rfl⟩⟩
  · rename_i id off id' off'
    split at h <;> try (cases h; done)
    rename_i hc
    obtain ⟨rfl, hc⟩ := hc
    obtain ⟨b, o, N, h1, h2⟩ := hv
    exact ⟨b, o, N, by rw [ren_ord (hrb _ _ hc).1, hc]; exact h1, h2⟩
theorem instL_ex {ren : Nat → Option Nat} {dp : Nat → Bool} (hrb : ∀ id id', ren id = some id' → id < big ∧ id' < big) : ∀ {l : List SA} {as : List A} {x : List D}, exL ren l as = some x → ∀ (pre post : List D) {vs : List Value}, gL P κ as vs → gL P (κ.ren ren dp) (instL (pre ++ x ++ post) pre.length l) vs
  | [], [], x, h, pre, post, vs, hv => by
    have : vs = [] := List.eq_nil_of_length_eq_zero hv.len.symm
    subst this
    trivial
  | s :: l, a :: as, x, h, pre, post, v :: vs, ⟨hv1, hv2⟩ => by
    unfold exL at h
    split at h <;> try (cases h; done)
    rename_i x1 x2 h1 h2
    injection h with h; subst h
    have e1 := inst_ex (dp := dp) hrb h1 pre (x2 ++ post) hv1
    have e2 := instL_ex (dp := dp) hrb h2 (pre ++ x1) post hv2
    rw [show pre ++ (x1 ++ x2) ++ post = pre ++ x1 ++ (x2 ++ post) by simp]
    refine ⟨e1, ?_⟩
    rw [List.length_append, ex_len h1, show pre ++ x1 ++ x2 ++ post = pre ++ x1 ++ (x2 ++ post) by simp] at e2
    exact e2
  | [], _ :: _, x, h, _, _, _, _ => by cases h
  | _ :: _, [], x, h, _, _, _, _ => by cases h
theorem instL_length (xs : List D) : ∀ (j : Nat) (l : List SA), (instL xs j l).length = l.length
  | _, [] => rfl
  | j, s :: l => by simp [instL, instL_length xs _ l]
theorem exSV_len {ren : Nat → Option Nat} {s : SV} {a : AV} {x : List D} (h : s.ex ren a = some x) : x.length = s.n := by
  unfold SV.ex at h
  split at h <;> try (cases h; done)
  · exact ex_len h
  · exact (exL_len h).1
  · injection h with h; subst h; rfl
theorem instSV_ex {ren : Nat → Option Nat} {dp : Nat → Bool} (hrb : ∀ id id', ren id = some id' → id < big ∧ id' < big) {s : SV} {a : AV} {x : List D} (h : s.ex ren a = some x) (pre post : List D) {v : Value} (hv : gAV P κ a v) : gAV P (κ.ren ren dp) (s.inst (pre ++ x ++ post) pre.length) v := by
  unfold SV.ex at h
  split at h <;> try (cases h; done)
  · exact inst_ex hrb h pre post hv
  · obtain ⟨c, rfl, h2⟩ := hv
    exact ⟨c, rfl, instL_ex hrb h pre post h2⟩
  · trivial
theorem instV_ex {ren : Nat → Option Nat} {dp : Nat → Bool} (hrb : ∀ id id', ren id = some id' → id < big ∧ id' < big) : ∀ {l : List SV} {as : List AV} {x : List D}, exV ren l as = some x → x.length = lenV l ∧ l.length = as.length ∧ ∀ (pre post : List D) (i : Nat) (av : AV), (instV (pre ++ x ++ post) pre.length l)[i]? = some av → ∃ a, as[i]? = some a ∧ ∀ v, gAV P κ a v → gAV P (κ.ren ren dp) av v
  | [], [], x, h => by injection h with h; subst h; exact ⟨rfl, rfl, fun pre post i av hi => by simp [instV] at hi⟩
  | s :: l, a :: as, x, h => by
    unfold exV at h
    split at h <;> try (cases h; done)
    rename_i x1 x2 h1 h2
    injection h with h; subst h
    obtain ⟨g1, g2, g3⟩ := instV_ex (dp := dp) hrb h2
    refine ⟨by rw [List.length_append, exSV_len h1, g1]; rfl, by simp [g2], fun pre post i av hi => ?_⟩
    rw [show pre ++ (x1 ++ x2) ++ post = pre ++ x1 ++ (x2 ++ post) by simp] at hi
    cases i with
    | zero =>
      simp [instV] at hi
      subst hi
      refine ⟨a, rfl, fun v hv => ?_⟩
      have := instSV_ex (dp := dp) hrb h1 pre (x2 ++ post) hv
      simpa using this
    | succ i =>
      have := g3 (pre ++ x1) post i av (by
        rw [List.length_append, exSV_len h1, show pre ++ x1 ++ x2 ++ post = pre ++ x1 ++ (x2 ++ post) by simp]
        simpa [instV] using hi)
      simpa using this
  | [], _ :: _, x, h => by cases h
  | _ :: _, [], x, h => by cases h
theorem instV_length (xs : List D) : ∀ (j : Nat) (l : List SV), (instV xs j l).length = l.length
  | _, [] => rfl
  | j, s :: l => by simp [instV, instV_length xs _ l]
theorem exSR_len {ren : Nat → Option Nat} {H : List (Option Row)} {id : Nat} {s : SR} {x : List D} (h : s.ex ren H id = some x) : x.length = s.n := by
  unfold SR.ex at h
  split at h
  · injection h with h; subst h; rfl
  · split at h <;> try (cases h; done)
    split at h <;> try (cases h; done)
    split at h <;> try (cases h; done)
    exact (exL_len h).1
  · split at h
    · split at h <;> try (cases h; done)
      split at h <;> try (cases h; done)
      split at h <;> try (cases h; done)
      injection h with h; subst h; rfl
    · injection h with h; subst h; rfl
  · split at h
    · split at h <;> try (cases h; done)
      · split at h <;> try (cases h; done)
        injection h with h; subst h; rfl
      · split at h <;> try (cases h; done)
        split at h <;> try (cases h; done)
        injection h with h; subst h; rfl
    · injection h with h; subst h; rfl
/-- Where a row under its new name was. -/
def Src (ren : Nat → Option Nat) (k u : Nat) : Prop := (k < big ∧ ren k = some u) ∨ ∃ i j i', i < big ∧ k = inn i j ∧ ren i = some i' ∧ u = inn i' j
noncomputable def outRow (id : Nat) : Row → Row
  | .deep t ds => .fix t (deepA id 0 ds)
  | r => r
theorem outR_row (id : Nat) (row : Row) : outR id (some row) = some (outRow id row) := by cases row <;> rfl
def isDp : SR → Bool
  | .deep _ => true
  | _ => false
/-- A row under its other name. -/
theorem instSR_ex {ren : Nat → Option Nat} {dp : Nat → Bool} (hrb : ∀ id id', ren id = some id' → id < big ∧ id' < big) {H : List (Option Row)} (hb : H.length ≤ big) (hi : InvE P w0 κ (cs H) w) (hf : FreeN w0 κ (cs H)) {id : Nat} (hid : id < big) {s : SR} (hdp : dp id = isDp s) {x : List D} (h : s.ex ren H id = some x) (hn : all_ (s.nds ren H id)) (pre post : List D) {row : Row} (hr : s.inst (pre ++ x ++ post) pre.length = some row) :
    (RowIn P (κ.ren ren dp) w id (outRow id row) ∧ ∀ b o N, (κ.ren ren dp).at_ id = some (b, o, N) → ∃ u row', Src ren id u ∧ expand (cs H) u = some row' ∧ κ.at_ u = some (b, o, N)) ∧
    (isDeep (some row) = isDp s) ∧
    ∀ t ds, row = .deep t ds → ∀ p, (∀ u n l, ds[p]? = some (.list u n l) → ownL (.list u n l) = true → RowIn P (κ.ren ren dp) w (inn id p) (.sym u l) ∧ ∀ b o N, (κ.ren ren dp).at_ (inn id p) = some (b, o, N) → ∃ v row', Src ren (inn id p) v ∧ expand (cs H) v = some row' ∧ κ.at_ v = some (b, o, N)) ∧ (innR (some row) p = none → (κ.ren ren dp).at_ (inn id p) = none) := by
  have hi' : Inv P w0 κ (expand (cs H)) w := hi
  have hgn := nd_expand (cs_big hb)
  have hat : ∀ id', ren id = some id' → (κ.ren ren dp).at_ id = κ.at_ id' := fun id' he => by rw [ren_ord hid, he]; rfl
  have hnat : ren id = none → (κ.ren ren dp).at_ id = none := fun he => by rw [ren_ord hid, he]; rfl
  have done : ∀ id' row', ren id = some id' → expand (cs H) id' = some row' → ∀ b o N, (κ.ren ren dp).at_ id = some (b, o, N) → ∃ u row', Src ren id u ∧ expand (cs H) u = some row' ∧ κ.at_ u = some (b, o, N) :=
    fun id' row' h1 h2 b o N h3 => ⟨id', row', .inl ⟨hid, h1⟩, h2, by rw [← hat id' h1]; exact h3⟩
  have plainE : ∀ {id' : Nat} {row' : Row}, cs H id' = some row' → isDeep (some row') = false → expand (cs H) id' = some row' := fun {id' row'} h1 h2 => by
    rw [expand_ord (cs_big hb _ _ h1).2, h1]; exact outR_plain h2
  have rowPlain : ∀ {row' : Row} {ds : List D}, rowD row' = some ds → isDeep (some row') = false := fun {row' ds} h => by cases row' <;> first | rfl | cases h
  unfold SR.ex at h
  split at h
  · cases hr
  · rename_i t l
    split at h <;> try (cases h; done)
    rename_i id' hren
    split at h <;> try (cases h; done)
    rename_i t' as hrow0
    have hrow := plainE hrow0 rfl
    split at h <;> try (cases h; done)
    rename_i ht
    subst ht
    injection hr with hr
    subst hr
    refine ⟨⟨?_, done id' _ hren hrow⟩, rfl, fun t ds e => (by cases e)⟩
    have hlen := (exL_len h).2
    rcases hi'.live id' _ hrow with ⟨g1, g2⟩ | ⟨b, o, N, arr, g1, g2, g3, g4, g5, g6⟩
    · refine .inl ⟨by rw [hat id' hren]; exact g1, ?_⟩
      change as = [] at g2
      show instL _ _ l = []
      subst g2
      have : l = [] := List.eq_nil_of_length_eq_zero (by simpa using hlen)
      subst this
      rfl
    · refine .inr ⟨b, o, N, arr, by rw [hat id' hren]; exact g1, g2, g3, g4, by show o + (instL _ _ l).length ≤ N; rw [instL_length, hlen]; exact g5, fun j a' hj => ?_⟩
      change (instL (pre ++ x ++ post) pre.length l)[j]? = some a' at hj
      have hjl : j < l.length := by have := (List.getElem?_eq_some_iff.mp hj).1; rwa [instL_length] at this
      -- the values of the row
      have hvals : gL P κ as ((List.range as.length).map fun j => (arr[o + j]?).getD undef) := by
        refine gL.of (by simp) (fun q aq hq => ?_)
        obtain ⟨y, k1, k2⟩ := g6 q aq hq
        have hql := (List.getElem?_eq_some_iff.mp hq).1
        exact ⟨y, by simp [hql, k1], k2⟩
      obtain ⟨v, k1, k2⟩ := (instL_ex hrb h pre post hvals).at hj
      have hja : j < as.length := by omega
      obtain ⟨y, k3, _⟩ := g6 j as[j] (List.getElem?_eq_getElem hja)
      refine ⟨v, ?_, k2⟩
      simp [hja, k3] at k1
      rw [k3, k1]
  · rename_i t
    injection hr with hr
    subst hr
    refine ⟨?_, rfl, fun t ds e => (by cases e)⟩
    split at h
    · rename_i id' hren
      split at h <;> try (cases h; done)
      rename_i row' hrow0
      split at h <;> try (cases h; done)
      rename_i ht
      split at h <;> try (cases h; done)
      rename_i ds hds
      have hrow := plainE hrow0 (rowPlain hds)
      injection h with h; subst h
      have e1 : selL (pre ++ [.list t 0 ds] ++ post) pre.length = ds := by unfold selL; simp
      refine ⟨?_, done id' _ hren hrow⟩
      show RowIn P _ w id (.sym t (selL _ _))
      rw [e1]
      rcases (hi'.live id' _ hrow).ds hds with ⟨g1, g2⟩ | ⟨b, o, N, arr, g1, g2, g3, g4, g5, g6⟩
      · exact .inl ⟨by rw [hat id' hren]; exact g1, by rw [g2]; rfl⟩
      · refine .inr ⟨b, o, N, arr, by rw [hat id' hren]; exact g1, g2, by rw [ht] at g3; exact g3, g4, by simp [Row.as]; exact g5, fun j a' hj => ?_⟩
        simp only [Row.as, List.getElem?_map] at hj
        obtain ⟨d, hd, rfl⟩ := Option.map_eq_some_iff.mp hj
        obtain ⟨y, k1, k2⟩ := g6 j d hd
        exact ⟨y, k1, k2⟩
    · rename_i hren
      injection h with h; subst h
      have e1 : selL (pre ++ [.list t 0 []] ++ post) pre.length = [] := by unfold selL; simp
      refine ⟨?_, fun b o N hb => by rw [hnat hren] at hb; cases hb⟩
      show RowIn P _ w id (.sym t (selL _ _))
      rw [e1]
      exact .inl ⟨hnat hren, rfl⟩
  · rename_i t
    injection hr with hr
    have hdp' : dp id = true := hdp
    -- a plain row that is taken for a deep one
    have asPlain : ∀ {id' : Nat} {row' : Row} {ds : List D}, ren id = some id' → cs H id' = some row' → rowD row' = some ds → row'.t = t → noOwn ds → row = .deep t ds →
        (RowIn P (κ.ren ren dp) w id (outRow id row) ∧ ∀ b o N, (κ.ren ren dp).at_ id = some (b, o, N) → ∃ u row', Src ren id u ∧ expand (cs H) u = some row' ∧ κ.at_ u = some (b, o, N)) ∧
        (isDeep (some row) = isDp (.deep t)) ∧
        ∀ t ds, row = .deep t ds → ∀ p, (∀ u n l, ds[p]? = some (.list u n l) → ownL (.list u n l) = true → RowIn P (κ.ren ren dp) w (inn id p) (.sym u l) ∧ ∀ b o N, (κ.ren ren dp).at_ (inn id p) = some (b, o, N) → ∃ v row', Src ren (inn id p) v ∧ expand (cs H) v = some row' ∧ κ.at_ v = some (b, o, N)) ∧ (innR (some row) p = none → (κ.ren ren dp).at_ (inn id p) = none) := by
      intro id' row' ds hren hrow0 hds ht hno hrow1
      have hnd := rowPlain hds
      have hrow := plainE hrow0 hnd
      have hid'b := (hrb _ _ hren).2
      subst hrow1
      refine ⟨⟨?_, done id' _ hren hrow⟩, rfl, fun t' ds' e p => ?_⟩
      · show RowIn P _ w id (.fix t (deepA id 0 ds))
        rcases (hi'.live id' _ hrow).ds hds with ⟨g1, g2⟩ | ⟨b, o, N, arr, g1, g2, g3, g4, g5, g6⟩
        · exact .inl ⟨by rw [hat id' hren]; exact g1, by rw [g2]; rfl⟩
        · refine .inr ⟨b, o, N, arr, by rw [hat id' hren]; exact g1, g2, by rw [ht] at g3; exact g3, g4, by simp only [Row.as, deepA_len]; exact g5, fun j a' hj => ?_⟩
          simp only [Row.as] at hj
          rw [deepA_at, Nat.zero_add] at hj
          obtain ⟨d, hd, rfl⟩ := Option.map_eq_some_iff.mp hj
          obtain ⟨y, k1, k2⟩ := g6 j d hd
          exact ⟨y, k1, by rw [deepC_not (hno d (List.mem_of_getElem? hd))]; exact k2⟩
      · injection e with e1 e2
        subst e1; subst e2
        refine ⟨fun u n l hd ho => ?_, fun _ => ?_⟩
        · rw [hno _ (List.mem_of_getElem? hd)] at ho; cases ho
        · rw [ren_inn hid, if_pos hdp', hren]
          refine hf.free hid'b ?_ (.inl (by rw [hrow0]; simp))
          rw [expand_inn hid'b, hrow0]; exact innR_plain hnd
    split at h
    · rename_i id' hren
      have hid'b := (hrb _ _ hren).2
      split at h <;> try (cases h; done)
      · rename_i t' ds hrow0
        split at h <;> try (cases h; done)
        rename_i ht
        subst ht
        injection h with h; subst h
        have e1 : selL (pre ++ [.list t' 0 ds] ++ post) pre.length = ds := by unfold selL; simp
        rw [e1] at hr
        subst hr
        have hrow : expand (cs H) id' = some (.fix t' (deepA id' 0 ds)) := by rw [expand_ord hid'b, hrow0]; rfl
        refine ⟨⟨?_, done id' _ hren hrow⟩, rfl, fun t ds' e p => ?_⟩
        · show RowIn P _ w id (.fix t' (deepA id 0 ds))
          rcases deep_in hi hrow0 hid'b with ⟨g1, g2⟩ | ⟨b, o, N, arr, g1, g2, g3, g4, g5, g6⟩
          · exact .inl ⟨by rw [hat id' hren]; exact g1, by rw [g2]; rfl⟩
          · refine .inr ⟨b, o, N, arr, by rw [hat id' hren]; exact g1, g2, g3, g4, by simp only [Row.as, deepA_len]; exact g5, fun j a' hj => ?_⟩
            simp only [Row.as] at hj
            rw [deepA_at, Nat.zero_add] at hj
            obtain ⟨d, hd, rfl⟩ := Option.map_eq_some_iff.mp hj
            obtain ⟨y, k1, k2⟩ := g6 j d hd
            refine ⟨y, k1, ?_⟩
            cases ho : ownL d with
            | false => rw [deepC_not ho] at k2 ⊢; exact k2
            | true =>
              obtain ⟨u, n, l, rfl⟩ := ownL_list ho
              rw [deepC_own ho] at k2 ⊢
              obtain ⟨Ad, c, q1, q2, q3⟩ := k2
              exact ⟨Ad, c, q1, q2, q3.imp (fun h => h) (fun ⟨b', o', N', z1, z2⟩ => ⟨b', o', N', by rw [ren_inn hid, if_pos hdp', hren]; exact z1, z2⟩)⟩
        · injection e with e2 e3
          subst e2; subst e3
          refine ⟨fun u n l hd ho => ?_, fun hno => ?_⟩
          · have hin : expand (cs H) (inn id' p) = some (.sym u l) := by rw [expand_inn hid'b, hrow0]; exact innR_own hd ho
            have hata : (κ.ren ren dp).at_ (inn id p) = κ.at_ (inn id' p) := by rw [ren_inn hid, if_pos hdp', hren]; rfl
            refine ⟨?_, fun b o N h9 => ⟨inn id' p, _, .inr ⟨id, p, id', hid, rfl, hren, rfl⟩, hin, by rw [← hata]; exact h9⟩⟩
            rcases hi'.live _ _ hin with ⟨g1, g2⟩ | ⟨b, o, N, arr, g1, g2, g3, g4, g5, g6⟩
            · exact .inl ⟨by rw [hata]; exact g1, g2⟩
            · refine .inr ⟨b, o, N, arr, by rw [hata]; exact g1, g2, g3, g4, g5, fun j a' hj => ?_⟩
              simp only [Row.as, List.getElem?_map] at hj
              obtain ⟨d, hd', rfl⟩ := Option.map_eq_some_iff.mp hj
              obtain ⟨y, k1, k2⟩ := g6 j (.d d) (by simp [Row.as, hd'])
              exact ⟨y, k1, k2⟩
          · rw [ren_inn hid, if_pos hdp', hren]
            refine hf.free hid'b ?_ (.inl (by rw [hrow0]; simp))
            rw [expand_inn hid'b, hrow0]; exact hno
      · rename_i row' hnd hrow0
        split at h <;> try (cases h; done)
        rename_i ht
        split at h <;> try (cases h; done)
        rename_i ds hds
        injection h with h; subst h
        have e1 : selL (pre ++ [.list t 0 ds] ++ post) pre.length = ds := by unfold selL; simp
        rw [e1] at hr
        refine asPlain hren hrow0 hds ht ?_ hr.symm
        unfold SR.nds at hn
        simp only [hren, hrow0] at hn
        cases row' with
        | deep t1 d1 => cases hds
        | fix t1 c1 => simp only [hds] at hn; exact hn.1
        | sym t1 d1 => simp only [hds] at hn; exact hn.1
    · rename_i hren
      injection h with h; subst h
      have e1 : selL (pre ++ [.list t 0 []] ++ post) pre.length = [] := by unfold selL; simp
      rw [e1] at hr
      subst hr
      refine ⟨⟨.inl ⟨hnat hren, rfl⟩, fun b o N hb => by rw [hnat hren] at hb; cases hb⟩, rfl, fun t' ds' e p => ?_⟩
      injection e with e2 e3
      subst e2; subst e3
      exact ⟨fun u n l hd => by simp at hd, fun _ => by rw [ren_inn hid, if_pos hdp', hren]; rfl⟩
theorem instR_ex {ren : Nat → Option Nat} {dp : Nat → Bool} (hrb : ∀ id id', ren id = some id' → id < big ∧ id' < big) {H : List (Option Row)} (hb : H.length ≤ big) (hi : InvE P w0 κ (cs H) w) (hf : FreeN w0 κ (cs H)) : ∀ {l : List SR} {id : Nat} {x : List D}, id + l.length ≤ big → (∀ (i : Nat) (s : SR), l[i]? = some s → dp (id + i) = isDp s) → exR ren H id l = some x → all_ (ndsR ren H id l) → ∀ (pre post : List D) (i : Nat) (row : Row), ((instR (pre ++ x ++ post) pre.length l)[i]?).join = some row →
    (RowIn P (κ.ren ren dp) w (id + i) (outRow (id + i) row) ∧ ∀ b o N, (κ.ren ren dp).at_ (id + i) = some (b, o, N) → ∃ u row', Src ren (id + i) u ∧ expand (cs H) u = some row' ∧ κ.at_ u = some (b, o, N)) ∧
    (isDeep (some row) = dp (id + i)) ∧
    ∀ t ds, row = .deep t ds → ∀ p, (∀ u n l, ds[p]? = some (.list u n l) → ownL (.list u n l) = true → RowIn P (κ.ren ren dp) w (inn (id + i) p) (.sym u l) ∧ ∀ b o N, (κ.ren ren dp).at_ (inn (id + i) p) = some (b, o, N) → ∃ v row', Src ren (inn (id + i) p) v ∧ expand (cs H) v = some row' ∧ κ.at_ v = some (b, o, N)) ∧ (innR (some row) p = none → (κ.ren ren dp).at_ (inn (id + i) p) = none)
  | [], id, x, _, _, h, _, pre, post, i, row, hr => by simp [instR] at hr
  | s :: l, id, x, hlen, hdp, h, hn, pre, post, i, row, hr => by
    unfold exR at h
    split at h <;> try (cases h; done)
    rename_i x1 x2 h1 h2
    injection h with h; subst h
    obtain ⟨hn1, hn2⟩ := all_append hn
    rw [show pre ++ (x1 ++ x2) ++ post = pre ++ x1 ++ (x2 ++ post) by simp] at hr
    simp only [List.length_cons] at hlen
    cases i with
    | zero =>
      simp only [instR, List.getElem?_cons_zero, Option.join_some] at hr
      have hd0 := hdp 0 s rfl
      rw [Nat.add_zero] at hd0 ⊢
      have := instSR_ex hrb hb hi hf (by omega) hd0 h1 hn1 pre (x2 ++ post) hr
      rw [hd0]
      exact this
    | succ i =>
      simp only [instR, List.getElem?_cons_succ] at hr
      have := instR_ex hrb hb hi hf (l := l) (id := id + 1) (by omega) (fun j s' hj => by
        have := hdp (j + 1) s' (by simpa using hj)
        rwa [show id + 1 + j = id + (j + 1) by omega]) h2 hn2 (pre ++ x1) post i row (by
        rw [List.length_append, exSR_len h1, show pre ++ x1 ++ x2 ++ post = pre ++ x1 ++ (x2 ++ post) by simp]
        exact hr)
      rw [show id + (i + 1) = id + 1 + i by omega]
      exact this
theorem instR_length (xs : List D) : ∀ (j : Nat) (l : List SR), (instR xs j l).length = l.length
  | _, [] => rfl
  | j, s :: l => by simp [instR, instR_length xs _ l]
theorem instR_at (xs : List D) : ∀ (j : Nat) (l : List SR) (i : Nat) (s : SR), l[i]? = some s → ∃ q, (instR xs j l)[i]? = some (s.inst xs q)
  | _, [], i, s, h => by simp at h
  | j, s0 :: l, 0, s, h => by
    simp at h
    subst h
    exact ⟨j, rfl⟩
  | j, s0 :: l, i + 1, s, h => by
    obtain ⟨q, hq⟩ := instR_at xs (j + s0.n) l i s (by simpa using h)
    exact ⟨q, by simpa [instR] using hq⟩
/-- Which rows are deep. -/
def dpOf (rows : List SR) (i : Nat) : Bool := (rows[i]?.map isDp).getD false
/-- Different names were different. -/
theorem src_inj {ren : Nat → Option Nat} (hrb : ∀ id id', ren id = some id' → id < big ∧ id' < big) (hinj : ∀ i j u, ren i = some u → ren j = some u → i = j) {k k' u : Nat} (h : Src ren k u) (h' : Src ren k' u) : k = k' := by
  rcases h with ⟨h1, h2⟩ | ⟨i, j, i', h1, rfl, h3, h4⟩ <;> rcases h' with ⟨g1, g2⟩ | ⟨i2, j2, i2', g1, rfl, g3, g4⟩
  · exact hinj _ _ _ h2 g2
  · have := (hrb _ _ h2).2
    rw [g4] at this; exact absurd this inn_big
  · have := (hrb _ _ g2).2
    rw [h4] at this; exact absurd this inn_big
  · rw [h4] at g4
    obtain ⟨e1, e2⟩ := inn_inj (hrb _ _ h3).2 (hrb _ _ g3).2 g4
    subst e1; subst e2
    rw [hinj _ _ _ h3 g3]
/-- The first row, if it is a deep one. -/
theorem inst_first {ren : Nat → Option Nat} {H : List (Option Row)} {l : List SR} {y x : List D} {id' t : Nat} {ds : List D} (h : exR ren H 0 l = some y) (hd : l[0]?.map isDp = some true) (hr : ren 0 = some id') (hH : cs H id' = some (.deep t ds)) :
    (instR (x ++ y) x.length l)[0]? = some (some (.deep t ds)) := by
  cases l with
  | nil => simp at hd
  | cons s l =>
    cases s with
    | deep t' =>
      unfold exR at h
      split at h <;> try (cases h; done)
      rename_i x1 x2 h1 h2
      injection h with h; subst h
      unfold SR.ex at h1
      simp only [hr, hH] at h1
      split at h1 <;> try (cases h1; done)
      rename_i e
      subst e
      injection h1 with h1; subst h1
      have e1 : selL (x ++ ([.list t 0 ds] ++ x2)) x.length = ds := by unfold selL; simp
      simp only [instR, List.getElem?_cons_zero, SR.inst]
      rw [e1]
    | _ => simp [isDp] at hd
theorem exR_first {ren : Nat → Option Nat} {H : List (Option Row)} {l : List SR} {y : List D} {id' : Nat} (h : exR ren H 0 l = some y) (hd : l[0]?.map isDp = some true) (hr : ren 0 = some id') : cs H id' ≠ none := by
  cases l with
  | nil => simp at hd
  | cons s l =>
    cases s with
    | deep t' =>
      unfold exR at h
      split at h <;> try (cases h; done)
      rename_i x1 x2 h1 h2
      intro hH
      unfold SR.ex at h1
      simp only [hr, hH] at h1
      cases h1
    | _ => simp [isDp] at hd
/-- What is pinned at a head: the rows that came in have the names that they had. -/
def PinOk (w0 : Bs) (s : Shape) : Prop :=
  (∀ (i b o N : Nat), w0.bs[i]? = some (some (b, o, N)) → i < s.pin ∨ (1 ≤ s.pin ∧ s.rows[0]?.map isDp = some true ∧ ∃ j, w0.nm i = inn 0 j)) ∧ (∀ i, i < s.pin → w0.nm i = i ∨ (1 ≤ s.pin ∧ s.rows[0]?.map isDp = some true ∧ ∃ j, w0.nm i = inn 0 j)) ∧ ∀ k, w0.pn k → 1 ≤ s.pin ∧ s.rows[0]?.map isDp = some true ∧ ∃ j, k = inn 0 j
/-- At the head of a loop. -/
theorem Shape.ex_sound {s : Shape} {σ : St} {xs : List D} (hpo : PinOk w0 s) (h : s.ex σ = some xs) (hn : all_ (s.nds σ)) (hr : Rel P w0 κ σ a w) : ∃ κ', Rel P w0 κ' (s.inst xs) a w := by
  obtain ⟨hpin, hnm, hpn⟩ := hpo
  unfold Shape.ex at h
  simp only at h
  split at h <;> try (cases h; done)
  rename_i hnd
  obtain ⟨⟨hnd, hpi⟩, hHb, hRb, hallb⟩ := hnd
  split at h <;> try (cases h; done)
  rename_i x y hx hy
  injection h with h; subst h
  unfold Shape.nds at hn
  simp only at hn
  generalize hren : renOf s σ = rl at hnd hx hy hpi hallb hn
  have hrl : rl.length = s.rows.length := by rw [← hren]; simp [renOf]
  have un : ∀ {i u : Nat}, (rl[i]?).join = some u → rl[i]? = some (some u) := fun {i u} hi => by
    cases h9 : rl[i]? with
    | none => rw [h9] at hi; cases hi
    | some o => rw [h9] at hi; simp at hi; rw [hi]
  have hrb : ∀ (id id' : Nat), (fun (id : Nat) => (rl[id]?).join) id = some id' → id < big ∧ id' < big := fun id id' h9 => by
    have h8 := un h9
    have hlt := (List.getElem?_eq_some_iff.mp h8).1
    refine ⟨by omega, ?_⟩
    have := List.all_eq_true.mp hallb id' (List.mem_filterMap.mpr ⟨some id', List.mem_of_getElem? h8, rfl⟩)
    simpa using this
  have hinj : ∀ (i j u : Nat), (fun (id : Nat) => (rl[id]?).join) i = some u → (fun (id : Nat) => (rl[id]?).join) j = some u → i = j := by
    intro i j u hi hj
    have key : ∀ {l : List (Option Nat)}, (l.filterMap fun x => x).Nodup → ∀ {i j : Nat}, l[i]? = some (some u) → l[j]? = some (some u) → i = j := by
      intro l
      induction l with
      | nil => intro _ i j hi; simp at hi
      | cons o l ih =>
        intro hn i j hi hj
        have hmem : ∀ {k : Nat}, l[k]? = some (some u) → u ∈ l.filterMap fun x => x := fun hk => List.mem_filterMap.mpr ⟨some u, List.mem_of_getElem? hk, rfl⟩
        cases o with
        | none =>
          have hn' : (l.filterMap fun x => x).Nodup := by simpa using hn
          cases i with
          | zero => simp at hi
          | succ i => cases j with
            | zero => simp at hj
            | succ j => exact congrArg (· + 1) (ih hn' (by simpa using hi) (by simpa using hj))
        | some z =>
          have hn' : z ∉ (l.filterMap fun x => x) ∧ (l.filterMap fun x => x).Nodup := by simpa using hn
          cases i with
          | zero =>
            simp at hi
            subst hi
            cases j with
            | zero => rfl
            | succ j => exact absurd (hmem (by simpa using hj)) hn'.1
          | succ i => cases j with
            | zero =>
              simp at hj
              subst hj
              exact absurd (hmem (by simpa using hi)) hn'.1
            | succ j => exact congrArg (· + 1) (ih hn'.2 (by simpa using hi) (by simpa using hj))
    exact key hnd (un hi) (un hj)
  have hdp : ∀ (i : Nat) (s' : SR), s.rows[i]? = some s' → (dpOf s.rows) (0 + i) = isDp s' := fun i s' hi => by
    unfold dpOf; rw [Nat.zero_add, hi]; rfl
  obtain ⟨g1, g2, g3⟩ := instV_ex (P := P) (κ := κ) (dp := fun i => (s.rows[i]?.map isDp).getD false) hrb hx
  have g4 := fun (i : Nat) (av : AV) (hi : (instV (x ++ y) 0 s.tmps)[i]? = some av) => g3 [] y i av (by simpa using hi)
  have hlenR : (instR (x ++ y) (lenV s.tmps) s.rows).length = s.rows.length := instR_length _ _ _
  have g5 := fun (i : Nat) (row : Row) (hi : ((instR (x ++ y) (lenV s.tmps) s.rows)[i]?).join = some row) => by
    have := instR_ex (dp := dpOf s.rows) hrb hHb hr.inv hr.free (l := s.rows) (id := 0) (by omega) hdp hy hn x [] i row (by rw [g1, List.append_nil]; exact hi)
    rw [Nat.zero_add] at this
    exact this
  -- all rows, also those within cells
  have rows : ∀ k row, expand (cs (s.inst (x ++ y)).H) k = some row → RowIn P (κ.ren (fun (id : Nat) => (rl[id]?).join) (dpOf s.rows)) w k row ∧ ∀ b o N, (κ.ren (fun (id : Nat) => (rl[id]?).join) (dpOf s.rows)).at_ k = some (b, o, N) → ∃ u row', Src (fun (id : Nat) => (rl[id]?).join) k u ∧ expand (cs σ.H) u = some row' ∧ κ.at_ u = some (b, o, N) := fun k row hk => by
    by_cases hkb : k < big
    · rw [expand_ord hkb] at hk
      cases hc : cs (s.inst (x ++ y)).H k with
      | none => rw [hc] at hk; cases hk
      | some r =>
        rw [hc, outR_row] at hk
        injection hk with hk
        subst hk
        exact (g5 k r hc).1
    · obtain ⟨f1, f2⟩ := inn_of hkb
      rw [f1, expand_inn f2] at hk
      cases hc : cs (s.inst (x ++ y)).H (innA k) with
      | none => rw [hc] at hk; cases hk
      | some r =>
        rw [hc] at hk
        cases r with
        | fix t l => cases hk
        | sym t l => cases hk
        | deep t ds =>
          obtain ⟨u, n, l, d1, d2, rfl⟩ := innR_some hk
          have := ((g5 _ _ hc).2.2 t ds rfl (innB k)).1 u n l d1 d2
          rw [← f1] at this
          exact this
  refine ⟨κ.ren (fun (id : Nat) => (rl[id]?).join) (dpOf s.rows), ⟨hr.t.defers, by rw [hr.t.size, ← g2]; show s.tmps.length = (instV _ _ s.tmps).length; rw [instV_length], fun i av hi => ?_⟩, ⟨hr.inv.os, hr.inv.tape, hr.inv.output, hr.inv.size, hr.inv.base, hr.inv.z, fun id row hrow => (rows id row hrow).1, fun id id' row row' b o N o' N' h1 h2 h3 h4 => ?_, fun id row b o N h1 h3 => ?_⟩, fun id hid hidb => ?_, fun i b o N h9 => ?_, ⟨fun k hk he => ?_, fun k hk hp => ?_⟩⟩
  · obtain ⟨a', k1, k2⟩ := g4 i av hi
    obtain ⟨v, k3, k4⟩ := hr.t.vals i a' k1
    exact ⟨v, k3, k2 v k4⟩
  · obtain ⟨u, r1, q1, q2, q3⟩ := (rows id row h1).2 b o N h3
    obtain ⟨u', r2, q4, q5, q6⟩ := (rows id' row' h2).2 b o' N' h4
    obtain rfl := hr.inv.apart u u' r1 r2 b o N o' N' q2 q5 q3 q6
    exact src_inj hrb hinj q1 q4
  · obtain ⟨u, r1, q1, q2, q3⟩ := (rows id row h1).2 b o N h3
    exact hr.inv.own u r1 b o N q2 q3
  · have hid' : s.rows.length ≤ id := by rw [← hlenR]; exact hid
    rw [ren_ord hidb]
    rw [List.getElem?_eq_none (by omega)]
    rfl
  · have h8 := hr.pin i b o N h9
    have inner0 : 1 ≤ s.pin → s.rows[0]?.map isDp = some true → (∃ j, w0.nm i = inn 0 j) → (κ.ren (fun (id : Nat) => (rl[id]?).join) (dpOf s.rows)).at_ (w0.nm i) = some (b, o, N) := fun p1 p2 ⟨j, p3⟩ => by
      rw [p3] at h8 ⊢
      rw [ren_inn (by decide)]
      rw [if_pos (show dpOf s.rows 0 = true by unfold dpOf; rw [p2]; rfl)]
      rw [hpi 0 p1]
      exact h8
    rcases hpin i b o N h9 with hlt | ⟨p1, p2, p3⟩
    · rcases hnm i hlt with e | ⟨p1, p2, p3⟩
      · rw [e] at h8 ⊢
        have hib : i < big := (hrb i i (by simp only; rw [hpi i hlt]; rfl)).1
        rw [ren_ord hib]
        rw [hpi i hlt]
        exact h8
      · exact inner0 p1 p2 p3
    · exact inner0 p1 p2 p3
  · obtain ⟨f1, f2⟩ := inn_of hk
    have he' : innR (cs (s.inst (x ++ y)).H (innA k)) (innB k) = none := by rw [f1, expand_inn f2] at he; exact he
    refine .inl ?_
    cases hc : cs (s.inst (x ++ y)).H (innA k) with
    | none =>
      rw [f1, ren_inn f2]
      split
      · rename_i hdp'
        -- a deep row is there
        exfalso
        cases hs : s.rows[innA k]? with
        | none => unfold dpOf at hdp'; rw [hs] at hdp'; simp at hdp'
        | some s' =>
          unfold dpOf at hdp'
          rw [hs] at hdp'
          have hs' : isDp s' = true := by simpa using hdp'
          have hH := instR_at (x ++ y) (lenV s.tmps) s.rows (innA k) s' hs
          obtain ⟨j, hj⟩ := hH
          unfold cs at hc
          have hc' : ((instR (x ++ y) (lenV s.tmps) s.rows)[innA k]?).join = none := hc
          rw [hj] at hc'
          cases s' <;> simp [isDp] at hs'
          simp [SR.inst] at hc'
      · rfl
    | some r =>
      cases r with
      | deep t ds =>
        have := ((g5 _ _ hc).2.2 t ds rfl (innB k)).2 (by rw [← hc]; exact he')
        rw [← f1] at this
        exact this
      | fix t l =>
        have := (g5 _ _ hc).2.1
        rw [f1, ren_inn f2, if_neg]
        rw [← this]; simp [isDeep]
      | sym t l =>
        have := (g5 _ _ hc).2.1
        rw [f1, ren_inn f2, if_neg]
        rw [← this]; simp [isDeep]
  · obtain ⟨p1, p2, j, rfl⟩ := hpn k hp
    have h0 : (0 : Nat) < big := by decide
    obtain ⟨q1, q2⟩ : expand (cs σ.H) (inn 0 j) ≠ none ∧ κ.at_ (inn 0 j) = none := by
      rcases hr.free.2 _ hk hp with h9 | ⟨h9, _⟩
      · exact h9
      · rw [(inn_parts h0).1] at h9
        exact absurd h9 (exR_first hy p2 (show (fun (id : Nat) => (rl[id]?).join) 0 = some 0 by simp only; rw [hpi 0 p1]; rfl))
    rw [expand_inn h0] at q1
    cases hc : cs σ.H 0 with
    | none => rw [hc] at q1; exact absurd rfl q1
    | some r =>
      cases r with
      | fix t l => rw [hc] at q1; exact absurd rfl q1
      | sym t l => rw [hc] at q1; exact absurd rfl q1
      | deep t ds =>
        have hren0 : (fun (id : Nat) => (rl[id]?).join) 0 = some 0 := by simp only; rw [hpi 0 p1]; rfl
        have := inst_first (x := x) hy p2 hren0 hc
        rw [g1] at this
        refine .inl ⟨?_, ?_⟩
        · rw [expand_inn h0]
          have e9 : cs (s.inst (x ++ y)).H 0 = some (.deep t ds) := by
            unfold cs
            show ((instR (x ++ y) (lenV s.tmps) s.rows)[0]?).join = _
            rw [this]; rfl
          rw [e9]; rw [hc] at q1; exact q1
        · rw [ren_inn h0, if_pos (show dpOf s.rows 0 = true by unfold dpOf; rw [p2]; rfl)]
          show ((rl[0]?).join).bind (fun i => κ.at_ (inn i j)) = none
          rw [show (rl[0]?).join = some 0 from hren0]
          exact q2
end
end Go.Proofs.Ytjleempapphlhab.Mini
end
