/- Parts of the proof: Mini18. -/
import Derived.ChangeOld
import Derived.Below
import Derived.Carry
import Derived.Deep.Slices
import Derived.Deep.Fields
import Derived.Deep.Strs
import Derived.ChangeSame
import Derived.OpenShut
import Derived.Lib.SmallJoins
import Derived.Test.YtjleempapphlhabGeMini16
import Derived.Test.YtjleempapphlhabGeLists
section
namespace Go.Proofs.Ytjleempapphlhab.Mini
open Go Go.RowKit Go.ChangeShapes Go.WideShapes Go.Deep
set_option linter.unusedVariables false
set_option maxRecDepth 20000
/-- What came in, by its kind: numbers within their bounds, texts and lists not too long. -/
def wfK (P : Program) : Nat → Kd → D → Prop
  | _, .int k, d => ∃ n : Int, d = .int k n ∧ (Lit.int k n).wf = true
  | _, .bool, d => ∃ b, d = .bool b
  | _, .str, d => ∃ s : ByteArray, d = .str s ∧ s.size ≤ maxLen
  | 0, .list _, _ => False
  | f + 1, .list t, d => ∃ (n : Nat) (cs : List D) (ks : List Kd), d = .list t n cs ∧ n ≤ maxLen ∧ ksOf P t = some ks ∧ cs.length = n * ks.length ∧ ∀ (j : Nat) (x : D), cs[j]? = some x → ∃ k, ks[j % ks.length]? = some k ∧ wfK P f k x
def wfXs (P : Program) (f : Nat) : List Kd → List D → Prop
  | [], [] => True
  | k :: ks, d :: ds => wfK P f k d ∧ wfXs P f ks ds
  | _, _ => False
/-- The fields of a struct lie one behind the other. -/
def contF (P : Program) (K : Nat → Option (List Kd)) (G : Nat → Bool) : Nat → List Field → Bool
  | _, [] => true
  | o, fd :: fs => match K fd.type with
    | some ks => fd.offset == o && P.cellsOf fd.type == ks.length && G fd.type && contF P K G (o + ks.length) fs
    | none => false
def flatOk (P : Program) : Nat → Nat → Bool
  | 0, _ => false
  | f + 1, t => match P.underlying t with
    | some (.int _) => true
    | some .bool => true
    | some .string => true
    | some (.slice _) => true
    | some (.struct fs) => contF P (kinds P f) (flatOk P f) 0 fs.toList
    | _ => false
def nestOk (P : Program) : Nat → Kd → Bool
  | 0, .list _ => false
  | f + 1, .list e => match ksOf P e with
    | some ks => P.cellsOf e == ks.length && sz P e == ks.length && decide (0 < ks.length) && flatOk P 6 e && ks.all (nestOk P f)
    | none => false
  | _, _ => true
def topOk (P : Program) (f : Nat) (t : Nat) : Bool := match ksOf P t with
  | some ks => P.cellsOf t == ks.length && flatOk P 6 t && ks.all (nestOk P f)
  | none => false
def descK : Kd → TypeDesc
  | .int k => .int k
  | .bool => .bool
  | .str => .string
  | .list t => .slice t
section
variable {H : Type} {enc : TypeId × Value → H} {P : Program} {w : World}
def leaf (enc : TypeId × Value → H) (P : Program) (w : World) (k : Kd) (v : Value) : Prop := ∃ n t y, P.underlying t = some (descK k) ∧ DataW.trod enc P w 0 (fun _ => true) true n t [v] = some y
theorem kinds_of {t : Nat} {ks : List Kd} (h : ksOf P t = some ks) : kinds P 6 t = some ks ∧ ∃ e, ti P t = some e ∧ (Typ.isStruct e.und = true ∨ ks.length = 1) := by
  unfold ksOf at h
  split at h <;> try (cases h; done)
  rename_i ks' et h1 h2
  split at h <;> try (cases h; done)
  rename_i hc
  injection h with h; subst h
  exact ⟨h1, et, h2, hc.2⟩
theorem fields_open {K : Nat → Option (List Kd)} {G : Nat → Bool} {n : Nat} {cs : List Value} (ih : ∀ t ks cs y, K t = some ks → G t = true → DataW.trod enc P w 0 (fun _ => true) true n t cs = some y → ∀ (j : Nat) (k : Kd), ks[j]? = some k → ∃ v, cs[j]? = some v ∧ leaf enc P w k v) :
    ∀ (fs : List Field) (o : Nat) (ks : List Kd), fs.foldr (fun fd acc => match K fd.type, acc with | some a, some b => some (a ++ b) | _, _ => none) (some []) = some ks → contF P K G o fs = true →
      (∀ fd ∈ fs, ∃ y, DataW.trod enc P w 0 (fun _ => true) true n fd.type ((cs.drop fd.offset).take (P.cellsOf fd.type)) = some y) → ∀ (j : Nat) (k : Kd), ks[j]? = some k → ∃ v, cs[o + j]? = some v ∧ leaf enc P w k v
  | [], o, ks, h, _, _, j, k, hj => by simp at h; subst h; simp at hj
  | fd :: fs, o, ks, h, hc, hall, j, k, hj => by
    rw [List.foldr_cons] at h
    split at h <;> try (cases h; done)
    rename_i a b ha hb
    injection h with h; subst h
    unfold contF at hc
    rw [ha] at hc
    simp only [Bool.and_eq_true, beq_iff_eq] at hc
    obtain ⟨⟨⟨h1, h2⟩, h3⟩, h4⟩ := hc
    by_cases hlt : j < a.length
    · rw [List.getElem?_append_left hlt] at hj
      obtain ⟨y, hy⟩ := hall fd (by simp)
      obtain ⟨v, hv, hl⟩ := ih _ _ _ _ ha h3 hy j k hj
      rw [h2, List.getElem?_take_of_lt hlt, List.getElem?_drop, h1] at hv
      exact ⟨v, hv, hl⟩
    · rw [List.getElem?_append_right (by omega)] at hj
      obtain ⟨v, hv, hl⟩ := fields_open ih fs (o + a.length) b hb h4 (fun fd' hf => hall fd' (by simp [hf])) (j - a.length) k hj
      exact ⟨v, by rw [← hv]; congr 1; omega, hl⟩
theorem one_leaf {t n : Nat} {k0 : Kd} {cs : List Value} {y : DataW H × List MemPlace} (hu : P.underlying t = some (descK k0)) (h1 : ∃ v, cs = [v]) (h : DataW.trod enc P w 0 (fun _ => true) true n t cs = some y) {j : Nat} {k : Kd} (hj : [k0][j]? = some k) : ∃ v, cs[j]? = some v ∧ leaf enc P w k v := by
  obtain ⟨v, rfl⟩ := h1
  have hj0 : j = 0 := by have := (List.getElem?_eq_some_iff.mp hj).1; simp at this; omega
  subst hj0
  simp at hj
  subst hj
  exact ⟨v, rfl, n, t, y, hu, h⟩
theorem open_flat : ∀ (f t : Nat) (ks : List Kd) (n : Nat) (cs : List Value) (y : DataW H × List MemPlace), kinds P f t = some ks → flatOk P f t = true → DataW.trod enc P w 0 (fun _ => true) true n t cs = some y →
    ∀ (j : Nat) (k : Kd), ks[j]? = some k → ∃ v, cs[j]? = some v ∧ leaf enc P w k v
  | 0, t, ks, n, cs, y, h, _, _, j, k, hj => by cases h
  | f + 1, t, ks, n, cs, y, h, hf, ht, j, k, hj => by
    unfold kinds at h
    unfold flatOk at hf
    split at h <;> try (cases h; done)
    · rename_i q hu
      injection h with h; subst h
      obtain ⟨x, rfl, _⟩ := DataW.trod_int hu ht
      exact one_leaf (k0 := .int q) hu ⟨_, rfl⟩ ht hj
    · rename_i hu
      injection h with h; subst h
      obtain ⟨x, rfl, _⟩ := DataW.trod_bool hu ht
      exact one_leaf (k0 := .bool) hu ⟨_, rfl⟩ ht hj
    · rename_i hu
      injection h with h; subst h
      obtain ⟨x, rfl, _⟩ := DataW.trod_string hu ht
      exact one_leaf (k0 := .str) hu ⟨_, rfl⟩ ht hj
    · rename_i el hu
      injection h with h; subst h
      have hone : ∃ v, cs = [v] := by
        rcases open_slice hu ht with ⟨rfl, _⟩ | ⟨ad, l, c, m, n', D, Pl, rfl, _⟩ <;> exact ⟨_, rfl⟩
      exact one_leaf (k0 := .list el) hu hone ht hj
    · rename_i fs hu
      rw [hu] at hf
      simp only at hf
      obtain ⟨xs, n', rfl, _, hl, hlen, hx⟩ := DataW.trod_struct hu ht
      have := fields_open (enc := enc) (w := w) (n := n') (cs := cs) (fun t ks cs y h1 h2 h3 => open_flat f t ks n' cs y h1 h2 h3) fs.toList 0 ks h hf (fun fd hfd => by
        obtain ⟨i, hi, rfl⟩ := List.getElem_of_mem hfd
        have h1 : fs[i]? = some fs.toList[i] := by rw [← Array.getElem?_toList]; exact List.getElem?_eq_getElem hi
        have h2 := hx i _ h1
        have hlt : i < xs.length := by rw [hlen]; simpa using hi
        rw [List.getElem?_eq_getElem hlt] at h2
        exact ⟨_, h2⟩) j k hj
      simpa using this
/-- A list that is seen, as a value; its things may hold lists. -/
theorem gD_of_sees' {t n c : Nat} {A : Option Addr} {xs : List Value} {ds : List D} (hc : n ≤ c) (hr : Sees w w.heap.size (sz P t) A n xs) (hl : ds.length = xs.length)
    (hd : ∀ (j : Nat) (d : D), ds[j]? = some d → ∃ v, xs[j]? = some v ∧ gD P (fun b => w.heap[b]?) d v) : gD P (fun b => w.heap[b]?) (.list t n ds) (.slice A n c) := by
  unfold gD
  refine ⟨A, c, rfl, hc, by rw [hl, hr.1], ?_⟩
  by_cases h0 : n = 0
  · exact .inl h0
  refine .inr ?_
  obtain ⟨b, off, rfl, hb, hcell⟩ := hr.2 (by omega)
  have hxs : xs.length = n * sz P t := hr.1
  have hpos : 0 < xs.length := by rw [hxs]; exact Nat.mul_pos (by omega) (sz_pos P t)
  have h1 := hcell 0 xs[0] (List.getElem?_eq_getElem hpos)
  have hblk : ∃ arr ty fr, w.heap[b]? = some (.cells arr ty fr) := by
    unfold World.cell? at h1
    simp only at h1
    split at h1
    · exact ⟨_, _, _, by assumption⟩
    · cases h1
  obtain ⟨arr, ty, fr, hblk⟩ := hblk
  refine ⟨b, off, arr, ty, fr, rfl, hblk, gDs.of fun j d hj => ?_⟩
  obtain ⟨v, hv, hg⟩ := hd j d hj
  have h2 := hcell j v hv
  unfold World.cell? at h2
  rw [hblk] at h2
  simp at h2
  refine ⟨v, ?_, hg⟩
  rw [List.getElem?_drop]
  simpa using h2
theorem choose_two {R : Nat → D → Value → Prop} : ∀ n, (∀ j, j < n → ∃ d v, R j d v) → ∃ (ds : List D) (vs : List Value), ds.length = n ∧ vs.length = n ∧ ∀ (j : Nat) (d : D), ds[j]? = some d → ∃ v, vs[j]? = some v ∧ R j d v
  | 0, _ => ⟨[], [], rfl, rfl, fun j d hj => by simp at hj⟩
  | n + 1, h => by
    obtain ⟨ds, vs, h1, h2, h3⟩ := choose_two n (fun j hj => h j (by omega))
    obtain ⟨d, v, hd⟩ := h n (by omega)
    refine ⟨ds ++ [d], vs ++ [v], by simp [h1], by simp [h2], fun j x hx => ?_⟩
    by_cases hj : j < n
    · rw [List.getElem?_append_left (by omega)] at hx
      obtain ⟨u, hu, hr⟩ := h3 j x hx
      exact ⟨u, by rw [List.getElem?_append_left (by omega)]; exact hu, hr⟩
    · rw [List.getElem?_append_right (by omega)] at hx
      have hlt := (List.getElem?_eq_some_iff.mp hx).1
      have e : j = n := by simp at hlt; omega
      subst e
      rw [show j - ds.length = 0 by omega] at hx
      simp at hx
      subst hx
      exact ⟨v, by rw [List.getElem?_append_right (by omega)]; simp [h2], hd⟩
theorem add_add (a : Addr) (p q : Nat) : (a.add p).add q = a.add (p + q) := by
  unfold Addr.add
  by_cases hp : p = 0
  · subst hp; simp
  · by_cases hq : q = 0
    · subst hq; simp [hp]
    · simp [hp, hq]; omega
theorem leaf_ok : ∀ (f : Nat) (k : Kd) (v : Value), nestOk P f k = true → leaf enc P w k v → ∃ d, wfK P f k d ∧ gD P (fun b => w.heap[b]?) d v := by
  have flat : ∀ (f : Nat) (k : Kd) (v : Value), (∀ t, k ≠ .list t) → leaf enc P w k v → ∃ d, wfK P f k d ∧ gD P (fun b => w.heap[b]?) d v := by
    intro f k v hk ⟨n, t, y, hu, ht⟩
    cases k with
    | int k =>
      obtain ⟨x, e, _, hw⟩ := DataW.trod_int hu ht
      obtain rfl : v = .int k x := by simpa using e
      exact ⟨.int k x, by cases f <;> exact ⟨x, rfl, hw⟩, by unfold gD; rfl⟩
    | bool =>
      obtain ⟨x, e, _⟩ := DataW.trod_bool hu ht
      obtain rfl : v = .bool x := by simpa using e
      exact ⟨.bool x, by cases f <;> exact ⟨x, rfl⟩, by unfold gD; rfl⟩
    | str =>
      obtain ⟨x, e, _, hw⟩ := DataW.trod_string hu ht
      obtain rfl : v = .string x := by simpa using e
      exact ⟨.str x, by cases f <;> exact ⟨x, rfl, hw⟩, by unfold gD; rfl⟩
    | list t => exact absurd rfl (hk t)
  intro f
  induction f with
  | zero =>
    intro k v hd hl
    cases k with
    | list t => cases hd
    | _ => exact flat 0 _ v (by simp) hl
  | succ f ih =>
    intro k v hd hl
    cases k with
    | list e =>
      unfold nestOk at hd
      split at hd <;> try (cases hd; done)
      rename_i ks hks
      simp only [Bool.and_eq_true, beq_iff_eq, decide_eq_true_eq] at hd
      obtain ⟨⟨⟨⟨d1, d2⟩, d3⟩, d4⟩, d5⟩ := hd
      obtain ⟨n, t, y, hu, ht⟩ := hl
      rcases open_slice hu ht with ⟨e1, _⟩ | ⟨ad, l, c, m, n', D', Pl, e1, hb, hlc, hcm, hm, _, hx⟩
      · obtain rfl : v = .slice none 0 0 := by simpa using e1
        exact ⟨.list e 0 [], ⟨0, [], ks, rfl, Nat.zero_le _, hks, by simp, fun j x hj => by simp at hj⟩, by unfold gD; exact ⟨none, 0, rfl, Nat.le_refl _, by simp, .inl rfl⟩⟩
      · obtain rfl : v = .slice (some ad) l c := by simpa using e1
        have hml : l ≤ m := by rw [hm]; simpa using hlc
        have hcell : ∀ j, j < l * ks.length → ∃ (d : D) (u : Value), (∃ k, ks[j % ks.length]? = some k ∧ wfK P f k d) ∧ w.cell? (ad.add (j / ks.length * ks.length + j % ks.length)) = some u ∧ gD P (fun b => w.heap[b]?) d u := by
          intro j hj
          have hjd : j / ks.length < l := Nat.div_lt_of_lt_mul (by rw [Nat.mul_comm]; exact hj)
          have hjm : j % ks.length < ks.length := Nat.mod_lt _ d3
          obtain ⟨cs', h1, h2⟩ := hx (j / ks.length) (by omega)
          obtain ⟨u, hv, hlf⟩ := open_flat 6 e ks n' cs' _ (kinds_of hks).1 d4 h2 (j % ks.length) ks[j % ks.length] (List.getElem?_eq_getElem hjm)
          obtain ⟨d, q1, q2⟩ := ih _ u (List.all_eq_true.mp d5 _ (List.getElem_mem hjm)) hlf
          obtain ⟨_, hlen, h3⟩ := World.cells?_some h1
          have h4 := h3 (j % ks.length) (by rw [d1]; exact hjm)
          rw [hv, d1] at h4
          refine ⟨d, u, ⟨_, List.getElem?_eq_getElem hjm, q1⟩, ?_, q2⟩
          have hadd : (ad.add (j / ks.length * ks.length)).add (j % ks.length) = ad.add (j / ks.length * ks.length + j % ks.length) := add_add _ _ _
          rw [← hadd]; exact h4
        obtain ⟨ds, vs, z1, z2, z3⟩ := choose_two (l * ks.length) hcell
        refine ⟨.list e l ds, ⟨l, ds, ks, rfl, by omega, hks, z1, fun j x hj => ?_⟩, gD_of_sees' (xs := vs) hlc ⟨by rw [z2, d2], fun hl0 => ?_⟩ (by rw [z1, z2]) (fun j d hj => ?_)⟩
        · obtain ⟨_, _, hk, _⟩ := z3 j x hj
          exact hk
        · have hp0 : 0 < l * ks.length := Nat.mul_pos hl0 d3
          obtain ⟨bb, oo, ss⟩ := ad
          obtain ⟨u0, hu0, _, hc0, _⟩ := z3 0 (ds[0]'(by omega)) (List.getElem?_eq_getElem (by omega))
          have hss : ss = none := by simpa [Addr.add] using World.cell?_spot hc0
          subst hss
          have hblk : bb < w.heap.size := by
            have := block_lt_of_cell hc0
            simpa [Addr.add] using this
          refine ⟨bb, oo, rfl, hblk, fun j u hu => ?_⟩
          have hj : j < ds.length := by rw [z1, ← z2]; exact (List.getElem?_eq_some_iff.mp hu).1
          obtain ⟨u', hu', _, hc', _⟩ := z3 j ds[j] (List.getElem?_eq_getElem hj)
          rw [hu] at hu'
          injection hu' with hu'
          subst hu'
          rw [show j / ks.length * ks.length + j % ks.length = j by rw [Nat.mul_comm]; exact Nat.div_add_mod j _] at hc'
          rw [← hc']
          cases j <;> simp [Addr.add]
        · obtain ⟨u, hu, _, _, hg⟩ := z3 j d hj
          exact ⟨u, hu, hg⟩
    | _ => exact flat (f + 1) _ v (by simp) hl
theorem leaves_ok {f : Nat} : ∀ (ks : List Kd) (cs : List Value), cs.length = ks.length → ks.all (nestOk P f) = true → (∀ (j : Nat) (k : Kd), ks[j]? = some k → ∃ v, cs[j]? = some v ∧ leaf enc P w k v) →
    ∃ xs : List D, wfXs P f ks xs ∧ xs.length = cs.length ∧ ∀ (j : Nat) (d : D), xs[j]? = some d → ∃ v, cs[j]? = some v ∧ gD P (fun b => w.heap[b]?) d v
  | [], [], _, _, _ => ⟨[], trivial, rfl, fun j d hj => by simp at hj⟩
  | k :: ks, v :: cs, hl, ha, h => by
    rw [List.all_cons, Bool.and_eq_true] at ha
    obtain ⟨v', h1, h2⟩ := h 0 k rfl
    simp at h1
    subst h1
    obtain ⟨d, g1, g2⟩ := leaf_ok f k v ha.1 h2
    obtain ⟨xs, x1, x2, x3⟩ := leaves_ok ks cs (by simpa using hl) ha.2 (fun j k hj => by simpa using h (j + 1) k (by simpa using hj))
    refine ⟨d :: xs, ⟨g1, x1⟩, by simp [x2], fun j d' hj => ?_⟩
    cases j with
    | zero => simp at hj; subst hj; exact ⟨v, rfl, g2⟩
    | succ j => simpa using x3 j d' (by simpa using hj)
  | [], _ :: _, hl, _, _ => by simp at hl
  | _ :: _, [], hl, _, _ => by simp at hl
theorem wfXs_append {f : Nat} : ∀ {ks ks' : List Kd} {xs xs' : List D}, wfXs P f ks xs → wfXs P f ks' xs' → wfXs P f (ks ++ ks') (xs ++ xs')
  | [], _, [], _, _, h => h
  | _ :: _, _, _ :: _, _, ⟨h1, h2⟩, h => ⟨h1, wfXs_append h2 h⟩
theorem open_args {f : Nat} {r : Reach} {b0 : Nat} : ∀ {ts : List Nat} {vs : List Value} {ds : List (DataW H)} {p : List MemPlace} {ks : List Kd}, DataW.TrodAll enc P w 0 (fun _ => true) true ts vs ds p → (∀ (j : Nat) t v, ts[j]? = some t → vs[j]? = some v → Value.okWide P w r b0 t v) → ksAll P ts = some ks → ts.all (topOk P f) = true →
    ∃ (cells : List Value) (xs : List D), splitVal P ts cells vs ∧ wfXs P f ks xs ∧ xs.length = cells.length ∧ ∀ (j : Nat) (d : D), xs[j]? = some d → ∃ v, cells[j]? = some v ∧ gD P (fun b => w.heap[b]?) d v
  | [], vs, ds, p, ks, h, _, hk, _ => by
    obtain ⟨rfl, _, _⟩ := trodAll_nil h
    injection hk with hk; subst hk
    exact ⟨[], [], ⟨rfl, rfl⟩, trivial, rfl, fun j d hj => by simp at hj⟩
  | t :: ts, vs, ds, p, ks, h, hv, hk, ha => by
    obtain ⟨v, vs', d, ds', p', q', rfl, rfl, rfl, ⟨n, h1⟩, h2⟩ := trodAll_cons h
    rw [List.all_cons, Bool.and_eq_true] at ha
    unfold ksAll at hk
    split at hk <;> try (cases hk; done)
    rename_i k1 k2 hk1 hk2
    injection hk with hk; subst hk
    obtain ⟨cells, xs, c1, c2, c3, c4⟩ := open_args (f := f) h2 (fun j t v hj hv' => hv (j + 1) t v (by simpa using hj) (by simpa using hv')) hk2 ha.2
    have ht := ha.1
    unfold topOk at ht
    rw [hk1] at ht
    simp only [Bool.and_eq_true, beq_iff_eq] at ht
    obtain ⟨⟨t1, t2⟩, t3⟩ := ht
    obtain ⟨hkd, et, het, hone⟩ := kinds_of hk1
    have hlv := open_flat 6 t k1 n _ _ hkd t2 h1
    have hval := hv 0 t v rfl rfl
    have hu := (ti_spec het).1
    have key : ∃ cs : List Value, v.cells.toList = cs ∧ cs.length = k1.length ∧ splitVal P (t :: ts) (cs ++ cells) (v :: vs') := by
      by_cases hst : isSt P t = true
      · have hst' := hst
        unfold isSt at hst'
        rw [het] at hst'
        obtain ⟨fs, hfs⟩ := Typ.isStruct_not hst'
        rw [hfs] at hu
        obtain ⟨arr, rfl, hsz⟩ := okWide_struct hu hval
        refine ⟨arr.toList, rfl, by simp [hsz, t1], ?_⟩
        exact splitVal_agg hk1 hst (by rw [hsz, t1]) c1
      · have hst2 : isSt P t = false := by simpa using hst
        have h1len : k1.length = 1 := by
          rcases hone with h9 | h9
          · exfalso; apply hst; unfold isSt; rw [het]; exact h9
          · exact h9
        have hcell : v.cells = #[v] := by
          unfold kinds at hkd
          split at hkd <;> try (cases hkd; done)
          · rename_i hu2; obtain ⟨x, rfl⟩ := okWide_int hu2 hval; rfl
          · rename_i hu2; obtain ⟨x, rfl⟩ := okWide_bool hu2 hval; rfl
          · rename_i hu2; obtain ⟨x, rfl⟩ := okWide_string hu2 hval; rfl
          · rename_i hu2; obtain ⟨x, l, c, rfl⟩ := okWide_slice hu2 hval; rfl
          · rename_i fs hu2
            exfalso; apply hst
            unfold isSt; rw [het]
            rw [hu] at hu2
            injection hu2 with hu2
            simp only; rw [hu2]; rfl
        refine ⟨[v], by rw [hcell], by simp [h1len], ?_⟩
        exact splitVal_one hk1 hst2 c1
    obtain ⟨cs, hcs, hcl, hsp⟩ := key
    rw [hcs] at hlv
    obtain ⟨ys, y1, y2, y3⟩ := leaves_ok k1 cs hcl t3 hlv
    refine ⟨cs ++ cells, ys ++ xs, hsp, wfXs_append y1 c2, by simp [y2, c3], fun j d' hj => ?_⟩
    by_cases hlt : j < ys.length
    · rw [List.getElem?_append_left hlt] at hj
      obtain ⟨u, hu1, hu2⟩ := y3 j d' hj
      exact ⟨u, by rw [List.getElem?_append_left (by omega)]; exact hu1, hu2⟩
    · rw [List.getElem?_append_right (by omega)] at hj
      obtain ⟨u, hu1, hu2⟩ := c4 _ d' hj
      exact ⟨u, by rw [List.getElem?_append_right (by omega), ← y2]; exact hu1, hu2⟩
theorem wfK_fit {f : Nat} {k : Kd} {d : D} (h : wfK P f k d) : fitK d k = true := by
  cases k with
  | int k => have h' : ∃ n : Int, d = .int k n ∧ (Lit.int k n).wf = true := by cases f <;> exact h
             obtain ⟨n, rfl, _⟩ := h'; simp [fitK]
  | bool => have h' : ∃ b, d = .bool b := by cases f <;> exact h
            obtain ⟨n, rfl⟩ := h'; rfl
  | str => have h' : ∃ s : ByteArray, d = .str s ∧ s.size ≤ maxLen := by cases f <;> exact h
           obtain ⟨n, rfl, _⟩ := h'; rfl
  | list t =>
    cases f with
    | zero => exact h.elim
    | succ f => obtain ⟨n, cs, ks, rfl, _⟩ := h; simp [fitK]
theorem wfXs_fits {f : Nat} : ∀ {ks : List Kd} {xs : List D}, wfXs P f ks xs → fits xs ks = true
  | [], [], _ => rfl
  | k :: ks, d :: ds, ⟨h1, h2⟩ => by unfold fits; rw [wfK_fit h1, wfXs_fits h2]; rfl
/-- A law that is told answers 'true'. -/
theorem law_calls {f : Nat} {fn : Func} {tr m : Nat} {pre : List D → Prop} {post : List D → List D → Prop} {r : Reach} {b0 : Nat} {ks : List Kd} (h : FnOk P f ⟨fn.params.toList, fn.resultTypes.toList, pre, post, .own⟩) (hres : fn.resultTypes.toList = [tr]) (hks : ksAll P fn.params.toList = some ks) (hok : fn.params.toList.all (topOk P m) = true)
    (hr : ksOf P tr = some [.bool]) (hrs : isSt P tr = false) (hpre : ∀ xs, wfXs P m ks xs → pre xs) (hpost : ∀ xs ys, post xs ys → ys = [.bool true])
    {args : Array Value} {ds : List (DataW H)} {p : List MemPlace} (hA : DataW.TrodAll enc P w 0 (fun _ => true) true fn.params.toList args.toList ds p) (hv : ∀ (j : Nat) t v, fn.params[j]? = some t → args[j]? = some v → Value.okWide P w r b0 t v) :
    Calls P f args w fun e w' => e = .returned (.bool true) ∧ Below w.heap.size w w' := by
  obtain ⟨cells, xs, c1, c2, c3, c4⟩ := open_args (f := m) (r := r) (b0 := b0) hA (fun j t v hj hv' => hv j t v (by simpa using hj) (by simpa using hv')) hks hok
  obtain ⟨_, _, g⟩ := fits_sels (κ := ⟨fun _ => none, fun b => w.heap[b]?⟩) [] xs ks cells (wfXs_fits c2) c3 c4
  rw [hres] at h
  refine (calls_own h hks c1 (wfXs_fits c2) g (hpre xs c2)).mono ?_
  rintro e w' ⟨v, ys, rfl, hp, hb, hres'⟩
  rw [hpost _ _ hp] at hres'
  exact ⟨by rw [res_true hr hrs hres'], hb⟩
/-- The arguments behind the call, as ahead of it. -/
theorem trodAll_below (hl : laidOutB P = true) {W W' : World} (hb : Below W.heap.size W W') : ∀ {ts : List Nat} {vs : List Value} {ds : List (DataW H)} {p : List MemPlace}, ts.all (fun t => P.readableRec t && decide (t < P.types.size)) = true → DataW.TrodAll enc P W 0 (fun _ => true) true ts vs ds p → DataW.TrodAll enc P W' 0 (fun b => decide (b < W.heap.size)) true ts vs ds p
  | [], vs, ds, p, _, h => by
    obtain ⟨rfl, rfl, rfl⟩ := trodAll_nil h
    exact trodAll_mk0
  | t :: ts, vs, ds, p, ha, h => by
    obtain ⟨v, vs', d, ds', p', q', rfl, rfl, rfl, h1, h2⟩ := trodAll_cons h
    rw [List.all_cons, Bool.and_eq_true, Bool.and_eq_true, decide_eq_true_eq] at ha
    have lt : ∀ x ∈ p', x.block < W.heap.size := by obtain ⟨m, hm⟩ := h1; exact DataW.trod_lt m _ _ _ hm
    exact ⟨p', q', Below.trod hl ha.1.1 ha.1.2 h1 hb lt, trodAll_below hl hb ha.2 h2, rfl⟩
end
theorem trodAll_len {H : Type} {enc : TypeId × Value → H} {P : Program} {w : World} {b : Nat} {sp : Nat → Bool} {he : Bool} : ∀ {ts : List Nat} {vs : List Value} {ds : List (DataW H)} {p : List MemPlace}, DataW.TrodAll enc P w b sp he ts vs ds p → ds.length = ts.length
  | [], vs, ds, p, h => by
    obtain ⟨rfl, rfl, rfl⟩ := trodAll_nil h
    rfl
  | t :: ts, vs, ds, p, h => by
    obtain ⟨v, vs', d, ds', p', q', rfl, rfl, rfl, h1, h2⟩ := trodAll_cons h
    simp [trodAll_len h2]
theorem len2 {α : Type} {l : List α} {n : Nat} (h : l.length = n) (hn : n = 2) : ∃ a b, l = [a, b] := by
  match l, h with
  | [a, b], _ => exact ⟨a, b, rfl⟩
  | [], h => simp at h; omega
  | [_], h => simp at h; omega
  | _ :: _ :: _ :: _, h => simp at h; omega
end Go.Proofs.Ytjleempapphlhab.Mini
end
