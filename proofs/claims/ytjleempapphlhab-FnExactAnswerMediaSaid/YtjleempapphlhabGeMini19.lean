/- Parts of the proof: Mini19. -/
import Derived.Test.YtjleempapphlhabGeMini18
section
namespace Go.Proofs.Ytjleempapphlhab.Mini
open Go Go.RowKit
set_option linter.unusedVariables false
set_option maxRecDepth 20000
def valD : D → Value
  | .int k n => .int k n
  | .bool b => .bool b
  | .str s => .string s
  | .list _ _ _ => undef
/-- Values of types, of scalar cells. -/
def valsOf (P : Program) : List Nat → List D → List Value
  | [], _ => []
  | t :: ts, ds => match ksOf P t with
    | some ks => if isSt P t = true then .agg ((ds.take ks.length).map valD).toArray :: valsOf P ts (ds.drop ks.length)
      else match ds with
        | d :: ds' => valD d :: valsOf P ts ds'
        | [] => []
    | none => []
section
variable {P : Program} {w : World}
theorem gD_val {z : Nat → Option Obj} {d : D} {v : Value} (hs : d.scalar = true) (h : gD P z d v) : v = valD d := by
  cases d with
  | int k n => unfold gD at h; exact h
  | bool b => unfold gD at h; exact h
  | str s => unfold gD at h; exact h
  | list t n c => cases hs
theorem val_gD {z : Nat → Option Obj} {d : D} (hs : d.scalar = true) : gD P z d (valD d) := by
  cases d with
  | int k n => unfold gD; rfl
  | bool b => unfold gD; rfl
  | str s => unfold gD; rfl
  | list t n c => cases hs
theorem fit_scal {d : D} {k : Kd} (h : fitK d k = true) (hk : scalK k = true) : d.scalar = true := by
  cases d <;> cases k <;> first | rfl | cases h | cases hk
theorem sels_vals {κ : Kr} : ∀ (pre rest : List D) (ks : List Kd) (vs : List Value), fits rest ks = true → ks.all scalK = true → gL P κ (sels (pre ++ rest) pre.length ks) vs → vs = rest.map valD
  | pre, [], [], [], _, _, _ => rfl
  | pre, d :: ds, k :: ks, v :: vs, h, hk, hg => by
    unfold fits at h
    rw [Bool.and_eq_true] at h
    rw [List.all_cons, Bool.and_eq_true] at hk
    obtain ⟨q1, q2⟩ := fitK_sel (ds := pre ++ d :: ds) (j := pre.length) (d := d) (by simp) h.1
    have h1 : gD P κ.z (sel (pre ++ d :: ds) pre.length k) v := hg.1
    rw [q2] at h1
    have h2 := hg.2
    have := sels_vals (pre ++ [d]) ds ks vs h.2 hk.2 (by rw [List.append_assoc, List.length_append]; exact h2)
    rw [gD_val (fit_scal h.1 hk.1) h1, this]
    rfl
  | pre, [], k :: ks, _, h, _, _ => by simp [fits] at h
  | pre, d :: ds, [], _, h, _, _ => by simp [fits] at h
  | pre, [], [], v :: vs, _, _, hg => hg.elim
  | pre, d :: ds, k :: ks, [], _, _, hg => hg.elim
theorem split_vals : ∀ {ts : List Nat} {xs : List D} {vs : List Value}, splitVal P ts (xs.map valD) vs → vs = valsOf P ts xs
  | [], xs, vs, h => h.2
  | t :: ts, xs, [], h => by unfold splitVal at h; exact h.elim
  | t :: ts, xs, v :: vs, h => by
    unfold splitVal at h
    unfold valsOf
    split at h
    · rename_i ks hks
      rw [hks]
      simp only
      split at h
      · rename_i hst
        rw [if_pos hst]
        obtain ⟨arr, rfl, h1, h2, h3⟩ := h
        rw [← List.map_drop] at h3
        rw [← split_vals h3, List.map_take, ← h2]
      · rename_i hst
        rw [if_neg hst]
        obtain ⟨rest, h1, h2⟩ := h
        cases xs with
        | nil => simp at h1
        | cons d ds =>
          simp only [List.map_cons, List.cons.injEq] at h1
          obtain ⟨rfl, rfl⟩ := h1
          show valD d :: vs = valD d :: valsOf P ts ds
          rw [← split_vals h2]
    · exact h.elim
theorem vals_split : ∀ {ts : List Nat} {xs : List D} {ks : List Kd}, ksAll P ts = some ks → xs.length = ks.length → splitVal P ts (xs.map valD) (valsOf P ts xs)
  | [], xs, ks, h, hl => by
    injection h with h; subst h
    have : xs = [] := List.eq_nil_of_length_eq_zero hl
    subst this
    exact ⟨rfl, rfl⟩
  | t :: ts, xs, ks, h, hl => by
    unfold ksAll at h
    split at h <;> try (cases h; done)
    rename_i a b ha hb
    injection h with h; subst h
    rw [List.length_append] at hl
    unfold valsOf
    rw [ha]
    simp only
    by_cases hst : isSt P t = true
    · rw [if_pos hst]
      unfold splitVal
      rw [ha]
      simp only
      rw [if_pos hst]
      refine ⟨_, rfl, by simp; omega, by simp [List.map_take], ?_⟩
      rw [← List.map_drop]
      exact vals_split hb (by rw [List.length_drop]; omega)
    · rw [if_neg hst]
      have h1 : a.length = 1 := by
        have h9 := ha
        unfold ksOf at h9
        split at h9 <;> try (cases h9; done)
        rename_i ks' et g1 g2
        split at h9 <;> try (cases h9; done)
        rename_i hc
        injection h9 with h9; subst h9
        rcases hc.2 with h8 | h8
        · exfalso; apply hst; unfold isSt; rw [g2]; exact h8
        · exact h8
      cases xs with
      | nil => simp at hl; omega
      | cons d ds =>
        unfold splitVal
        rw [ha]
        simp only
        rw [if_neg hst]
        exact ⟨ds.map valD, rfl, vals_split hb (by simp at hl; omega)⟩
theorem fits_len : ∀ {xs : List D} {ks : List Kd}, fits xs ks = true → xs.length = ks.length
  | [], [], _ => rfl
  | _ :: _, _ :: _, h => by unfold fits at h; rw [Bool.and_eq_true] at h; simp [fits_len h.2]
  | [], _ :: _, h => by simp [fits] at h
  | _ :: _, [], h => by simp [fits] at h
theorem resL_scal {base : Nat} {w' : World} : ∀ (pre rest : List D) (ks : List Kd), fits rest ks = true → ks.all scalK = true → all_ (needs (pre ++ rest) pre.length ks) ∧ resL P base w' (pre ++ rest) pre.length ks (rest.map valD) []
  | pre, [], [], _, _ => ⟨trivial, rfl, rfl⟩
  | pre, d :: ds, k :: ks, h, hk => by
    unfold fits at h
    rw [Bool.and_eq_true] at h
    rw [List.all_cons, Bool.and_eq_true] at hk
    obtain ⟨q1, q2⟩ := fitK_sel (ds := pre ++ d :: ds) (j := pre.length) (d := d) (by simp) h.1
    obtain ⟨g1, g2⟩ := resL_scal (base := base) (w' := w') (pre ++ [d]) ds ks h.2 hk.2
    rw [List.append_assoc, List.length_append] at g1 g2
    refine ⟨⟨q1, g1⟩, ?_⟩
    have hv : gD P (fun _ => none) (sel (pre ++ d :: ds) pre.length k) (valD d) := by rw [q2]; exact val_gD (fit_scal h.1 hk.1)
    cases k with
    | list t => cases hk.1
    | int k => exact ⟨hv, g2⟩
    | bool => exact ⟨hv, g2⟩
    | str => exact ⟨hv, g2⟩
  | pre, [], k :: ks, h, _ => by simp [fits] at h
  | pre, d :: ds, [], h, _ => by simp [fits] at h
/-- A function of scalars, by its contract. -/
theorem ok_of_calls {f : Nat} {fn : Func} {pre : List D → Prop} {post : List D → List D → Prop} {ks rk : List Kd} (hf : P.funcs[f]? = some fn) (hn : (fn.name == "runtime.NumGoroutine") = false) (hb : fn.body.isNone = false)
    (hks : ksAll P fn.params.toList = some ks) (hrk : ksAll P fn.resultTypes.toList = some rk) (hs : ks.all scalK = true) (hr : rk.all scalK = true)
    (h : ∀ (w : World) (xs : List D), fits xs ks = true → pre xs → Calls P f (valsOf P fn.params.toList xs).toArray w fun e w' => ∃ ys, e = .returned (wrapVal (valsOf P fn.resultTypes.toList ys)) ∧ post xs ys ∧ fits ys rk = true ∧ Below w.heap.size w w') :
    FnOk P f ⟨fn.params.toList, fn.resultTypes.toList, pre, post, .own⟩ := by
  refine ⟨⟨fn, hf, hn, hb⟩, ?_⟩
  show ∀ (w : World) (zz : Nat → Option Obj) (vs : Array Value) (xs : List D) (ks : List Kd) (cells : List Value), _ → _ → _ → _ → _ → _ → _
  intro w zz vs xs ks' cells hzz hks' hsp hfit hg hpre
  have hks2 : ksAll P fn.params.toList = some ks' := hks'
  rw [hks] at hks2
  injection hks2 with e
  subst e
  have hc := sels_vals [] xs ks cells hfit hs hg
  rw [hc] at hsp
  have hvs : vs = (valsOf P fn.params.toList xs).toArray := by
    have := split_vals hsp
    rw [← this]
  rw [hvs]
  refine (h w xs hfit hpre).mono ?_
  rintro e w' ⟨ys, rfl, hp, hy, hbl⟩
  obtain ⟨g1, g2⟩ := resL_scal (P := P) (base := w.heap.size) (w' := w') [] ys rk hy hr
  refine ⟨_, ys, rfl, hp, hbl, ?_⟩
  exact ⟨rk, ys.map valD, valsOf P fn.resultTypes.toList ys, [], hrk, g1, vals_split hrk (fits_len hy), by simp [blocks], g2, rfl⟩
theorem fits_nil {xs : List D} (h : fits xs [] = true) : xs = [] := by cases xs with | nil => rfl | cons => simp [fits] at h
theorem fits_str {xs : List D} {ks : List Kd} (h : fits xs (.str :: ks) = true) : ∃ s l, xs = .str s :: l ∧ fits l ks = true := by
  cases xs with
  | nil => simp [fits] at h
  | cons d l => cases d <;> simp [fits, fitK] at h; exact ⟨_, _, rfl, h⟩
theorem fits_int {xs : List D} {k : IntKind} {ks : List Kd} (h : fits xs (.int k :: ks) = true) : ∃ n l, xs = .int k n :: l ∧ fits l ks = true := by
  cases xs with
  | nil => simp [fits] at h
  | cons d l => cases d <;> simp [fits, fitK] at h; obtain ⟨rfl, h⟩ := h; exact ⟨_, _, rfl, h⟩
theorem fits_s {xs : List D} (h : fits xs [.str] = true) : ∃ s, xs = [.str s] := by
  obtain ⟨s, l, rfl, h1⟩ := fits_str h
  exact ⟨s, by rw [fits_nil h1]⟩
theorem fits_i {xs : List D} (h : fits xs [.int .i64] = true) : ∃ n, xs = [.int .i64 n] := by
  obtain ⟨s, l, rfl, h1⟩ := fits_int h
  exact ⟨s, by rw [fits_nil h1]⟩
end
end Go.Proofs.Ytjleempapphlhab.Mini
end
