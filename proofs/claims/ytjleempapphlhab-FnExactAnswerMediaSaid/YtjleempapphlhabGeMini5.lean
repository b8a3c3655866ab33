/- Parts of the proof: Mini5. -/
import Derived.Test.YtjleempapphlhabGeMini4
section
namespace Go.Proofs.Ytjleempapphlhab.Mini
open Go Go.RowKit
set_option linter.unusedVariables false
def bnd (e : Operand → AV) : Option Operand → Option (Option Int)
  | none => some none
  | some x => match e x with | .v (.one (.d (.int _ n))) => some (some n) | _ => none
def mSlice (P : Program) (e : Operand → AV) (t : Nat) (x : Operand) (lo hi mx : Option Operand) : R :=
  match ti P t, mx, bnd e lo, bnd e hi with
  | some et, none, some a, some b =>
    match e x with
    | .v (.one (.d (.str s))) => if isStr et.und = true then
        some ([0 ≤ a.getD 0 ∧ a.getD 0 ≤ b.getD s.size ∧ b.getD s.size ≤ (s.size : Int)], str (s.extract (a.getD 0).toNat (b.getD s.size).toNat), []) else none
    | .v (.one (.sl u id off len)) =>
      match isSl et.und, ti P u with
      | some el, some _ => if el = u then
          some ([0 ≤ a.getD 0 ∧ a.getD 0 ≤ b.getD len ∧ b.getD len ≤ (len : Int)], one (.sl u id (off + (a.getD 0).toNat) (b.getD len - a.getD 0).toNat), []) else none
      | _, _ => none
    | .v (.one (.d (.list u m ds))) =>
      match isSl et.und, ti P u with
      | some el, some _ => if el = u then
          some ([0 ≤ a.getD 0 ∧ a.getD 0 ≤ b.getD m ∧ b.getD m ≤ (m : Int)], one (.d (.list u (b.getD m - a.getD 0).toNat ((ds.drop ((a.getD 0).toNat * sz P u)).take ((b.getD m - a.getD 0).toNat * sz P u)))), []) else none
      | _, _ => none
    | _ => none
  | _, _, _, _ => none
def mLen (P : Program) (ts : Array Nat) (args : List AV) : R :=
  match ts.toList, args with
  | [t], [.v (.one a)] =>
    match ti P t with
    | some et => match a with
      | .d (.str s) => if isStr et.und = true then some ([], int .i64 s.size, []) else none
      | .d (.list _ n _) => if (isSl et.und).isSome = true then some ([], int .i64 n, []) else none
      | .sl _ _ _ n => if (isSl et.und).isSome = true then some ([], int .i64 n, []) else none
      | .nil => if (isSl et.und).isSome = true then some ([], int .i64 0, []) else none
      | _ => none
    | none => none
  | _, _ => none
def rep {α : Type} (n : Nat) (l : List α) : List α := (List.replicate n l).flatten
theorem rep_len {α : Type} (n : Nat) (l : List α) : (rep n l).length = n * l.length := by simp [rep]
theorem rep_at {α : Type} (l : List α) : ∀ (n j : Nat) (d : α), (rep n l)[j]? = some d → j < n * l.length ∧ l[j % l.length]? = some d
  | 0, j, d, h => by simp [rep] at h
  | n + 1, j, d, h => by
    have e : rep (n + 1) l = l ++ rep n l := by simp [rep, List.replicate_succ]
    rw [e] at h
    by_cases hj : j < l.length
    · rw [List.getElem?_append_left hj] at h
      have : 1 * l.length ≤ (n + 1) * l.length := Nat.mul_le_mul_right _ (by omega)
      exact ⟨by omega, by rw [Nat.mod_eq_of_lt hj]; exact h⟩
    · rw [List.getElem?_append_right (by omega)] at h
      obtain ⟨h1, h2⟩ := rep_at l n _ d h
      refine ⟨by rw [Nat.succ_mul]; omega, ?_⟩
      rw [← Nat.mod_eq_sub_mod (by omega)] at h2
      exact h2
def mMake (P : Program) (e : Operand → AV) (t : Nat) (x y : Operand) (nb : Nat) : R :=
  match ti P t, e x, e y with
  | some et, .v (.one (.d (.int _ n))), .v (.one (.d (.int _ m))) =>
    match isSl et.und with
    | some el => match ti P el with
      | some ee => match toDs (ee.zero.cells.toList.map absZ) with
        | some zs => some ([m = n ∧ 0 ≤ n ∧ n * ee.size ≤ 16777216 ∧ ee.bytes * n ≤ 281474976710656], one (.sl el nb 0 n.toNat), [(nb, some (.sym el (rep n.toNat zs)))])
        | none => none
      | none => none
    | none => none
  | _, _, _ => none
def mBuildSlice (P : Program) (e : Operand → AV) (t n : Nat) (parts : Array (Nat × Operand)) (nb : Nat) : R :=
  match ti P t with
  | some et => match isSl et.und with
    | some el => match ti P el with
      | some ee => if n * ee.size ≤ 16777216 then
          match afill (fun i => some (i * ee.size, ee.size)) (rep n (ee.zero.cells.toList.map absZ)) (parts.toList.map fun p => (p.1, e p.2)) with
          | some l => some ([], one (.sl el nb 0 n), [(nb, some (.fix el l))])
          | none => none
        else none
      | none => none
    | none => none
  | none => none
section
variable {P : Program} {w0 : Bs} {κ : Kr} {C : Cs} {w : World} {ρ : Operand → Value} {e : Operand → AV} {ns : List Prop} {av : AV} {us : Us}
theorem isStr_spec {d : TypeDesc} (h : isStr d = true) : d = .string := by cases d <;> first | rfl | cases h
theorem isSl_some {d : TypeDesc} (h : (isSl d).isSome = true) : ∃ el, d = .slice el := by
  cases d <;> simp [isSl] at h
  exact ⟨_, rfl⟩
theorem bnd_spec (he : ∀ x, gAV P κ (e x) (ρ x)) {lo : Option Operand} {a : Option Int} (h : bnd e lo = some a) :
    (lo = none ∧ a = none) ∨ ∃ x k n, lo = some x ∧ a = some n ∧ ρ x = .int k n := by
  unfold bnd at h
  split at h
  · injection h with h; exact .inl ⟨rfl, h.symm⟩
  · rename_i x
    have hx := he x
    split at h <;> try (cases h; done)
    rename_i k n ex
    rw [ex] at hx
    injection h with h
    exact .inr ⟨x, k, n, rfl, h.symm, gint hx⟩
/-- The bounds of a cut. -/
theorem bounds_run (he : ∀ x, gAV P κ (e x) (ρ x)) {lo hi : Option Operand} {a b : Option Int} (ha : bnd e lo = some a) (hb : bnd e hi = some b) (sl : Bool) {len cap : Nat} (hlc : len ≤ cap)
    (h : 0 ≤ a.getD 0 ∧ a.getD 0 ≤ b.getD len ∧ b.getD len ≤ (len : Int)) :
    (Instr.sliceBounds sl len cap (lo.map ρ) (hi.map ρ) none).run P w = .ok ((a.getD 0).toNat, (b.getD len).toNat, cap) w := by
  rcases bnd_spec he ha with ⟨rfl, rfl⟩ | ⟨x, k, n, rfl, rfl, hx⟩ <;> rcases bnd_spec he hb with ⟨rfl, rfl⟩ | ⟨y, k', m, rfl, rfl, hy⟩
  · simp [Instr.sliceBounds]
  · simp only [Option.getD] at h
    have hm : 0 ≤ m ∧ m ≤ (cap : Int) := by omega
    simp [Instr.sliceBounds, Instr.sliceBound, hy, asIntOf, hm]
  · simp only [Option.getD] at h
    have hm : 0 ≤ n ∧ n ≤ (len : Int) := by omega
    simp [Instr.sliceBounds, Instr.sliceBound, hx, asIntOf, hm]
  · simp only [Option.getD] at h
    have hm : 0 ≤ m ∧ m ≤ (cap : Int) := by omega
    have hn : 0 ≤ n ∧ n ≤ max m 0 := by omega
    simp [Instr.sliceBounds, Instr.sliceBound, hx, hy, asIntOf, hm, hn]
theorem s_slice (hi : Inv P w0 κ C w) (he : ∀ x, gAV P κ (e x) (ρ x)) {t : Nat} {x : Operand} {lo hi' mx : Option Operand} (h : mSlice P e t x lo hi' mx = some (ns, av, us)) (hn : all_ ns) :
    Yields P w0 κ C ((do pure (.value (← Instr.sliceAt t (ρ x) (lo.map ρ) (hi'.map ρ) (mx.map ρ))) : Sem Next).run P w) av us := by
  unfold mSlice at h
  have hx := he x
  split at h <;> try (cases h; done)
  rename_i et a b ht ha hb
  have hut := (ti_spec ht).1
  split at h <;> try (cases h; done)
  · rename_i s ex
    rw [ex] at hx
    split at h <;> try (cases h; done)
    rename_i hst
    rw [isStr_spec hst] at hut
    injection h with h; injection h with e1 e2; injection e2 with e2 e3
    subst e1; subst e2; subst e3
    have hbr := bounds_run (w := w) he ha hb false (Nat.le_refl s.size) hn.1
    have hr : (do pure (.value (← Instr.sliceAt t (ρ x) (lo.map ρ) (hi'.map ρ) ((none : Option Operand).map ρ))) : Sem Next).run P w = .ok (.value (.string (s.extract (a.getD 0).toNat (b.getD s.size).toNat))) w := by
      rw [gstr hx]
      simp [Instr.sliceAt, run_underlying hut, Instr.slice, hbr]
    rw [hr]; exact .val hi (gstr' _)
  · rename_i u id off len ex
    rw [ex] at hx
    split at h <;> try (cases h; done)
    rename_i el eu hel hu
    split at h <;> try (cases h; done)
    rename_i hc
    subst hc
    rw [isSl_spec hel] at hut
    injection h with h; injection h with e1 e2; injection e2 with e2 e3
    subst e1; subst e2; subst e3
    obtain ⟨Ad, c, h1, h2, h3⟩ := hx
    obtain ⟨_, ⟨i, j1, j2, j3, j4⟩, _⟩ := ti_spec hu
    have hbr := bounds_run (w := w) he ha hb true h2 hn.1
    have hbd := hn.1
    generalize a.getD 0 = p at hbr hbd ⊢
    generalize b.getD len = q at hbr hbd ⊢
    have hr : (do pure (.value (← Instr.sliceAt t (ρ x) (lo.map ρ) (hi'.map ρ) ((none : Option Operand).map ρ))) : Sem Next).run P w = .ok (.value (.slice (if c = p.toNat then Ad else Ad.map (·.add (p.toNat * i.size))) (q.toNat - p.toNat) (c - p.toNat))) w := by
      rw [h1]
      simp [Instr.sliceAt, run_underlying hut, Instr.slice, hbr, sizeOf, Typ.run_info j1]
    rw [hr]
    refine .val hi ⟨_, _, by rw [show (q - p).toNat = q.toNat - p.toNat by omega], by omega, ?_⟩
    by_cases hcp : c = p.toNat
    · exact .inl ⟨by omega, by omega⟩
    rcases h3 with ⟨h3, h4⟩ | ⟨bk, o, N, h4, rfl, h5⟩
    · exfalso; omega
    refine .inr ⟨bk, o, N, h4, ?_, ?_⟩
    · rw [if_neg hcp]
      simp [Typ.addr_add, sz_of hu, j2, Nat.add_mul, Nat.add_assoc]
    · rw [show off + p.toNat + (c - p.toNat) = off + c by omega]; exact h5
  · rename_i u m ds ex
    rw [ex] at hx
    split at h <;> try (cases h; done)
    rename_i el eu hel hu
    split at h <;> try (cases h; done)
    rename_i hc
    subst hc
    rw [isSl_spec hel] at hut
    injection h with h; injection h with e1 e2; injection e2 with e2 e3
    subst e1; subst e2; subst e3
    have hx' : gD P κ.z (.list el m ds) (ρ x) := hx
    unfold gD at hx'
    obtain ⟨Ad, c, h1, h2, h3, h4⟩ := hx'
    obtain ⟨_, ⟨i, j1, j2, j3, j4⟩, _⟩ := ti_spec hu
    have hbr := bounds_run (w := w) he ha hb true h2 hn.1
    have hbd := hn.1
    generalize a.getD 0 = p at hbr hbd ⊢
    generalize b.getD m = q at hbr hbd ⊢
    have hr : (do pure (.value (← Instr.sliceAt t (ρ x) (lo.map ρ) (hi'.map ρ) ((none : Option Operand).map ρ))) : Sem Next).run P w = .ok (.value (.slice (if c = p.toNat then Ad else Ad.map (·.add (p.toNat * i.size))) (q.toNat - p.toNat) (c - p.toNat))) w := by
      rw [h1]
      simp [Instr.sliceAt, run_underlying hut, Instr.slice, hbr, sizeOf, Typ.run_info j1]
    rw [hr]
    refine .val hi ?_
    show gD P κ.z _ _
    unfold gD
    have hle : (p.toNat + (q - p).toNat) * sz P el ≤ m * sz P el := Nat.mul_le_mul_right _ (by omega)
    rw [Nat.add_mul] at hle
    refine ⟨_, _, by rw [show (q - p).toNat = q.toNat - p.toNat by omega], by omega, by simp; omega, ?_⟩
    by_cases hz : (q - p).toNat = 0
    · exact .inl (by omega)
    rcases h4 with h4 | ⟨bk, o, arr, ty, fr, rfl, h4, h5⟩
    · exfalso; omega
    refine .inr ⟨bk, o + p.toNat * sz P el, arr, ty, fr, ?_, h4, gDs.of fun j d hj => ?_⟩
    · rw [if_neg (by omega)]
      simp [Typ.addr_add, sz_of hu, j2]
    · have hjl : j < (q - p).toNat * sz P el := by have := (List.getElem?_eq_some_iff.mp hj).1; simp at this; omega
      rw [List.getElem?_take_of_lt hjl, List.getElem?_drop] at hj
      obtain ⟨y, k1, k2⟩ := h5.at _ d hj
      rw [List.getElem?_drop] at k1
      exact ⟨y, by rw [List.getElem?_drop, Nat.add_assoc]; exact k1, k2⟩
theorem one_arg {vs : Array Value} {a : AV} {args : List AV} (hargs : args = [a]) (hl : vs.size = args.length) (hg : ∀ (i : Nat) (a : AV), args[i]? = some a → ∃ v, vs[i]? = some v ∧ gAV P κ a v) : ∃ v, vs = #[v] ∧ gAV P κ a v := by
  subst hargs
  obtain ⟨v, hv, hgv⟩ := hg 0 _ rfl
  refine ⟨v, ?_, hgv⟩
  apply Array.ext (by simpa using hl)
  intro i h1 h2
  obtain rfl : i = 0 := by simp at h2; omega
  rw [Array.getElem?_eq_getElem h1] at hv
  injection hv
theorem two_args {vs : Array Value} {a b : AV} {args : List AV} (hargs : args = [a, b]) (hl : vs.size = args.length) (hg : ∀ (i : Nat) (a : AV), args[i]? = some a → ∃ v, vs[i]? = some v ∧ gAV P κ a v) : ∃ v u, vs = #[v, u] ∧ gAV P κ a v ∧ gAV P κ b u := by
  subst hargs
  obtain ⟨v, hv, hgv⟩ := hg 0 _ rfl
  obtain ⟨u, hu, hgu⟩ := hg 1 _ rfl
  refine ⟨v, u, ?_, hgv, hgu⟩
  apply Array.ext (by simpa using hl)
  intro i h1 h2
  rcases (show i = 0 ∨ i = 1 by simp at h2; omega) with rfl | rfl
  · rw [Array.getElem?_eq_getElem h1] at hv; injection hv
  · rw [Array.getElem?_eq_getElem h1] at hu; injection hu
theorem s_len (hi : Inv P w0 κ C w) {ts : Array Nat} {args : List AV} {vs : Array Value} {ty : Nat} (hg : ∀ (i : Nat) (a : AV), args[i]? = some a → ∃ v, vs[i]? = some v ∧ gAV P κ a v) (hl : vs.size = args.length) (h : mLen P ts args = some (ns, av, us)) :
    Yields P w0 κ C ((do pure (.value (← Builtin.len_ ts ty vs)) : Sem Next).run P w) av us := by
  unfold mLen at h
  split at h <;> try (cases h; done)
  rename_i t a hts
  have hts' : ts = #[t] := by rw [← Array.toArray_toList (xs := ts), hts]
  subst hts'
  obtain ⟨v, rfl, hgv⟩ := one_arg rfl hl hg
  split at h <;> try (cases h; done)
  rename_i et ht
  have hut := (ti_spec ht).1
  split at h <;> try (cases h; done)
  all_goals
    split at h <;> try (cases h; done)
    rename_i hst
    injection h with h; injection h with e1 e2; injection e2 with e2 e3
    subst e1; subst e2; subst e3
  · rename_i s
    rw [isStr_spec hst] at hut
    have hv : v = .string s := by have h1 : gD P κ.z (.str s) v := hgv; unfold gD at h1; exact h1
    subst hv
    have hr : (do pure (.value (← Builtin.len_ #[t] ty #[.string s])) : Sem Next).run P w = .ok (.value (.int .i64 s.size)) w := by
      simp [Builtin.len_, run_underlying hut, goInt]
    rw [hr]; exact .val hi (gint' _ _)
  · rename_i u n ds
    obtain ⟨el, hel⟩ := isSl_some hst
    rw [hel] at hut
    have h1 : gD P κ.z (.list u n ds) v := hgv
    unfold gD at h1
    obtain ⟨Ad, c, rfl, _⟩ := h1
    have hr : (do pure (.value (← Builtin.len_ #[t] ty #[.slice Ad n c])) : Sem Next).run P w = .ok (.value (.int .i64 n)) w := by
      simp [Builtin.len_, run_underlying hut, goInt]
    rw [hr]; exact .val hi (gint' _ _)
  · rename_i u id off n
    obtain ⟨el, hel⟩ := isSl_some hst
    rw [hel] at hut
    obtain ⟨Ad, c, rfl, _⟩ := hgv
    have hr : (do pure (.value (← Builtin.len_ #[t] ty #[.slice Ad n c])) : Sem Next).run P w = .ok (.value (.int .i64 n)) w := by
      simp [Builtin.len_, run_underlying hut, goInt]
    rw [hr]; exact .val hi (gint' _ _)
  · obtain ⟨el, hel⟩ := isSl_some hst
    rw [hel] at hut
    rw [show v = _ from hgv]
    have hr : (do pure (.value (← Builtin.len_ #[t] ty #[.slice none 0 0])) : Sem Next).run P w = .ok (.value (.int .i64 0)) w := by
      simp [Builtin.len_, run_underlying hut, goInt]
    rw [hr]; exact .val hi (gint' _ _)
/-- The cells of zeros. -/
theorem zeros_at {z : Value} {zs : List D} (h : toDs (z.cells.toList.map absZ) = some zs) : zs.length = z.cells.size ∧ ∀ (j : Nat) (d : D), zs[j]? = some d → ∃ x, z.cells[j]? = some x ∧ gD P κ.z d x := by
  obtain ⟨h1, h2⟩ := toDs_at h
  refine ⟨by simp at h1; omega, fun j d hj => ?_⟩
  obtain ⟨a, k1, k2⟩ := h2 j d hj
  obtain ⟨x, k3, k4⟩ := (gL_absZ (P := P) (κ := κ) z.cells.toList).at k1
  exact ⟨x, by rw [← Array.getElem?_toList]; exact k3, A.toD_sound k2 k4⟩
theorem made_at (z : Array Value) (m j : Nat) (hz : 0 < z.size) (hj : j < m * z.size) : (madeCells z (m * z.size))[j]? = z[j % z.size]? := by
  have h1 : j % z.size < z.size := Nat.mod_lt _ hz
  simp [madeCells, hj, h1]
theorem s_make (hi : Inv P w0 κ C w) (he : ∀ x, gAV P κ (e x) (ρ x)) {t nb : Nat} {x y : Operand} (h : mMake P e t x y nb = some (ns, av, us)) (hn : all_ ns) (hC : C nb = none) (hA : κ.at_ nb = none) :
    Yields P w0 κ C ((do pure (.value (← Instr.makeSlice t (ρ x) (ρ y))) : Sem Next).run P w) av us := by
  unfold mMake at h
  have hx := he x
  have hy := he y
  split at h <;> try (cases h; done)
  rename_i et k1 n k2 m ht ex ey
  rw [ex] at hx
  rw [ey] at hy
  split at h <;> try (cases h; done)
  rename_i el hel
  split at h <;> try (cases h; done)
  rename_i ee hee
  split at h <;> try (cases h; done)
  rename_i zs hzs
  injection h with h; injection h with e1 e2; injection e2 with e2 e3
  subst e1; subst e2; subst e3
  obtain ⟨⟨rfl, c1, c2, c3⟩, _⟩ := hn
  rw [gint hx, gint hy]
  have hut := (ti_spec ht).1
  rw [isSl_spec hel] at hut
  obtain ⟨hue, ⟨i, j1, j2, j3, j4⟩, hs1, hs2, hs3⟩ := ti_spec hee
  obtain ⟨hz1, hz2⟩ := zeros_at (P := P) (κ := κ) hzs
  have hm0 : m.toNat * i.size ≤ 16777216 := by
    rw [j2]
    have : ((m.toNat * ee.size : Nat) : Int) = m * ee.size := by rw [Int.natCast_mul]; congr 1; omega
    omega
  have hr := run_makeSlice (P := P) w t el i ee.zero hut j1 j4 k1 k2 m m c1 (Int.le_refl _) hm0 (by rw [j3]; exact c3) (by
    have h0 : m * 1 ≤ m * ee.size := Int.mul_le_mul_of_nonneg_left (by omega) c1
    omega)
  have hsz : (madeCells ee.zero.cells (m.toNat * i.size)).size = m.toNat * ee.size := by simp [madeCells, j2]
  obtain ⟨hle, hinv⟩ := hi.alloc hC hA (.sym el (rep m.toNat zs)) (madeCells ee.zero.cells (m.toNat * i.size)) (by rw [hsz]; simp [Row.as, rep_len, hz1, hs2]) (fun j a ha => by
    simp only [Row.as, List.getElem?_map] at ha
    obtain ⟨d, hd, rfl⟩ := Option.map_eq_some_iff.mp ha
    obtain ⟨q1, q2⟩ := rep_at zs _ j d hd
    obtain ⟨v, q3, q4⟩ := hz2 _ d q2
    refine ⟨v, ?_, q4⟩
    rw [j2, ← hs2, made_at _ _ _ (by omega) (by rw [← hz1]; exact q1), ← hz1]
    exact q3)
  refine ⟨_, _, _, by rw [Sem.run_bind, hr]; rfl, hle, hinv, fun k hk => put_other (fun e => hk _ (List.mem_singleton.mpr rfl) e.symm), .inl ⟨_, rfl, some ⟨w.heap.size, 0, none⟩, m.toNat, rfl, Nat.le_refl _, .inr ⟨w.heap.size, 0, _, by unfold Kr.put; simp only [if_true]; rfl, by simp, ?_⟩⟩⟩
  rw [hsz, sz_of hee]
  simp
theorem s_buildSlice (hi : Inv P w0 κ C w) (he : ∀ x, gAV P κ (e x) (ρ x)) {t n nb : Nat} {parts : Array (Nat × Operand)} (h : mBuildSlice P e t n parts nb = some (ns, av, us)) (hC : C nb = none) (hA : κ.at_ nb = none) :
    Yields P w0 κ C ((do pure (.value (← Instr.buildSlice t n (parts.map fun (i, x) => (i, ρ x)))) : Sem Next).run P w) av us := by
  unfold mBuildSlice at h
  split at h <;> try (cases h; done)
  rename_i et ht
  split at h <;> try (cases h; done)
  rename_i el hel
  split at h <;> try (cases h; done)
  rename_i ee hee
  split at h <;> try (cases h; done)
  rename_i hbig
  split at h <;> try (cases h; done)
  rename_i l hl
  injection h with h; injection h with e1 e2; injection e2 with e2 e3
  subst e1; subst e2; subst e3
  have hut := (ti_spec ht).1
  rw [isSl_spec hel] at hut
  obtain ⟨hue, ⟨i, j1, j2, j3, j4⟩, hs1, hs2, hs3⟩ := ti_spec hee
  have h0 : gL P κ (rep n (ee.zero.cells.toList.map absZ)) ((Array.range (n * ee.size)).map (ee.zero.cells[· % ee.zero.cells.size]!)).toList := by
    refine gL.of (by simp [rep_len, hs2]) (fun j a ha => ?_)
    obtain ⟨q1, q2⟩ := rep_at _ _ j a ha
    simp only [List.length_map, Array.length_toList] at q1 q2
    obtain ⟨v, q3, q4⟩ := (gL_absZ (P := P) (κ := κ) ee.zero.cells.toList).at q2
    refine ⟨v, ?_, q4⟩
    have hm : j % ee.zero.cells.size < ee.zero.cells.size := Nat.mod_lt _ (by omega)
    rw [hs2] at q1
    simp [q1, hm] at q3 ⊢
    exact q3
  obtain ⟨cs', f1, f2⟩ := fill_sound (κ := κ) (place := fun i => some (i * ee.size, ee.size)) (fun i => rfl) _ (parts.toList.map fun p => (p.1, ρ p.2)) _ l _ (by simp) (parts_map he parts.toList) h0 hl
  have hlen : l.length = n * ee.size := by
    have : ∀ (ps : List (Nat × AV)) (acc l : List A), afill (fun i => some (i * ee.size, ee.size)) acc ps = some l → l.length = acc.length := by
      intro ps
      induction ps with
      | nil => intro acc l h; injection h with h; rw [h]
      | cons p ps ih =>
        intro acc l h
        obtain ⟨i, x⟩ := p
        unfold afill at h
        split at h <;> try (cases h; done)
        split at h <;> try (cases h; done)
        split at h <;> try (cases h; done)
        rename_i hc
        rw [ih _ _ h]
        simp
        omega
    rw [this _ _ _ hl, rep_len]
    simp [hs2]
  have hcs : cs'.size = n * ee.size := by have := f2.len; simp at this; omega
  obtain ⟨hle, hinv⟩ := hi.alloc hC hA (.fix el l) cs' (by simp [Row.as]; omega) (fun j a ha => by
    obtain ⟨x, g1, g2⟩ := f2.at ha
    exact ⟨x, by rw [← Array.getElem?_toList]; exact g1, g2⟩)
  have hm : (parts.map fun (i, x) => (i, ρ x)).toList = parts.toList.map fun p => (p.1, ρ p.2) := by simp
  have hr : (do pure (.value (← Instr.buildSlice t n (parts.map fun (i, x) => (i, ρ x)))) : Sem Next).run P w = .ok (.value (.slice (some ⟨w.heap.size, 0, none⟩) n n)) (w.alloc (.cells cs' el)) := by
    have hbig2 : ¬ (n * ee.size > 2 ^ 24) := by omega
    by_cases hz : n * ee.size = 0
    · have hn : n = 0 := by
        rcases Nat.mul_eq_zero.mp hz with h | h
        · exact h
        · omega
      rw [hz] at f1
      simp only [Instr.buildSlice, Sem.run_bind, run_underlying hut, Result.andThen_ok, sizeOf, Typ.run_info j1, Sem.run_pure, j2, hm, hz, if_true]
      simp only [Array.range_zero', Array.map_empty] at f1 ⊢
      simp [f1, newRow]
    · simp only [Instr.buildSlice, Sem.run_bind, run_underlying hut, Result.andThen_ok, sizeOf, Typ.run_info j1, Sem.run_pure, j2, hm, if_neg hbig2, if_neg hz, zeroValue, j4]
      rw [f1]
      simp [newRow]
  refine ⟨_, _, _, hr, hle, hinv, fun k hk => put_other (fun e => hk _ (List.mem_singleton.mpr rfl) e.symm), .inl ⟨_, rfl, some ⟨w.heap.size, 0, none⟩, n, rfl, Nat.le_refl _, .inr ⟨w.heap.size, 0, _, by unfold Kr.put; simp only [if_true]; rfl, by simp, ?_⟩⟩⟩
  rw [hcs, sz_of hee]
  simp
end
end Go.Proofs.Ytjleempapphlhab.Mini
end
