/- Parts of the proof: Mini5e. -/
import Derived.Laws.StructEq
import Derived.Test.YtjleempapphlhabGeMini5
section
namespace Go.Proofs.Ytjleempapphlhab.Mini
open Go Go.RowKit
set_option linter.unusedVariables false
/-- A part of a struct. -/
def partA (P : Program) (t : Nat) (l : List A) (off : Nat) : Option V1 :=
  match ti P t with
  | some g =>
    if Typ.isStruct g.und = true then if off + g.size ≤ l.length then some (.agg ((l.drop off).take g.size)) else none
    else if Typ.isFlat g.und = true then (match l[off]? with | some a => some (.one a) | none => none) else none
  | none => none
def eqFs (P : Program) (f : Nat → V1 → V1 → Option Bool) (l m : List A) : List Field → Option Bool
  | [] => some true
  | fd :: fs => if fd.name ≠ "_" then
      match partA P fd.type l fd.offset, partA P fd.type m fd.offset with
      | some x, some y => match f fd.type x y, eqFs P f l m fs with
        | some a, some b => some (a && b)
        | _, _ => none
      | _, _ => none
    else none
def eqT (P : Program) : Nat → Nat → V1 → V1 → Option Bool
  | 0, _, _, _ => none
  | d + 1, t, x, y => match ti P t with
    | some g => match g.und, x, y with
      | .bool, .one (.d (.bool a)), .one (.d (.bool b)) => some (a == b)
      | .int _, .one (.d (.int k n)), .one (.d (.int k' m)) => if k = k' then some (n == m) else none
      | .string, .one (.d (.str a)), .one (.d (.str b)) => some (a.toList == b.toList)
      | .struct fs, .agg l, .agg m => if P.stoodInHeld t = false then eqFs P (eqT P d) l m fs.toList else none
      | _, _, _ => none
    | none => none
def mEq (P : Program) (e : Operand → AV) (op : BinOp) (t : Nat) (x y : Operand) : R :=
  match e x, e y with
  | .v (.agg l), .v (.agg m) =>
    if P.eqGuardType P.depth t = false then
      match eqT P 9 t (.agg l) (.agg m) with
      | some b => (match op with
        | .eql => some ([], bool b, [])
        | .neq => some ([], bool (!b), [])
        | _ => none)
      | none => none
    else none
  | _, _ => none
/-- A variable that holds a value from the beginning. -/
def mBox (e : Operand → AV) (t : Nat) (x : Operand) (nb : Nat) : R :=
  match e x with
  | .v y => match y.cells with
    | some l => some ([], one (.ptr nb 0), [(nb, some (.fix t l))])
    | none => none
  | _ => none
def mMM (mx : Bool) (args : List AV) : R :=
  match args with
  | [.v (.one (.d (.int k n))), .v (.one (.d (.int k' m)))] => if k = k' then some ([], int k (if mx = true then max n m else min n m), []) else none
  | _ => none
section
variable {P : Program} {w0 : Bs} {κ : Kr} {C : Cs} {w : World} {ρ : Operand → Value} {e : Operand → AV} {ns : List Prop} {av : AV} {us : Us}
theorem partA_run {t off : Nat} {l : List A} {x : V1} {cs : Array Value} (h : partA P t l off = some x) (hg : gL P κ l cs.toList) : ∃ v, (part t cs off).run P w = .ok v w ∧ gV1 P κ x v := by
  unfold partA at h
  split at h <;> try (cases h; done)
  rename_i g ht
  obtain ⟨hu, ⟨i, j1, j2, j3, j4⟩, _⟩ := ti_spec ht
  split at h
  · rename_i hst
    obtain ⟨fs', hfs'⟩ := Typ.isStruct_not hst
    split at h <;> try (cases h; done)
    injection h with h
    subst h
    refine ⟨.agg (cs.extract off (off + g.size)), ?_, _, rfl, ?_⟩
    · simp [part, isAgg, run_underlying hu, hfs', sizeOf, Typ.run_info j1, j2]
    · have : (cs.extract off (off + g.size)).toList = (cs.toList.drop off).take g.size := by simp [List.extract_eq_take_drop]
      rw [this]
      exact (hg.drop off).take _
  · split at h <;> try (cases h; done)
    rename_i hfl
    split at h <;> try (cases h; done)
    rename_i a ha
    injection h with h
    subst h
    obtain ⟨v, hv, hgv⟩ := hg.at ha
    have hv2 : cs[off]? = some v := by rw [← Array.getElem?_toList]; exact hv
    refine ⟨v, ?_, hgv⟩
    cases hd : g.und <;> rw [hd] at hfl hu <;> simp [Typ.isFlat] at hfl <;> simp [part, isAgg, run_underlying hu, hv2]
theorem eqFs_run {d : Nat} {f : Nat → V1 → V1 → Option Bool} (hf : ∀ t x y b vx vy, f t x y = some b → gV1 P κ x vx → gV1 P κ y vy → (Op.equalIn d t vx vy).run P w = .ok b w) {l m : List A} {xs ys : Array Value} (hl : gL P κ l xs.toList) (hm : gL P κ m ys.toList) :
    ∀ (fs : List Field) (b : Bool), eqFs P f l m fs = some b → (Op.eqFields d xs ys fs).run P w = .ok b w
  | [], b, h => by injection h with h; subst h; rfl
  | fd :: fs, b, h => by
    unfold eqFs at h
    split at h <;> try (cases h; done)
    rename_i hn
    split at h <;> try (cases h; done)
    rename_i x y hx hy
    split at h <;> try (cases h; done)
    rename_i a1 a2 h1 h2
    injection h with h
    subst h
    obtain ⟨vx, r1, g1⟩ := partA_run (w := w) hx hl
    obtain ⟨vy, r2, g2⟩ := partA_run (w := w) hy hm
    have r3 := hf _ _ _ _ _ _ h1 g1 g2
    have ih := eqFs_run hf hl hm fs _ h2
    unfold Op.eqFields
    rw [if_pos hn]
    simp only [Sem.run_bind, r1, r2, r3, Result.andThen_ok, Sem.run_ite]
    cases a1 with
    | true => simpa using ih
    | false => simp
theorem eqT_run : ∀ (d q t : Nat) (x y : V1) (b : Bool) (vx vy : Value), eqT P d t x y = some b → gV1 P κ x vx → gV1 P κ y vy → (Op.equalIn (q + d) t vx vy).run P w = .ok b w
  | 0, _, _, _, _, _, _, _, h, _, _ => by cases h
  | d + 1, q, t, x, y, b, vx, vy, h, hx, hy => by
    unfold eqT at h
    split at h <;> try (cases h; done)
    rename_i g ht
    have hu := (ti_spec ht).1
    rw [show q + (d + 1) = (q + d) + 1 from rfl]
    split at h <;> try (cases h; done)
    · rename_i a c hg
      rw [hg] at hu
      injection h with h; subst h
      rw [gbool (show gAV P κ (bool a) vx from hx), gbool (show gAV P κ (bool c) vy from hy)]
      exact run_equalIn_bool' w _ t _ _ hu
    · rename_i k0 k n k' m hg
      rw [hg] at hu
      split at h <;> try (cases h; done)
      rename_i hk
      subst hk
      injection h with h; subst h
      rw [gint (show gAV P κ (int k n) vx from hx), gint (show gAV P κ (int k m) vy from hy)]
      exact run_equalIn_int w _ t k k0 _ _ hu
    · rename_i a c hg
      rw [hg] at hu
      injection h with h; subst h
      rw [gstr (show gAV P κ (str a) vx from hx), gstr (show gAV P κ (str c) vy from hy)]
      exact run_equalIn_string w _ t _ _ hu
    · rename_i fs l m hg
      rw [hg] at hu
      split at h <;> try (cases h; done)
      rename_i hst
      obtain ⟨xs, rfl, gx⟩ := hx
      obtain ⟨ys, rfl, gy⟩ := hy
      have hfs : P.fieldsOf t = fs := by unfold Program.fieldsOf; rw [hu]
      rw [run_equalIn_struct w (q + d) t xs ys (by rw [hfs]; exact hu) hst, hfs]
      exact eqFs_run (fun t x y b vx vy => eqT_run d q t x y b vx vy) gx gy _ _ h
theorem s_eq (hi : Inv P w0 κ C w) (he : ∀ x, gAV P κ (e x) (ρ x)) {op : BinOp} {t : Nat} {x y : Operand} (h : mEq P e op t x y = some (ns, av, us)) :
    Yields P w0 κ C ((do pure (.value (← (do eqGuard op t x y (ρ x) (ρ y); binOp op t (ρ x) (ρ y) : Sem Value))) : Sem Next).run P w) av us := by
  unfold mEq at h
  have hx := he x
  have hy := he y
  split at h <;> try (cases h; done)
  rename_i l m ex ey
  rw [ex] at hx
  rw [ey] at hy
  split at h <;> try (cases h; done)
  rename_i hgt
  split at h <;> try (cases h; done)
  rename_i b hb
  have hr := eqT_run (w := w) 9 9991 t _ _ b _ _ hb hx hy
  obtain ⟨xs, hxs, _⟩ := hx
  obtain ⟨ys, hys, _⟩ := hy
  rw [hxs, hys] at hr ⊢
  split at h <;> try (cases h; done)
  · injection h with h; injection h with e1 e2; injection e2 with e2 e3
    subst e1; subst e2; subst e3
    have : (do pure (.value (← (do eqGuard .eql t x y (.agg xs) (.agg ys); binOp .eql t (.agg xs) (.agg ys) : Sem Value))) : Sem Next).run P w = .ok (.value (.bool b)) w := by
      simp only [Sem.run_bind, run_eqGuard_agg w .eql t x y xs ys hgt, Result.andThen_ok, run_eql_struct, hr, Sem.run_pure]
    rw [this]; exact .val hi (gbool' _)
  · injection h with h; injection h with e1 e2; injection e2 with e2 e3
    subst e1; subst e2; subst e3
    have : (do pure (.value (← (do eqGuard .neq t x y (.agg xs) (.agg ys); binOp .neq t (.agg xs) (.agg ys) : Sem Value))) : Sem Next).run P w = .ok (.value (.bool !b)) w := by
      simp only [Sem.run_bind, run_eqGuard_agg w .neq t x y xs ys hgt, Result.andThen_ok, run_neq_struct, hr, Sem.run_pure]
    rw [this]; exact .val hi (gbool' _)
theorem s_box (hi : Inv P w0 κ C w) (he : ∀ x, gAV P κ (e x) (ρ x)) {t nb : Nat} {x : Operand} (h : mBox e t x nb = some (ns, av, us)) (hC : C nb = none) (hA : κ.at_ nb = none) :
    Yields P w0 κ C ((do pure (.value (← Instr.box t (ρ x))) : Sem Next).run P w) av us := by
  unfold mBox at h
  have hx := he x
  split at h <;> try (cases h; done)
  rename_i y ey
  rw [ey] at hx
  split at h <;> try (cases h; done)
  rename_i l hl
  injection h with h; injection h with e1 e2; injection e2 with e2 e3
  subst e1; subst e2; subst e3
  have hg := V1.cells_sound hl hx
  obtain ⟨hle, hinv⟩ := hi.alloc hC hA (.fix t l) (ρ x).cells (by have := hg.len; simp at this; simp [Row.as]; omega) (fun j a ha => by
    obtain ⟨v, g1, g2⟩ := hg.at ha
    exact ⟨v, by rw [← Array.getElem?_toList]; exact g1, g2⟩)
  refine ⟨_, _, _, ?_, hle, hinv, fun k hk => put_other (fun e => hk _ (List.mem_singleton.mpr rfl) e.symm), .inl ⟨.pointer (some ⟨w.heap.size, 0, none⟩), rfl, w.heap.size, 0, _, by unfold Kr.put; simp only [if_true]; rfl, by simp⟩⟩
  simp [Instr.box, newVar, newRow, Row.t]
theorem s_min (hi : Inv P w0 κ C w) {ts : Array Nat} {args : List AV} {vs : Array Value} {ty : Nat} (hg : ∀ (i : Nat) (a : AV), args[i]? = some a → ∃ v, vs[i]? = some v ∧ gAV P κ a v) (hl : vs.size = args.length) (h : mMM false args = some (ns, av, us)) :
    Yields P w0 κ C ((do pure (.value (← Builtin.min_ ts ty vs)) : Sem Next).run P w) av us := by
  unfold mMM at h
  split at h <;> try (cases h; done)
  rename_i k n k' m
  obtain ⟨v, u, rfl, hv, hu⟩ := two_args rfl hl hg
  split at h <;> try (cases h; done)
  rename_i hk
  subst hk
  injection h with h; injection h with e1 e2; injection e2 with e2 e3
  subst e1; subst e2; subst e3
  rw [gint hv, gint hu]
  have : (do pure (.value (← Builtin.min_ ts ty #[.int k n, .int k m])) : Sem Next).run P w = .ok (.value (.int k (min n m))) w := by
    have e : (if m < n then m else n) = min n m := by split <;> omega
    simp [Builtin.min_, Builtin.min2, e]
  rw [this]; exact .val hi (gint' _ _)
theorem s_max (hi : Inv P w0 κ C w) {ts : Array Nat} {args : List AV} {vs : Array Value} {ty : Nat} (hg : ∀ (i : Nat) (a : AV), args[i]? = some a → ∃ v, vs[i]? = some v ∧ gAV P κ a v) (hl : vs.size = args.length) (h : mMM true args = some (ns, av, us)) :
    Yields P w0 κ C ((do pure (.value (← Builtin.max_ ts ty vs)) : Sem Next).run P w) av us := by
  unfold mMM at h
  split at h <;> try (cases h; done)
  rename_i k n k' m
  obtain ⟨v, u, rfl, hv, hu⟩ := two_args rfl hl hg
  split at h <;> try (cases h; done)
  rename_i hk
  subst hk
  injection h with h; injection h with e1 e2; injection e2 with e2 e3
  subst e1; subst e2; subst e3
  rw [gint hv, gint hu]
  have : (do pure (.value (← Builtin.max_ ts ty #[.int k n, .int k m])) : Sem Next).run P w = .ok (.value (.int k (max n m))) w := by
    have e : (if m > n then m else n) = max n m := by split <;> omega
    simp [Builtin.max_, Builtin.max2, e]
  rw [this]; exact .val hi (gint' _ _)
end
end Go.Proofs.Ytjleempapphlhab.Mini
end
