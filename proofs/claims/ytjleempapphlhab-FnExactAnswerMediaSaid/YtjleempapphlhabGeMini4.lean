/- Parts of the proof: Mini4. -/
import Derived.Test.YtjleempapphlhabGeMini3
section
namespace Go.Proofs.Ytjleempapphlhab.Mini
open Go Go.RowKit
set_option linter.unusedVariables false
def kill (ks : List Nat) : Us := ks.map fun k => (k, none)
/-- A value that lies in a list for good. -/
def frz (P : Program) (g : Cs) (a : A) : Option (List Prop × D × List Nat) :=
  match a with
  | .d x => some ([], x, [])
  | .nil => some ([], .list 0 0 [], [])
  | .sl t id off len => match g id with
    | some row => match rowD row with
      | some ds => some ([(off + len) * sz P t ≤ ds.length], .list t len ((ds.drop (off * sz P t)).take (len * sz P t)), [id])
      | none => none
    | none => none
  | _ => none
def frzL (P : Program) (g : Cs) : List A → Option (List Prop × List D × List Nat)
  | [] => some ([], [], [])
  | a :: l => match frz P g a, frzL P g l with
    | some (n1, d, k1), some (n2, ds, k2) => if (k1.all fun i => !k2.contains i) = true then some (n1 ++ n2, d :: ds, k1 ++ k2) else none
    | _, _ => none
def setL (ds : List D) (p : Nat) (ls : List D) : List D := ds.take p ++ ls ++ ds.drop (p + ls.length)
def mStore (P : Program) (e : Operand → AV) (g : Cs) (t : Nat) (x y : Operand) : R :=
  match e x, e y, ti P t with
  | .v (.one (.ptr id off)), .v y, some et =>
    match g id, y.cells with
    | some (.fix u cs), some l =>
      if et.size = l.length ∧ off + l.length ≤ cs.length ∧ l.all A.known = true then
        some ([], anyV, [(id, none), (id, some (.fix u (cs.take off ++ l ++ cs.drop (off + l.length))))])
      else none
    | _, _ => none
  | .v (.one (.pe u id i j)), .v y, some et =>
    match g id, y.cells with
    | some row, some l =>
      match rowD row, frzL P g l with
      | some ds, some (n, ls, ks) =>
        if et.size = l.length ∧ l.all A.known = true ∧ ks.contains id = false then
          some (n ++ [i * sz P u + j + ls.length ≤ ds.length], anyV, kill ks ++ [(id, none), (id, some (.sym row.t (setL ds (i * sz P u + j) ls)))])
        else none
      | _, _ => none
    | _, _ => none
  | _, _, _ => none
def isSl : TypeDesc → Option Nat
  | .slice el => some el
  | _ => none
def mIndexAddr (P : Program) (e : Operand → AV) (t : Nat) (x ix : Operand) : R :=
  match ti P t, e x, e ix with
  | some et, .v (.one (.sl u id off len)), .v (.one (.d (.int _ n))) =>
    match isSl et.und, ti P u with
    | some el, some _ => if el = u then some ([0 ≤ n ∧ n < (len : Int)], one (.pe u id (off + n.toNat) 0), []) else none
    | _, _ => none
  | some et, .v (.one (.d (.list u m ds))), .v (.one (.d (.int _ n))) =>
    match isSl et.und, ti P u with
    | some el, some _ => if el = u then some ([0 ≤ n ∧ n < (m : Int)], one (.rp u ds n.toNat 0), []) else none
    | _, _ => none
  | _, _, _ => none
section
variable {P : Program} {w0 : Bs} {κ : Kr} {C : Cs} {w : World} {ρ : Operand → Value} {e : Operand → AV} {ns : List Prop} {av : AV} {us : Us}
theorem upd_append (C : Cs) (a b : Us) : upd C (a ++ b) = upd (upd C a) b := by unfold upd; rw [List.foldl_append]
theorem upd_kill (C : Cs) : ∀ (ks : List Nat) (k : Nat), upd C (kill ks) k = if ks.contains k = true then none else C k := by
  intro ks
  induction ks generalizing C with
  | nil => intro k; rfl
  | cons i ks ih =>
    intro k
    show upd (fun id => if id = i then none else C id) (kill ks) k = _
    rw [ih]
    by_cases h1 : ks.contains k = true
    · rw [if_pos h1, if_pos (by simp at h1 ⊢; exact .inr h1)]
    · rw [if_neg h1]
      by_cases h2 : k = i
      · subst h2; simp
      · rw [if_neg h2, if_neg (by simp at h1 ⊢; exact ⟨h2, h1⟩)]
theorem isSl_spec {d : TypeDesc} {el : Nat} (h : isSl d = some el) : d = .slice el := by
  cases d <;> simp [isSl] at h
  subst h; rfl
/-- What a list is that lies in one of the call's rows. -/
theorem frz_sound {g : Cs} {a : A} {n : List Prop} {d : D} {ks : List Nat} (h : frz P g a = some (n, d, ks)) (hn : all_ n) (hi : Inv P w0 κ C w) (hg : ∀ id, id ∈ ks → ∀ row, g id = some row → C id = some row) {v : Value} (hv : gA P κ a v) :
    ∃ κ', κ.le κ' ∧ κ'.at_ = κ.at_ ∧ Inv P w0 κ' (upd C (kill ks)) w ∧ gD P κ'.z d v := by
  unfold frz at h
  split at h <;> try (cases h; done)
  · injection h with h; injection h with h1 h2; injection h2 with h2 h3
    subst h2; subst h3
    exact ⟨κ, Kr.le.refl κ, rfl, hi, hv⟩
  · injection h with h; injection h with h1 h2; injection h2 with h2 h3
    subst h2; subst h3
    exact ⟨κ, Kr.le.refl κ, rfl, hi, A.toD_sound (a := .nil) rfl hv⟩
  · rename_i t id off len
    split at h <;> try (cases h; done)
    rename_i row hrow
    split at h <;> try (cases h; done)
    rename_i ds hds
    injection h with h; injection h with h1 h2; injection h2 with h2 h3
    subst h1; subst h2; subst h3
    have hCr := hg id (by simp) row hrow
    obtain ⟨Ad, c, rfl, hc, hv⟩ := hv
    have hle : (off + len) * sz P t ≤ ds.length := hn.1
    rw [Nat.add_mul] at hle
    have hl : ((ds.drop (off * sz P t)).take (len * sz P t)).length = len * sz P t := by simp; omega
    have hkill : upd C (kill [id]) = upd C [(id, none)] := rfl
    rcases (hi.live id row hCr).ds hds with ⟨g1, g2⟩ | ⟨b, o, N, arr, g1, g2, g3, g4, g5, g6⟩
    · have hz : len = 0 := by
        rcases hv with ⟨hv, _⟩ | ⟨b, o, N, hv, _⟩
        · exact hv
        · rw [g1] at hv; cases hv
      refine ⟨κ, Kr.le.refl κ, rfl, hi.less (fun k r hk => ?_), ?_⟩
      · rw [upd_kill] at hk
        split at hk
        · cases hk
        · exact hk
      · unfold gD
        exact ⟨Ad, c, rfl, hc, hl, .inl hz⟩
    · obtain ⟨κ', arr', q1, q2, q3, q4, q5, q6, q7⟩ := hi.freeze hCr g1
      refine ⟨κ', q1, q2, q7, ?_⟩
      unfold gD
      refine ⟨Ad, c, rfl, hc, hl, ?_⟩
      rcases hv with ⟨hv, _⟩ | ⟨b', o', N', hv, rfl, hv2⟩
      · exact .inl hv
      rw [g1] at hv
      injection hv with hv; injection hv with e1 e2; injection e2 with e2 e3
      subst e1; subst e2; subst e3
      refine .inr ⟨b, o + off * sz P t, arr', row.t, (0, 0), rfl, q4, gDs.of fun j d hj => ?_⟩
      have hjl : j < len * sz P t := by have := (List.getElem?_eq_some_iff.mp hj).1; simp at this; omega
      rw [List.getElem?_take_of_lt hjl, List.getElem?_drop] at hj
      rw [g3] at q3
      injection q3 with q3; injection q3 with q3
      subst q3
      obtain ⟨x, k1, k2⟩ := g6 _ d hj
      refine ⟨x, ?_, gD.mono q1.z k2⟩
      rw [List.getElem?_drop, show o + off * sz P t + j = o + (off * sz P t + j) by omega]
      simpa using k1
theorem frzL_sound {g : Cs} : ∀ {l : List A} {n : List Prop} {ds : List D} {ks : List Nat} {κ : Kr} {C : Cs}, frzL P g l = some (n, ds, ks) → all_ n → Inv P w0 κ C w → (∀ id, id ∈ ks → ∀ row, g id = some row → C id = some row) → ∀ {vs : List Value}, gL P κ l vs →
    ∃ κ', κ.le κ' ∧ κ'.at_ = κ.at_ ∧ Inv P w0 κ' (upd C (kill ks)) w ∧ ds.length = vs.length ∧ ∀ (j : Nat) (d : D), ds[j]? = some d → ∃ x, vs[j]? = some x ∧ gD P κ'.z d x
  | [], n, ds, ks, κ, C, h, hn, hi, hg, vs, hv => by
    injection h with h; injection h with h1 h2; injection h2 with h2 h3
    subst h2; subst h3
    have hl := hv.len
    exact ⟨κ, Kr.le.refl κ, rfl, hi, hl, fun j d hj => by simp at hj⟩
  | a :: l, n, ds, ks, κ, C, h, hn, hi, hg, v :: vs, ⟨hv1, hv2⟩ => by
    unfold frzL at h
    split at h <;> try (cases h; done)
    rename_i n1 d k1 n2 ds2 k2 h1 h2
    split at h <;> try (cases h; done)
    rename_i hk
    injection h with h; injection h with e1 e2; injection e2 with e2 e3
    subst e1; subst e2; subst e3
    obtain ⟨hn1, hn2⟩ := all_append hn
    obtain ⟨κ1, a1, a2, a3, a4⟩ := frz_sound h1 hn1 hi (fun id hid => hg id (List.mem_append_left _ hid)) hv1
    obtain ⟨κ2, b1, b2, b3, b4, b5⟩ := frzL_sound h2 hn2 a3 (fun id hid row hr => by
      rw [upd_kill, if_neg (fun hc => ?_)]
      · exact hg id (List.mem_append_right _ hid) row hr
      · have := List.all_eq_true.mp hk id (by simpa using hc)
        simp at this
        exact this hid) (hv2.mono a1)
    refine ⟨κ2, a1.trans b1, b2.trans a2, ?_, by simp [b4], fun j d' hj => ?_⟩
    · have : kill (k1 ++ k2) = kill k1 ++ kill k2 := by simp [kill]
      rw [this, upd_append]
      exact b3
    · cases j with
      | zero => simp at hj; subst hj; exact ⟨v, rfl, gD.mono b1.z a4⟩
      | succ j => simpa using b5 j d' (by simpa using hj)
theorem setRow_other (w : World) (b : Nat) (a : Array Value) (k : Nat) (h : k ≠ b) : (w.setRow b a).heap[k]? = w.heap[k]? := by
  unfold World.setRow
  simp only
  rw [Array.getElem?_modify, if_neg (fun e => h e.symm)]
theorem setRow_size (w : World) (b : Nat) (a : Array Value) : (w.setRow b a).heap.size = w.heap.size := by simp [World.setRow]
/-- Cells that are set: what a place holds behind it. -/
theorem spliced {arr : Array Value} {p : Nat} {vs : List Value} (hp : p + vs.length ≤ arr.size) (i : Nat) :
    ((arr.toList.take p ++ vs ++ arr.toList.drop (p + vs.length)).toArray)[i]? = if i < p then arr[i]? else if i < p + vs.length then vs[i - p]? else arr[i]? := by
  rw [List.getElem?_toArray]
  by_cases h1 : i < p
  · rw [if_pos h1, List.getElem?_append_left (by simp; omega), List.getElem?_append_left (by simp; omega), List.getElem?_take_of_lt h1]
    simp
  · rw [if_neg h1]
    have hl : (arr.toList.take p).length = p := by simp; omega
    by_cases h2 : i < p + vs.length
    · rw [if_pos h2, List.getElem?_append_left (by simp; omega), List.getElem?_append_right (by omega), hl]
    · rw [if_neg h2, List.getElem?_append_right (by simp; omega), List.getElem?_drop, List.length_append, hl, show p + vs.length + (i - (p + vs.length)) = i by omega]
      simp
theorem setL_at {ds : List D} {p : Nat} {ls : List D} (hp : p + ls.length ≤ ds.length) (i : Nat) :
    (setL ds p ls)[i]? = if i < p then ds[i]? else if i < p + ls.length then ls[i - p]? else ds[i]? := by
  unfold setL
  have hl : (ds.take p).length = p := by simp; omega
  by_cases h1 : i < p
  · rw [if_pos h1, List.getElem?_append_left (by simp; omega), List.getElem?_append_left (by omega), List.getElem?_take_of_lt h1]
  · rw [if_neg h1]
    by_cases h2 : i < p + ls.length
    · rw [if_pos h2, List.getElem?_append_left (by simp; omega), List.getElem?_append_right (by omega), hl]
    · rw [if_neg h2, List.getElem?_append_right (by simp; omega), List.getElem?_drop, List.length_append, hl, show p + ls.length + (i - (p + ls.length)) = i by omega]
theorem setL_len {ds : List D} {p : Nat} {ls : List D} (hp : p + ls.length ≤ ds.length) : (setL ds p ls).length = ds.length := by unfold setL; simp; omega
theorem storeAt_run {t b p : Nat} {et : Ti} (ht : ti P t = some et) {v : Value} (hv : v.cells.size = et.size) {arr : Array Value} {ty : TypeId} (h : w.heap[b]? = some (.cells arr ty (0, 0))) (hp : p + v.cells.size ≤ arr.size) (h1 : ∀ u ∈ v.cells.toList, u.oneCell' = true) :
    (do Instr.storeAt t (.pointer (some ⟨b, p, none⟩)) v; pure .skip : Sem Next).run P w = .ok .skip (w.setRow b (arr.toList.take p ++ v.cells.toList ++ arr.toList.drop (p + v.cells.toList.length)).toArray) := by
  obtain ⟨_, ⟨i, j1, j2, j3, j4⟩, _⟩ := ti_spec ht
  have hst := run_storeCells_at P b p ty v.cells.toList 0 arr w h (by simpa using hp) h1
  simp only [Nat.add_zero] at hst
  have hsz : v.cells.size = i.size := by omega
  simp [Instr.storeAt, Instr.sureAddr, storeVar, sizeOf, Typ.run_info j1, hsz] at hst ⊢
  rw [hst]
  rfl
theorem s_store (hi : Inv P w0 κ C w) (he : ∀ x, gAV P κ (e x) (ρ x)) {g : Cs} (hg : ∀ id row, g id = some row → C id = some row) {t : Nat} {x y : Operand} (h : mStore P e g t x y = some (ns, av, us)) (hn : all_ ns) :
    Yields P w0 κ C ((do Instr.storeAt t (ρ x) (ρ y); pure .skip : Sem Next).run P w) av us := by
  unfold mStore at h
  have hx := he x
  have hy := he y
  split at h <;> try (cases h; done)
  · rename_i id off yv et ex ey ht
    rw [ex] at hx
    rw [ey] at hy
    obtain ⟨b, o, N, h1, h2⟩ := hx
    split at h <;> try (cases h; done)
    rename_i u cs l hrow hl
    split at h <;> try (cases h; done)
    rename_i hc
    obtain ⟨c1, c2, c3⟩ := hc
    injection h with h; injection h with e1 e2; injection e2 with e2 e3
    subst e1; subst e2; subst e3
    have hcl := V1.cells_sound hl hy
    have hlen := hcl.len
    have hCr := hg _ _ hrow
    rcases hi.live id _ hCr with ⟨g1, _⟩ | ⟨b2, o2, N2, arr, g1, g2, g3, g4, g5, g6⟩
    · rw [g1] at h1; cases h1
    rw [g1] at h1
    injection h1 with h1; injection h1 with e1 e2; injection e2 with e2 e3
    subst e1; subst e2; subst e3
    change o2 + cs.length ≤ N2 at g5
    have hcs : (ρ y).cells.size = l.length := by rw [hlen]; simp
    have hp : o2 + off + (ρ y).cells.toList.length ≤ arr.size := by simp; omega
    rw [h2]
    have hr := storeAt_run (b := b2) (p := o2 + off) ht (v := ρ y) (by omega) g3 (by omega) (gL.ones c3 hcl)
    have hrel : ∀ (j : Nat) (a : A), (Row.fix u (cs.take off ++ l ++ cs.drop (off + l.length))).as[j]? = some a → ∃ x, ((arr.toList.take (o2 + off) ++ (ρ y).cells.toList ++ arr.toList.drop (o2 + off + (ρ y).cells.toList.length)).toArray)[o2 + j]? = some x ∧ gA P κ a x := by
      intro j a hj
      rw [spliced hp]
      change (cs.take off ++ l ++ cs.drop (off + l.length))[j]? = some a at hj
      have hl1 : (cs.take off).length = off := by simp; omega
      by_cases j1 : j < off
      · rw [List.getElem?_append_left (by simp; omega), List.getElem?_append_left (by omega), List.getElem?_take_of_lt j1] at hj
        obtain ⟨x, k1, k2⟩ := g6 j a hj
        exact ⟨x, by rw [if_pos (by omega)]; exact k1, k2⟩
      · by_cases j2 : j < off + l.length
        · rw [List.getElem?_append_left (by simp; omega), List.getElem?_append_right (by omega), hl1] at hj
          obtain ⟨x, k1, k2⟩ := hcl.at hj
          exact ⟨x, by rw [if_neg (by omega), if_pos (by rw [← hlen]; omega), show o2 + j - (o2 + off) = j - off by omega]; exact k1, k2⟩
        · rw [List.getElem?_append_right (by simp; omega), List.getElem?_drop, List.length_append, hl1, show off + l.length + (j - (off + l.length)) = j by omega] at hj
          obtain ⟨x, k1, k2⟩ := g6 j a hj
          exact ⟨x, by rw [if_neg (by omega), if_neg (by rw [← hlen]; omega)]; exact k1, k2⟩
    obtain ⟨κ', q1, q2, q3, q4, q5⟩ := hi.reuse hCr g1 _ (by simp; omega) id o2 (.fix u (cs.take off ++ l ++ cs.drop (off + l.length))) (.inl ⟨rfl, rfl⟩) rfl (by simp [Row.as]; omega) hrel (w.setRow b2 (arr.toList.take (o2 + off) ++ (ρ y).cells.toList ++ arr.toList.drop (o2 + off + (ρ y).cells.toList.length)).toArray) ⟨rfl, rfl, rfl, setRow_size _ _ _⟩ (setRow_heap w b2 arr _ _ (0, 0) g3) (fun k hk => setRow_other _ _ _ _ hk)
    refine ⟨_, κ', _, hr, q1, q5, fun k hk => q3 k (fun e => hk (id, none) (by simp) e.symm), .inr ⟨rfl, rfl⟩⟩
  · rename_i u id i j0 yv et ex ey ht
    rw [ex] at hx
    rw [ey] at hy
    obtain ⟨b, o, N, h1, h2⟩ := hx
    split at h <;> try (cases h; done)
    rename_i row l hrow hl
    split at h <;> try (cases h; done)
    rename_i ds n ls ks hds hfz
    split at h <;> try (cases h; done)
    rename_i hc
    obtain ⟨c1, c2, c3⟩ := hc
    injection h with h; injection h with e1 e2; injection e2 with e2 e3
    subst e1; subst e2; subst e3
    obtain ⟨hn1, hn2⟩ := all_append hn
    have hcl := V1.cells_sound hl hy
    have hlen := hcl.len
    obtain ⟨κ1, a1, a2, a3, a4, a5⟩ := frzL_sound hfz hn1 hi (fun k _ row hr => hg k row hr) hcl
    have hCr : upd C (kill ks) id = some row := by rw [upd_kill, if_neg (by rw [c3]; simp)]; exact hg _ _ hrow
    have h1' : κ1.at_ id = some (b, o, N) := by rw [a2]; exact h1
    rcases (a3.live id _ hCr).ds hds with ⟨g1, _⟩ | ⟨b2, o2, N2, arr, g1, g2, g3, g4, g5, g6⟩
    · rw [g1] at h1'; cases h1'
    rw [g1] at h1'
    injection h1' with h1'; injection h1' with e1 e2; injection e2 with e2 e3
    subst e1; subst e2; subst e3
    have hfit : i * sz P u + j0 + ls.length ≤ ds.length := hn2.1
    generalize hpp : i * sz P u + j0 = pp at hfit h2 ⊢
    have hcs : (ρ y).cells.size = l.length := by rw [hlen]; simp
    have hls : ls.length = (ρ y).cells.size := by rw [a4]; simp
    have hp : o2 + pp + (ρ y).cells.toList.length ≤ arr.size := by simp; omega
    rw [h2]
    have hr := storeAt_run (b := b2) (p := o2 + pp) ht (v := ρ y) (by omega) g3 (by omega) (gL.ones c2 hcl)
    have hrel : ∀ (j : Nat) (a : A), (Row.sym row.t (setL ds pp ls)).as[j]? = some a → ∃ x, ((arr.toList.take (o2 + pp) ++ (ρ y).cells.toList ++ arr.toList.drop (o2 + pp + (ρ y).cells.toList.length)).toArray)[o2 + j]? = some x ∧ gA P κ1 a x := by
      intro j a hj
      simp only [Row.as, List.getElem?_map] at hj
      obtain ⟨d, hd, rfl⟩ := Option.map_eq_some_iff.mp hj
      rw [spliced hp]
      rw [setL_at hfit] at hd
      by_cases j1 : j < pp
      · rw [if_pos j1] at hd
        obtain ⟨x, k1, k2⟩ := g6 j d hd
        exact ⟨x, by rw [if_pos (by omega)]; exact k1, k2⟩
      · rw [if_neg j1] at hd
        by_cases j2 : j < pp + ls.length
        · rw [if_pos j2] at hd
          obtain ⟨x, k1, k2⟩ := a5 _ d hd
          exact ⟨x, by rw [if_neg (by omega), if_pos (by rw [← a4]; omega), show o2 + j - (o2 + pp) = j - pp by omega]; exact k1, k2⟩
        · rw [if_neg j2] at hd
          obtain ⟨x, k1, k2⟩ := g6 j d hd
          exact ⟨x, by rw [if_neg (by omega), if_neg (by rw [← a4]; omega)]; exact k1, k2⟩
    obtain ⟨κ', q1, q2, q3, q4, q5⟩ := a3.reuse hCr g1 _ (by simp; omega) id o2 (.sym row.t (setL ds pp ls)) (.inl ⟨rfl, rfl⟩) rfl (by simp [Row.as, setL_len hfit]; omega) hrel (w.setRow b2 (arr.toList.take (o2 + pp) ++ (ρ y).cells.toList ++ arr.toList.drop (o2 + pp + (ρ y).cells.toList.length)).toArray) ⟨rfl, rfl, rfl, setRow_size _ _ _⟩ (setRow_heap w b2 arr _ _ (0, 0) g3) (fun k hk => setRow_other _ _ _ _ hk)
    refine ⟨_, κ', _, hr, a1.trans q1, by rw [upd_append]; exact q5, fun k hk => ?_, .inr ⟨rfl, rfl⟩⟩
    rw [q3 k (fun e => hk (id, none) (by simp) e.symm), a2]
theorem s_indexAddr (hi : Inv P w0 κ C w) (he : ∀ x, gAV P κ (e x) (ρ x)) {t : Nat} {x ix : Operand} (h : mIndexAddr P e t x ix = some (ns, av, us)) (hn : all_ ns) :
    Yields P w0 κ C ((do pure (.value (← Instr.indexAt t (ρ x) (ρ ix))) : Sem Next).run P w) av us := by
  unfold mIndexAddr at h
  have hx := he x
  have hix := he ix
  split at h <;> try (cases h; done)
  · rename_i et u id off len kk n ht ex eix
    rw [ex] at hx
    rw [eix] at hix
    split at h <;> try (cases h; done)
    rename_i el eu hel hu
    split at h <;> try (cases h; done)
    rename_i hc
    subst hc
    injection h with h; injection h with e1 e2; injection e2 with e2 e3
    subst e1; subst e2; subst e3
    have hb : 0 ≤ n ∧ n < (len : Int) := hn.1
    obtain ⟨Ad, c, h1, h2, h3⟩ := hx
    have hut := (ti_spec ht).1
    rw [isSl_spec hel] at hut
    obtain ⟨_, ⟨i, j1, j2, j3, j4⟩, _⟩ := ti_spec hu
    rw [h1, gint hix]
    rcases h3 with ⟨h3, _⟩ | ⟨b, o, N, h4, rfl, h5⟩
    · omega
    have hr : (do pure (.value (← Instr.indexAt t (.slice (some ⟨b, o + off * sz P el, none⟩) len c) (.int kk n))) : Sem Next).run P w = .ok (.value (.pointer (some ⟨b, o + ((off + n.toNat) * sz P el + 0), none⟩))) w := by
      simp [Instr.indexAt, asIntOf, run_underlying hut, hb, sizeOf, Typ.run_info j1, j2, Typ.addr_add, sz_of hu, Nat.add_mul, Nat.add_assoc]
    rw [hr]
    exact .val hi ⟨b, o, N, h4, rfl⟩
  · rename_i et u m ds kk n ht ex eix
    rw [ex] at hx
    rw [eix] at hix
    split at h <;> try (cases h; done)
    rename_i el eu hel hu
    split at h <;> try (cases h; done)
    rename_i hc
    subst hc
    injection h with h; injection h with e1 e2; injection e2 with e2 e3
    subst e1; subst e2; subst e3
    have hb : 0 ≤ n ∧ n < (m : Int) := hn.1
    have hx' : gD P κ.z (.list el m ds) (ρ x) := hx
    unfold gD at hx'
    obtain ⟨Ad, c, h1, h2, h3, h4⟩ := hx'
    have hut := (ti_spec ht).1
    rw [isSl_spec hel] at hut
    obtain ⟨_, ⟨i, j1, j2, j3, j4⟩, _⟩ := ti_spec hu
    rw [h1, gint hix]
    rcases h4 with h4 | ⟨b, o, arr, ty, fr, rfl, h4, h5⟩
    · omega
    have hr : (do pure (.value (← Instr.indexAt t (.slice (some ⟨b, o, none⟩) m c) (.int kk n))) : Sem Next).run P w = .ok (.value (.pointer (some ⟨b, o + (n.toNat * sz P el + 0), none⟩))) w := by
      simp [Instr.indexAt, asIntOf, run_underlying hut, hb, sizeOf, Typ.run_info j1, j2, Typ.addr_add, sz_of hu]
    rw [hr]
    exact .val hi ⟨b, o, arr, ty, fr, rfl, h4, h5⟩
/-- A row told otherwise. -/
theorem Inv.retell (h : Inv P w0 κ C w) {id : Nat} {row row' : Row} (hr : C id = some row) (hrow : RowIn P κ w id row') : Inv P w0 κ (upd C [(id, some row')]) w := by
  have key : ∀ k r, upd C [(id, some row')] k = some r → ∃ r0, C k = some r0 := fun k r hk => by
    rw [upd_one] at hk
    split at hk
    · rename_i e; exact ⟨row, by rw [e]; exact hr⟩
    · exact ⟨r, hk⟩
  refine ⟨h.os, h.tape, h.output, h.size, h.base, h.z, fun k r hk => ?_, fun k k' r r' b o N o' N' h1 h2 h3 h4 => ?_, fun k r b o N h1 h3 => ?_⟩
  · rw [upd_one] at hk
    split at hk
    · rename_i e; injection hk with hk; subst hk; rw [e]; exact hrow
    · exact h.live k r hk
  · obtain ⟨r1, q1⟩ := key k r h1
    obtain ⟨r2, q2⟩ := key k' r' h2
    exact h.apart k k' r1 r2 b o N o' N' q1 q2 h3 h4
  · obtain ⟨r1, q1⟩ := key k r h1
    exact h.own k r1 b o N q1 h3
/-- Looking into a list of lists of the call's own: these are not to be written any more. -/
def mLoadF (P : Program) (e : Operand → AV) (g : Cs) (t : Nat) (x : Operand) : R :=
  match e x with
  | .v (.one (.pe u id i o)) => match g id with
    | some (.fix t0 l) => match frzL P g l with
      | some (n, ds, ks) => if ks.contains id = false then (match mLoad P e (fun k => if k = id then some (.sym t0 ds) else none) t x with
          | some (n2, av, _) => some (n ++ n2, av, kill ks ++ [(id, some (.sym t0 ds))])
          | none => none)
        else none
      | none => none
    | _ => none
  | _ => none
theorem s_loadF (hi : Inv P w0 κ C w) (he : ∀ x, gAV P κ (e x) (ρ x)) {g : Cs} (hg : ∀ id row, g id = some row → C id = some row) {t : Nat} {x : Operand} (h : mLoadF P e g t x = some (ns, av, us)) (hn : all_ ns) :
    Yields P w0 κ C ((do pure (.value (← Instr.loadAt t (ρ x))) : Sem Next).run P w) av us := by
  unfold mLoadF at h
  have hx := he x
  split at h <;> try (cases h; done)
  rename_i u id i o ex
  rw [ex] at hx
  obtain ⟨b, o1, N, hat, hv⟩ := hx
  split at h <;> try (cases h; done)
  rename_i t0 l hrow
  split at h <;> try (cases h; done)
  rename_i n ds ks hfr
  split at h <;> try (cases h; done)
  rename_i hid
  split at h <;> try (cases h; done)
  rename_i n2 av2 us2 hld
  injection h with h; injection h with e1 e2; injection e2 with e2 e3
  subst e1; subst e2; subst e3
  obtain ⟨hn1, hn2⟩ := all_append hn
  have hC := hg _ _ hrow
  rcases hi.live id _ hC with ⟨g1, _⟩ | ⟨b2, o2, N2, arr, g1, g2, g3, g4, g5, g6⟩
  · rw [g1] at hat; cases hat
  have hvs : gL P κ l ((arr.toList.drop o2).take l.length) := by
    have hlen : ((arr.toList.drop o2).take l.length).length = l.length := by
      simp only [Row.as] at g5
      simp; omega
    refine gL.of hlen.symm (fun j a ha => ?_)
    have hj := (List.getElem?_eq_some_iff.mp ha).1
    obtain ⟨y, y1, y2⟩ := g6 j a ha
    exact ⟨y, by rw [List.getElem?_take_of_lt hj, List.getElem?_drop, Array.getElem?_toList]; exact y1, y2⟩
  obtain ⟨κ', k1, k2, k3, k4, k5⟩ := frzL_sound hfr hn1 hi (fun id _ row hr => hg id row hr) hvs
  have hC' : upd C (kill ks) id = some (.fix t0 l) := by rw [upd_kill, if_neg (by rw [hid]; simp)]; exact hC
  have hdl : ds.length = l.length := by
    rw [k4]
    simp only [Row.as] at g5
    simp; omega
  have hrow' : RowIn P κ' w id (.sym t0 ds) := by
    rcases k3.live id _ hC' with ⟨q1, _⟩ | ⟨b3, o3, N3, arr3, q1, q2, q3, q4, q5, q6⟩
    · rw [k2, g1] at q1; cases q1
    rw [k2, g1] at q1
    injection q1 with q1; injection q1 with x1 x2; injection x2 with x2 x3
    subst x1; subst x2; subst x3
    rw [g3] at q3
    injection q3 with q3; injection q3 with q3 _
    subst q3
    refine .inr ⟨b2, o2, N2, arr, by rw [k2]; exact g1, q2, g3, g4, ?_, fun j a ha => ?_⟩
    · simp only [Row.as] at g5 ⊢
      rw [List.length_map, hdl]; exact g5
    · simp only [Row.as, List.getElem?_map] at ha
      obtain ⟨d, hd, rfl⟩ := Option.map_eq_some_iff.mp ha
      obtain ⟨y, y1, y2⟩ := k5 j d hd
      have hj := (List.getElem?_eq_some_iff.mp hd).1
      rw [List.getElem?_take_of_lt (by omega), List.getElem?_drop, Array.getElem?_toList] at y1
      exact ⟨y, y1, y2⟩
  have hI := k3.retell hC' hrow'
  obtain ⟨m, κ2, w', r1, r2, r3, r4, r5⟩ := s_load hI (fun x => (he x).mono k1) (g := fun k => if k = id then some (.sym t0 ds) else none) (fun k row hk => by
    split at hk <;> try (cases hk; done)
    rename_i ek
    rw [upd_one, if_pos ek]; exact hk) hld hn2
  have hus : us2 = [] := by
    obtain ⟨_, _, _, _, _, h4⟩ := s_load0 hI (fun x => (he x).mono k1) (g := fun k => if k = id then some (.sym t0 ds) else none) (fun k row hk => by
      split at hk <;> try (cases hk; done)
      rename_i ek
      rw [upd_one, if_pos ek]; exact hk) hld hn2
    exact h4
  subst hus
  refine ⟨m, κ2, w', r1, k1.trans r2, ?_, fun k hk => ?_, r5⟩
  · rw [upd_append]
    exact r3
  · rw [r4 k (fun p hp => by cases hp), k2]
end
end Go.Proofs.Ytjleempapphlhab.Mini
end
