/- Parts of the proof: Mini6. -/
import Derived.Lib.ConvBytes
import Derived.Laws.BytesString
import Derived.Test.YtjleempapphlhabGeMini5e
section
namespace Go.Proofs.Ytjleempapphlhab.Mini
open Go Go.RowKit
set_option linter.unusedVariables false
/-- What is appended: how many, their cells, which rows are frozen for it. -/
def srcOf (P : Program) (g : Cs) (el : Nat) : A → Option (List Prop × Nat × List D × List Nat)
  | .nil => some ([], 0, [], [])
  | .d (.list t m ds) => if t = el then some ([], m, ds, []) else none
  | .sl t id off len => if t = el then
      match g id with
      | some (.sym _ ds) => some ([(off + len) * sz P t ≤ ds.length], len, (ds.drop (off * sz P t)).take (len * sz P t), [])
      | some (.fix _ cs) => match frzL P g ((cs.drop (off * sz P t)).take (len * sz P t)) with
        | some (n, ds, ks) => some (((off + len) * sz P t ≤ cs.length) :: n, len, ds, ks)
        | none => none
      | some (.deep _ _) => none
      | none => none
    else none
  | _ => none
def isU8 : TypeDesc → Bool
  | .int .u8 => true
  | _ => false
/-- The bytes of a text as cells, and back. -/
def byD (s : ByteArray) : List D := s.data.toList.map fun b => .int .u8 (b.toNat : Int)
def unBy : List D → List UInt8
  | .int _ n :: l => UInt8.ofNat n.toNat :: unBy l
  | _ => []
def okBy (ds : List D) : Prop := ∀ d ∈ ds, ∃ n : Int, d = .int .u8 n
def tyIs (P : Program) (f : TypeDesc → Bool) (t : Nat) : Bool := match ti P t with | some e => f e.und | none => false
/-- What is appended, a text too. -/
def srcA (P : Program) (g : Cs) (el t t' : Nat) (y : A) : Option (List Prop × Nat × List D × List Nat) :=
  match y with
  | .d (.str s) => if tyIs P isStr t' = true ∧ tyIs P isU8 el = true ∧ sz P el = 1 then some ([], s.size, byD s, []) else none
  | y => if t = t' then srcOf P g el y else none
def mAppend (P : Program) (g : Cs) (ts : Array Nat) (args : List AV) (nb : Nat) : R :=
  match ts.toList, args with
  | [t, t'], [.v (.one x), .v (.one y)] =>
    match ti P t with
    | some et => match isSl et.und with
      | some el => match ti P el, srcA P g el t t' y with
        | some ee, some (n, m, ds, ks) => if ee.bytes ≤ 65536 then
          match x with
          | .nil => some (n ++ [m ≤ 1048576], one (.sl el nb 0 m), kill ks ++ [(nb, some (.sym el ds))])
          | .sl u id off len => match g id with
            | some row => match rowD row with
              | some old => if u = el ∧ row.t = el ∧ ks.contains id = false then
                  some (n ++ [(off + len) * sz P el ≤ old.length, len + m ≤ 1048576], one (.sl el nb 0 (len + m)), kill ks ++ [(id, none), (nb, some (.sym el ((old.drop (off * sz P el)).take (len * sz P el) ++ ds)))])
                else none
              | none => none
            | none => none
          | _ => none
          else none
        | _, _ => none
      | none => none
    | none => none
  | _, _ => none
/-- Appended to a row with lists of the call's own: these are frozen for it; what is appended is frozen already. -/
def mAppendF (P : Program) (g : Cs) (ts : Array Nat) (args : List AV) (nb : Nat) : R :=
  match args with
  | [.v (.one (.sl u id off len)), y] => match g id with
    | some (.fix t0 l) => match frzL P g l with
      | some (n, ds, ks) => if ks.contains id = false then (match mAppend P (fun k => if k = id then some (.sym t0 ds) else none) ts [.v (.one (.sl u id off len)), y] nb with
          | some (n2, av, us) => some (n ++ n2, av, kill ks ++ ([(id, some (.sym t0 ds))] ++ us))
          | none => none)
        else none
      | none => none
    | _ => none
  | _ => none
/-- string(bytes). -/
def ofBy (ds : List D) : ByteArray := ⟨(unBy ds).toArray⟩
def mConvBS (P : Program) (e : Operand → AV) (g : Cs) (src dst : Nat) (x : Operand) : R :=
  match ti P src, e x with
  | some es, .v (.one y) => match isSl es.und with
    | some el => if tyIs P isStr dst = true ∧ tyIs P isU8 el = true ∧ sz P el = 1 then
        match srcOf P g el y with
        | some (n, _, ds, []) => some (n ++ [okBy ds], str (ofBy ds), [])
        | _ => none
      else none
    | none => none
  | _, _ => none
/-- []byte(text): not to be written any more. -/
def mConvSB (P : Program) (e : Operand → AV) (src dst : Nat) (x : Operand) : R :=
  match ti P dst, e x with
  | some ed, .v (.one (.d (.str s))) => match isSl ed.und with
    | some el => if tyIs P isStr src = true ∧ tyIs P isU8 el = true ∧ sz P el = 1 then some ([], one (.d (.list el s.size (byD s))), []) else none
    | none => none
  | _, _ => none
def mConv (P : Program) (e : Operand → AV) (g : Cs) (src dst : Nat) (x : Operand) : R :=
  match mConvI P e src dst x with
  | some r => some r
  | none => match mConvBS P e g src dst x with
    | some r => some r
    | none => mConvSB P e src dst x
/-- copy of a whole list into a list of the call's own that is at least as long. -/
def mCopy (P : Program) (g : Cs) (ts : Array Nat) (args : List AV) : R :=
  match ts.toList, args with
  | [t, t'], [.v (.one x), .v (.one y)] =>
    match ti P t with
    | some et => match isSl et.und with
      | some el => match ti P el, srcOf P g el y with
        | some ee, some (n, m, ds, ks) => if t = t' then
          match x with
          | .sl u id off len => match g id with
            | some row => match rowD row with
              | some old => if u = el ∧ ks.contains id = false then
                  some (n ++ [off * sz P el + ds.length ≤ old.length, m ≤ len], int .i64 m, kill ks ++ [(id, none), (id, some (.sym row.t (setL old (off * sz P el) ds)))])
                else none
              | none => none
            | none => none
          | _ => none
          else none
        | _, _ => none
      | none => none
    | none => none
  | _, _ => none
section
variable {P : Program} {w0 : Bs} {κ : Kr} {C : Cs} {w : World} {ρ : Operand → Value} {e : Operand → AV} {ns : List Prop} {av : AV} {us : Us}
/-- The cells of a list, as they are read. -/
theorem read_run {size n c : Nat} {Ad : Option Addr} {ds : List D} {z : Nat → Option Obj} (hl : ds.length = n * size)
    (h : n = 0 ∨ ∃ b p arr ty fr, Ad = some ⟨b, p, none⟩ ∧ w.heap[b]? = some (.cells arr ty fr) ∧ ∀ (j : Nat) (d : D), ds[j]? = some d → ∃ x, arr[p + j]? = some x ∧ gD P z d x) :
    ∃ vs : List Value, vs.length = n * size ∧ (Builtin.firstCells size n (.slice Ad n c)).run P w = .ok vs.toArray w ∧ (Builtin.firstCells size n (.slice Ad n c)).run P w.drew = .ok vs.toArray w.drew ∧
      ∀ (j : Nat) (d : D), ds[j]? = some d → ∃ x, vs[j]? = some x ∧ gD P z d x := by
  rcases h with rfl | ⟨b, p, arr, ty, fr, rfl, hb, hd⟩
  · have hds : ds = [] := List.eq_nil_of_length_eq_zero (by omega)
    subst hds
    refine ⟨[], by simp, ?_, ?_, fun j d hj => by simp at hj⟩
    · cases Ad with
      | none => exact run_firstCells_none w _ _ _ _
      | some a => exact run_firstCells_some w size 0 a 0 c [] (by simp) (fun j v hv => by simp at hv)
    · cases Ad with
      | none => exact run_firstCells_none w.drew _ _ _ _
      | some a => exact run_firstCells_some w.drew size 0 a 0 c [] (by simp) (fun j v hv => by simp at hv)
  · have hlen : ((arr.toList.drop p).take (n * size)).length = n * size := by
      by_cases h0 : n * size = 0
      · simp [h0]
      · obtain ⟨x, h1, _⟩ := hd (n * size - 1) (ds[n * size - 1]'(by omega)) (List.getElem?_eq_getElem (by omega))
        have := (Array.getElem?_eq_some_iff.mp h1).1
        simp; omega
    have hat : ∀ (j : Nat) (v : Value), ((arr.toList.drop p).take (n * size))[j]? = some v → arr[p + j]? = some v := fun j v hj => by
      have hjl := (List.getElem?_eq_some_iff.mp hj).1
      rw [hlen] at hjl
      rw [List.getElem?_take_of_lt hjl, List.getElem?_drop] at hj
      simpa using hj
    refine ⟨_, hlen, ?_, ?_, fun j d hj => ?_⟩
    · exact run_firstCells_some w size n ⟨b, p, none⟩ n c _ hlen (fun j v hv => by rw [Typ.addr_add]; exact cell_of hb (hat j v hv))
    · exact run_firstCells_some w.drew size n ⟨b, p, none⟩ n c _ hlen (fun j v hv => by rw [Typ.addr_add]; exact cell_of (w := w.drew) hb (hat j v hv))
    · obtain ⟨x, h1, h2⟩ := hd j d hj
      have hjl : j < n * size := by rw [← hl]; exact (List.getElem?_eq_some_iff.mp hj).1
      refine ⟨x, ?_, h2⟩
      rw [List.getElem?_take_of_lt hjl, List.getElem?_drop]
      simpa using h1
theorem rel_ones {z : Nat → Option Obj} {ds : List D} {vs : List Value} (hl : ds.length = vs.length) (h : ∀ (j : Nat) (d : D), ds[j]? = some d → ∃ x, vs[j]? = some x ∧ gD P z d x) : ∀ v ∈ vs, v.oneCell' = true := by
  intro v hv
  obtain ⟨i, hi, rfl⟩ := List.getElem_of_mem hv
  obtain ⟨x, h1, h2⟩ := h i (ds[i]'(by omega)) (List.getElem?_eq_getElem (by omega))
  rw [List.getElem?_eq_getElem hi] at h1
  injection h1 with h1
  rw [h1]; exact gD.one h2
theorem src_sound {g : Cs} {el : Nat} {a : A} {n : List Prop} {m : Nat} {ds : List D} {ks : List Nat} (h : srcOf P g el a = some (n, m, ds, ks)) (hn : all_ n) (hi : Inv P w0 κ C w) (hg : ∀ id row, g id = some row → C id = some row) {v : Value} (hv : gA P κ a v) :
    ∃ (κ' : Kr) (B : Option Addr) (dp : Nat) (news : List Value), v = .slice B m dp ∧ κ.le κ' ∧ κ'.at_ = κ.at_ ∧ Inv P w0 κ' (upd C (kill ks)) w ∧ news.length = m * sz P el ∧ ds.length = m * sz P el ∧
      (Builtin.firstCells (sz P el) m (.slice B m dp)).run P w = .ok news.toArray w ∧ (Builtin.firstCells (sz P el) m (.slice B m dp)).run P w.drew = .ok news.toArray w.drew ∧ ∀ (j : Nat) (d : D), ds[j]? = some d → ∃ x, news[j]? = some x ∧ gD P κ'.z d x := by
  unfold srcOf at h
  split at h <;> try (cases h; done)
  · injection h with h; injection h with e1 h; injection h with e2 h; injection h with e3 e4
    subst e2; subst e3; subst e4
    rw [show v = _ from hv]
    obtain ⟨vs, g1, g2, g3, g4⟩ := read_run (P := P) (w := w) (size := sz P el) (n := 0) (c := 0) (Ad := none) (ds := []) (z := κ.z) (by simp) (.inl rfl)
    exact ⟨κ, none, 0, vs, rfl, Kr.le.refl κ, rfl, hi, g1, by simp, g2, g3, g4⟩
  · rename_i t m' ds'
    split at h <;> try (cases h; done)
    rename_i ht
    subst ht
    injection h with h; injection h with e1 h; injection h with e2 h; injection h with e3 e4
    subst e2; subst e3; subst e4
    have h1 : gD P κ.z (.list t m' ds') v := hv
    unfold gD at h1
    obtain ⟨Ad, c, rfl, h2, h3, h4⟩ := h1
    obtain ⟨vs, g1, g2, g3, g4⟩ := read_run (P := P) (w := w) (c := c) (Ad := Ad) (z := κ.z) h3 (h4.imp (fun h => h) (fun ⟨b, o, arr, ty, fr, k1, k2, k3⟩ => ⟨b, o, arr, ty, fr, k1, hi.z _ _ k2, fun j d hj => by
      obtain ⟨x, q1, q2⟩ := k3.at j d hj
      rw [List.getElem?_drop] at q1
      exact ⟨x, by simpa using q1, q2⟩⟩))
    exact ⟨κ, Ad, c, vs, rfl, Kr.le.refl κ, rfl, hi, g1, h3, g2, g3, g4⟩
  · rename_i t id off len
    split at h <;> try (cases h; done)
    rename_i ht
    subst ht
    obtain ⟨Ad, c, rfl, hc, hv⟩ := hv
    split at h <;> try (cases h; done)
    · rename_i u ds' hrow
      injection h with h; injection h with e1 h; injection h with e2 h; injection h with e3 e4
      subst e1; subst e2; subst e3; subst e4
      have hle : (off + len) * sz P t ≤ ds'.length := hn.1
      rw [Nat.add_mul] at hle
      have hl : ((ds'.drop (off * sz P t)).take (len * sz P t)).length = len * sz P t := by simp; omega
      have hread : len = 0 ∨ ∃ b p arr ty fr, Ad = some ⟨b, p, none⟩ ∧ w.heap[b]? = some (.cells arr ty fr) ∧ ∀ (j : Nat) (d : D), ((ds'.drop (off * sz P t)).take (len * sz P t))[j]? = some d → ∃ x, arr[p + j]? = some x ∧ gD P κ.z d x := by
        rcases hv with ⟨hv, _⟩ | ⟨b, o, N, hv, rfl, hv2⟩
        · exact .inl hv
        rcases (hi.live id _ (hg _ _ hrow)).ds (ds := ds') rfl with ⟨g1, _⟩ | ⟨b2, o2, N2, arr, g1, g2, g3, g4, g5, g6⟩
        · rw [g1] at hv; cases hv
        rw [g1] at hv
        injection hv with hv; injection hv with e1 e2; injection e2 with e2 e3
        subst e1; subst e2; subst e3
        refine .inr ⟨b2, _, arr, _, _, rfl, g3, fun j d hj => ?_⟩
        have hjl := (List.getElem?_eq_some_iff.mp hj).1
        rw [hl] at hjl
        rw [List.getElem?_take_of_lt hjl, List.getElem?_drop] at hj
        obtain ⟨x, k1, k2⟩ := g6 _ d hj
        exact ⟨x, by rw [Nat.add_assoc]; exact k1, k2⟩
      obtain ⟨vs, g1, g2, g3, g4⟩ := read_run (P := P) (w := w) (c := c) (Ad := Ad) (z := κ.z) hl hread
      exact ⟨κ, Ad, c, vs, rfl, Kr.le.refl κ, rfl, hi, g1, hl, g2, g3, g4⟩
    · rename_i u cs hrow
      split at h <;> try (cases h; done)
      rename_i n' ds' ks' hfz
      injection h with h; injection h with e1 h; injection h with e2 h; injection h with e3 e4
      subst e1; subst e2; subst e3; subst e4
      obtain ⟨hle, hn2⟩ := hn
      rw [Nat.add_mul] at hle
      have hl : ((cs.drop (off * sz P t)).take (len * sz P t)).length = len * sz P t := by simp; omega
      -- the values of these cells
      have hvals : ∃ vals : List Value, gL P κ ((cs.drop (off * sz P t)).take (len * sz P t)) vals ∧ (len = 0 ∨ ∃ b p arr ty fr, Ad = some ⟨b, p, none⟩ ∧ w.heap[b]? = some (.cells arr ty fr) ∧ ∀ (j : Nat) (x : Value), vals[j]? = some x → arr[p + j]? = some x) := by
        by_cases hz : len = 0
        · refine ⟨[], ?_, .inl hz⟩
          have : (cs.drop (off * sz P t)).take (len * sz P t) = [] := List.eq_nil_of_length_eq_zero (by rw [hl, hz]; simp)
          rw [this]; trivial
        rcases hv with ⟨hv, _⟩ | ⟨b, o, N, hv, rfl, hv2⟩
        · exact absurd hv hz
        rcases hi.live id _ (hg _ _ hrow) with ⟨g1, _⟩ | ⟨b2, o2, N2, arr, g1, g2, g3, g4, g5, g6⟩
        · rw [g1] at hv; cases hv
        rw [g1] at hv
        injection hv with hv; injection hv with e1 e2; injection e2 with e2 e3
        subst e1; subst e2; subst e3
        change o2 + cs.length ≤ N2 at g5
        have hvl : ((arr.toList.drop (o2 + off * sz P t)).take (len * sz P t)).length = len * sz P t := by simp; omega
        refine ⟨(arr.toList.drop (o2 + off * sz P t)).take (len * sz P t), gL.of (by rw [hl, hvl]) (fun q a hq => ?_), .inr ⟨b2, _, arr, _, _, rfl, g3, fun j x hj => ?_⟩⟩
        · have hql := (List.getElem?_eq_some_iff.mp hq).1
          rw [hl] at hql
          rw [List.getElem?_take_of_lt hql, List.getElem?_drop] at hq
          obtain ⟨x, k1, k2⟩ := g6 _ a hq
          refine ⟨x, ?_, k2⟩
          rw [List.getElem?_take_of_lt hql, List.getElem?_drop, Nat.add_assoc]
          simpa using k1
        · have hjl := (List.getElem?_eq_some_iff.mp hj).1
          rw [hvl] at hjl
          rw [List.getElem?_take_of_lt hjl, List.getElem?_drop] at hj
          simpa using hj
      obtain ⟨vals, hv1, hv2⟩ := hvals
      obtain ⟨κ', a1, a2, a3, a4, a5⟩ := frzL_sound hfz hn2 hi (fun k _ row hr => hg k row hr) hv1
      have hdl : ds'.length = len * sz P t := by rw [a4, ← hv1.len, hl]
      obtain ⟨vs, g1, g2, g3, g4⟩ := read_run (P := P) (w := w) (c := c) (Ad := Ad) (z := κ'.z) hdl (hv2.imp (fun h => h) (fun ⟨b, p, arr, ty, fr, k1, k2, k3⟩ => ⟨b, p, arr, ty, fr, k1, k2, fun j d hj => by
        obtain ⟨x, q1, q2⟩ := a5 j d hj
        exact ⟨x, k3 j x q1, q2⟩⟩))
      exact ⟨κ', Ad, c, vs, rfl, a1, a2, a3, g1, hdl, g2, g3, g4⟩
theorem tyIs_spec {f : TypeDesc → Bool} {t : Nat} (h : tyIs P f t = true) : ∃ u, P.underlying t = some u ∧ f u = true := by
  unfold tyIs at h
  split at h <;> try (cases h; done)
  rename_i e he
  exact ⟨_, (ti_spec he).1, h⟩
theorem isU8_spec {d : TypeDesc} (h : isU8 d = true) : d = .int .u8 := by
  cases d <;> first | (cases h; done) | skip
  rename_i k
  cases k <;> first | rfl | cases h
theorem byD_len (s : ByteArray) : (byD s).length = s.size := by
  unfold byD
  rw [List.length_map, Array.length_toList]
  rfl
theorem byD_at {s : ByteArray} {j : Nat} {d : D} (h : (byD s)[j]? = some d) : ∃ b, s.data[j]? = some b ∧ d = .int .u8 (b.toNat : Int) := by
  unfold byD at h
  rw [List.getElem?_map] at h
  obtain ⟨b, h1, rfl⟩ := Option.map_eq_some_iff.mp h
  exact ⟨b, by simpa using h1, rfl⟩
/-- What is appended: how many, and its cells. -/
theorem srcA_sound {g : Cs} {el t t' : Nat} {a : A} {n : List Prop} {m : Nat} {ds : List D} {ks : List Nat} (hel : P.underlying t = some (.slice el)) (h : srcA P g el t t' a = some (n, m, ds, ks)) (hn : all_ n) (hi : Inv P w0 κ C w) (hg : ∀ id row, g id = some row → C id = some row) {v : Value} (hv : gA P κ a v) :
    ∃ (κ' : Kr) (news : List Value), (∃ u, P.underlying t' = some u ∧ (u = .slice el ∨ u = .string)) ∧ (∀ w', (Builtin.lenOf v).run P w' = .ok m w') ∧ κ.le κ' ∧ κ'.at_ = κ.at_ ∧ Inv P w0 κ' (upd C (kill ks)) w ∧ news.length = m * sz P el ∧ ds.length = m * sz P el ∧
      (Builtin.firstCells (sz P el) m v).run P w = .ok news.toArray w ∧ (Builtin.firstCells (sz P el) m v).run P w.drew = .ok news.toArray w.drew ∧ ∀ (j : Nat) (d : D), ds[j]? = some d → ∃ x, news[j]? = some x ∧ gD P κ'.z d x := by
  unfold srcA at h
  split at h
  · rename_i s
    split at h <;> try (cases h; done)
    rename_i hc
    injection h with h; injection h with e1 h; injection h with e2 h; injection h with e3 e4
    subst e2; subst e3; subst e4
    have h1 : gD P κ.z (.str s) v := hv
    unfold gD at h1
    subst h1
    obtain ⟨u, hu1, hu2⟩ := tyIs_spec hc.1
    have hsz := hc.2.2
    have hex : s.extract 0 s.size = s := ByteArray.extract_zero_size
    refine ⟨κ, (s.data.map fun b => Value.int .u8 b.toNat).toList, ⟨u, hu1, .inr (isStr_spec hu2)⟩, fun w' => rfl, Kr.le.refl κ, rfl, hi, by rw [hsz, Nat.mul_one, Array.length_toList, Array.size_map]; rfl, by rw [hsz, Nat.mul_one, byD_len], ?_, ?_, fun j d hj => ?_⟩
    · show Result.ok ((s.extract 0 s.size).data.map fun b => Value.int .u8 b.toNat) w = _
      rw [hex]
    · show Result.ok ((s.extract 0 s.size).data.map fun b => Value.int .u8 b.toNat) w.drew = _
      rw [hex]
    · obtain ⟨b, hb, rfl⟩ := byD_at hj
      exact ⟨.int .u8 b.toNat, by simp [hb], by unfold gD; rfl⟩
  · split at h <;> try (cases h; done)
    rename_i ht
    subst ht
    obtain ⟨κ1, B, dp, news, rfl, a1, a2, a3, a4, a5, a6, a7, a8⟩ := src_sound h hn hi hg hv
    exact ⟨κ1, news, ⟨_, hel, .inl rfl⟩, fun w' => rfl, a1, a2, a3, a4, a5, a6, a7, a8⟩
theorem ne_last {us : Us} {nb k : Nat} {r : Option Row} (hk : ∀ p ∈ us ++ [(nb, r)], p.1 ≠ k) : k ≠ nb := fun e => hk (nb, r) (by simp) e.symm
theorem ne_last2 {us : Us} {a : Nat × Option Row} {nb k : Nat} {r : Option Row} (hk : ∀ p ∈ us ++ [a, (nb, r)], p.1 ≠ k) : k ≠ nb := fun e => hk (nb, r) (by simp) e.symm
/-- append, where nothing grows. -/
theorem append_room {t t' el : Nat} {ee : Ti} (hut : P.underlying t = some (.slice el)) {u' : TypeDesc} (hut' : P.underlying t' = some u') (hu' : u' = .slice el ∨ u' = .string) (hee : ti P el = some ee) {b p n m cp ty : Nat} {vy : Value} (hlen : ∀ w', (Builtin.lenOf vy).run P w' = .ok m w') {arr : Array Value} {news : List Value} (hroom : n + m ≤ cp)
    (hb : w.heap[b]? = some (.cells arr el (0, 0))) (hfit : p + n * sz P el + news.length ≤ arr.size) (hones : ∀ u ∈ news, u.oneCell' = true) (w3 : (Builtin.firstCells (sz P el) m vy).run P w = .ok news.toArray w) :
    (do pure (.value (← Builtin.append_ #[t, t'] ty #[.slice (some ⟨b, p, none⟩) n cp, vy])) : Sem Next).run P w =
      .ok (.value (.slice (some ⟨b, p, none⟩) (n + m) cp)) (w.setRow b (arr.toList.take (p + n * sz P el) ++ news ++ arr.toList.drop (p + n * sz P el + news.length)).toArray) := by
  obtain ⟨hue, ⟨i, j1, j2, j3, j4⟩, hs1, hs2, hs3⟩ := ti_spec hee
  have hsz : i.size = sz P el := by rw [sz_of hee, j2]
  have hst := run_storeCells_at P b (p + n * sz P el) el news 0 arr w hb (by omega) hones
  simp only [Nat.add_zero] at hst
  rcases hu' with rfl | rfl <;> simp [Builtin.append_, run_underlying hut, run_underlying hut', sizeOf, Typ.run_info j1, hlen, hroom, hsz, w3, Typ.addr_add, hst]
theorem append_stay {t t' el : Nat} {ee : Ti} (hut : P.underlying t = some (.slice el)) {u' : TypeDesc} (hut' : P.underlying t' = some u') (hu' : u' = .slice el ∨ u' = .string) (hee : ti P el = some ee) {ty : Nat} {Ad : Option Addr} {vy : Value} (hlen : ∀ w', (Builtin.lenOf vy).run P w' = .ok 0 w') {news : List Value} (hnil : news = []) (w3 : (Builtin.firstCells (sz P el) 0 vy).run P w = .ok news.toArray w) :
    (do pure (.value (← Builtin.append_ #[t, t'] ty #[.slice Ad 0 0, vy])) : Sem Next).run P w = .ok (.value (.slice Ad 0 0)) w := by
  obtain ⟨hue, ⟨i, j1, j2, j3, j4⟩, hs1, hs2, hs3⟩ := ti_spec hee
  have hsz : i.size = sz P el := by rw [sz_of hee, j2]
  subst hnil
  cases Ad with
  | none => rcases hu' with rfl | rfl <;> simp [Builtin.append_, run_underlying hut, run_underlying hut', sizeOf, Typ.run_info j1, hlen, hsz, w3]
  | some a => rcases hu' with rfl | rfl <;> simp [Builtin.append_, run_underlying hut, run_underlying hut', sizeOf, Typ.run_info j1, hlen, hsz, w3, storeCells]
theorem append_grow {t t' el : Nat} {ee : Ti} (hut : P.underlying t = some (.slice el)) {u' : TypeDesc} (hut' : P.underlying t' = some u') (hu' : u' = .slice el ∨ u' = .string) (hee : ti P el = some ee) {n m cp ty : Nat} {Ad : Option Addr} {vy : Value} (hlen : ∀ w', (Builtin.lenOf vy).run P w' = .ok m w') {olds news : List Value} (hroom : ¬ n + m ≤ cp) (hsm : n + m ≤ 1048576) (hby : ee.bytes ≤ 65536)
    (o4 : (Builtin.firstCells (sz P el) n (.slice Ad n cp)).run P w.drew = .ok olds.toArray w.drew) (w4 : (Builtin.firstCells (sz P el) m vy).run P w.drew = .ok news.toArray w.drew) :
    ∃ (cap : Nat) (zs : Array Value), n + m ≤ cap ∧ zs.size = (cap - (n + m)) * sz P el ∧ (do pure (.value (← Builtin.append_ #[t, t'] ty #[.slice Ad n cp, vy])) : Sem Next).run P w =
      .ok (.value (.slice (some ⟨w.heap.size, 0, none⟩) (n + m) cap)) (w.drew.alloc (.cells ((olds ++ news).toArray ++ zs) el)) := by
  obtain ⟨hue, ⟨i, j1, j2, j3, j4⟩, hs1, hs2, hs3⟩ := ti_spec hee
  have hsz : i.size = sz P el := by rw [sz_of hee, j2]
  have hlt : cp < n + m := by omega
  have hby : i.bytes ≤ 65536 := by omega
  have hmul : (n + m) * i.bytes ≤ 1048576 * 65536 := Nat.mul_le_mul hsm hby
  have hfits := growslice_fits (old := cp) (bytes := i.bytes) hlt (by omega)
  have h63 : ¬ ((9223372036854775807 : Int) < (n : Int) + (m : Int)) := by omega
  have h48 : ¬ (281474976710656 < Builtin.nextslicecap (n + m) cp * i.bytes) := by omega
  refine ⟨grownCap w (n + m) cp el, Builtin.zeroCells ee.zero.cells (grownCap w (n + m) cp el - (n + m)), grownCap_ge w (n + m) cp el, by rw [size_zeroCells, hs2, sz_of hee], ?_⟩
  rw [← hsz] at w4 o4
  rcases hu' with rfl | rfl
  all_goals
    simp [Builtin.append_, run_underlying hut, run_underlying hut', sizeOf, Typ.run_info j1, zeroValue, j4, hlen, hroom, h63, h48, Question.forced, w4, o4, newRow, grownCap]
    congr 2
    apply Array.ext'
    simp
theorem cat_rel {z : Nat → Option Obj} {as bs : List D} {xs ys : List Value} (ha : as.length = xs.length) (h1 : ∀ (j : Nat) (d : D), as[j]? = some d → ∃ x, xs[j]? = some x ∧ gD P z d x) (h2 : ∀ (j : Nat) (d : D), bs[j]? = some d → ∃ x, ys[j]? = some x ∧ gD P z d x) :
    ∀ (j : Nat) (d : D), (as ++ bs)[j]? = some d → ∃ x, (xs ++ ys)[j]? = some x ∧ gD P z d x := by
  intro j d hj
  by_cases h : j < as.length
  · rw [List.getElem?_append_left h] at hj
    obtain ⟨x, k1, k2⟩ := h1 j d hj
    exact ⟨x, by rw [List.getElem?_append_left (by omega)]; exact k1, k2⟩
  · rw [List.getElem?_append_right (by omega)] at hj
    obtain ⟨x, k1, k2⟩ := h2 _ d hj
    exact ⟨x, by rw [List.getElem?_append_right (by omega), ← ha]; exact k1, k2⟩
/-- What has grown is a row more. -/
theorem grown_row {el nb cap n m : Nat} {all : List D} {vals : List Value} {zs : Array Value} (hi : Inv P w0 κ C w) (hC : C nb = none) (hA : κ.at_ nb = none) (hl : all.length = vals.length) (hv : vals.length = (n + m) * sz P el) (hcap : n + m ≤ cap) (hzs : zs.size = (cap - (n + m)) * sz P el)
    (h : ∀ (j : Nat) (d : D), all[j]? = some d → ∃ x, vals[j]? = some x ∧ gD P κ.z d x) :
    ∃ κ', κ.le κ' ∧ (∀ k, k ≠ nb → κ'.at_ k = κ.at_ k) ∧ Inv P w0 κ' (upd C [(nb, some (.sym el all))]) (w.drew.alloc (.cells (vals.toArray ++ zs) el)) ∧ gA P κ' (.sl el nb 0 (n + m)) (.slice (some ⟨w.heap.size, 0, none⟩) (n + m) cap) := by
  have hsize : (vals.toArray ++ zs).size = cap * sz P el := by
    simp [hv, hzs, ← Nat.add_mul]
    congr 1; omega
  obtain ⟨hle, hinv⟩ := hi.drew.alloc hC hA (.sym el all) (vals.toArray ++ zs) (by simp [Row.as]; omega) (fun j a ha => by
    simp only [Row.as, List.getElem?_map] at ha
    obtain ⟨d, hd, rfl⟩ := Option.map_eq_some_iff.mp ha
    obtain ⟨x, k1, k2⟩ := h j d hd
    have hj : j < vals.length := (List.getElem?_eq_some_iff.mp k1).1
    exact ⟨x, by rw [Array.getElem?_append_left (by simpa using hj)]; simpa using k1, k2⟩)
  refine ⟨_, hle, fun k hk => put_other hk, hinv, some ⟨w.heap.size, 0, none⟩, cap, rfl, hcap, .inr ⟨w.heap.size, 0, _, by unfold Kr.put; simp only [if_true]; rfl, by simp, ?_⟩⟩
  rw [hsize]; simp
theorem s_append (hi : Inv P w0 κ C w) {g : Cs} (hg : ∀ id row, g id = some row → C id = some row) {ts : Array Nat} {args : List AV} {vs : Array Value} {ty nb : Nat} (hga : ∀ (i : Nat) (a : AV), args[i]? = some a → ∃ v, vs[i]? = some v ∧ gAV P κ a v) (hl : vs.size = args.length)
    (h : mAppend P g ts args nb = some (ns, av, us)) (hn : all_ ns) (hC : C nb = none) (hA : κ.at_ nb = none) :
    Yields P w0 κ C ((do pure (.value (← Builtin.append_ ts ty vs)) : Sem Next).run P w) av us := by
  unfold mAppend at h
  split at h <;> try (cases h; done)
  rename_i t t' x y hts
  have hts' : ts = #[t, t'] := by rw [← Array.toArray_toList (xs := ts), hts]
  subst hts'
  obtain ⟨vx, vy, rfl, hgx, hgy⟩ := two_args rfl hl hga
  split at h <;> try (cases h; done)
  rename_i et ht
  split at h <;> try (cases h; done)
  rename_i el hel
  split at h <;> try (cases h; done)
  rename_i ee n m ds ks hee hsrc
  split at h <;> try (cases h; done)
  rename_i hc
  have hby := hc
  have hut := (ti_spec ht).1
  rw [isSl_spec hel] at hut
  split at h <;> try (cases h; done)
  · injection h with h; injection h with e1 e2; injection e2 with e2 e3
    subst e1; subst e2; subst e3
    obtain ⟨hn1, hn2⟩ := all_append hn
    obtain ⟨κ1, news, ⟨u', hut', hu'⟩, hlen, a1, a2, a3, a4, a5, a6, a7, a8⟩ := srcA_sound hut hsrc hn1 hi hg hgy
    have hsm : m ≤ 1048576 := hn2.1
    rw [show vx = _ from hgx]
    have hC1 : upd C (kill ks) nb = none := by rw [upd_kill]; split; rfl; exact hC
    have hA1 : κ1.at_ nb = none := by rw [a2]; exact hA
    by_cases hroom : 0 + m ≤ 0
    · obtain rfl : m = 0 := by omega
      have hnil : news = [] := List.eq_nil_of_length_eq_zero (by rw [a4]; simp)
      have hds : ds = [] := List.eq_nil_of_length_eq_zero (by rw [a5]; simp)
      subst hds
      have hr := append_stay (ty := ty) (Ad := none) hut hut' hu' hee hlen hnil a6
      refine ⟨_, κ1, w, hr, a1, ?_, fun k hk => by rw [a2], .inl ⟨_, rfl, none, 0, rfl, Nat.le_refl _, .inl ⟨rfl, rfl⟩⟩⟩
      rw [upd_append]
      refine ⟨a3.os, a3.tape, a3.output, a3.size, a3.base, a3.z, fun k r hk => ?_, fun k k' r r' b o N o' N' h1 h2 h3 h4 => ?_, fun k r b o N h1 h3 => ?_⟩
      · rw [upd_one] at hk
        split at hk
        · rename_i e; subst e; injection hk with hk; subst hk; exact .inl ⟨hA1, rfl⟩
        · exact a3.live k r hk
      · rw [upd_one] at h1 h2
        split at h1
        · rename_i e; subst e; rw [hA1] at h3; cases h3
        · split at h2
          · rename_i e; subst e; rw [hA1] at h4; cases h4
          · exact a3.apart k k' r r' b o N o' N' h1 h2 h3 h4
      · rw [upd_one] at h1
        split at h1
        · rename_i e; subst e; rw [hA1] at h3; cases h3
        · exact a3.own k r b o N h1 h3
    · obtain ⟨vs0, _, _, o4, _⟩ := read_run (P := P) (w := w) (size := sz P el) (n := 0) (c := 0) (Ad := none) (ds := []) (z := κ.z) (by simp) (.inl rfl)
      have ho : vs0 = [] := by
        rw [run_firstCells_none] at o4
        injection o4 with o4
        simpa using o4.symm
      subst ho
      obtain ⟨cap, zs, c1, c2, c3⟩ := append_grow (ty := ty) (Ad := none) (n := 0) (cp := 0) hut hut' hu' hee hlen hroom (by omega) hby o4 a7
      obtain ⟨κ', d1, d2, d3, d4⟩ := grown_row (n := 0) (m := m) a3 hC1 hA1 (all := ds) (vals := news) (by rw [a4, a5]) (by simpa using a4) c1 c2 a8
      simp only [List.nil_append, Nat.zero_add] at c3 d4
      exact ⟨_, κ', _, c3, a1.trans d1, by rw [upd_append]; exact d3, fun k hk => by rw [d2 k (ne_last hk), a2], .inl ⟨_, rfl, d4⟩⟩
  · rename_i u id off len
    split at h <;> try (cases h; done)
    rename_i row hrow
    split at h <;> try (cases h; done)
    rename_i old hold
    split at h <;> try (cases h; done)
    rename_i hc
    obtain ⟨rfl, hrt, hki⟩ := hc
    injection h with h; injection h with e1 e2; injection e2 with e2 e3
    subst e1; subst e2; subst e3
    obtain ⟨hn1, hle, hsm, _⟩ := all_append hn
    rw [Nat.add_mul] at hle
    obtain ⟨κ1, news, ⟨u', hut', hu'⟩, hlen, a1, a2, a3, a4, a5, a6, a7, a8⟩ := srcA_sound hut hsrc hn1 hi hg hgy
    obtain ⟨Ad, c, rfl, hc, hv⟩ := gA.mono a1 (show gA P κ (.sl u id off len) vx from hgx)
    have hCid : upd C (kill ks) id = some row := by rw [upd_kill, if_neg (by rw [hki]; simp)]; exact hg _ _ hrow
    have hne : nb ≠ id := fun e => by subst e; rw [hg _ _ hrow] at hC; cases hC
    have hC1 : upd C (kill ks) nb = none := by rw [upd_kill]; split; rfl; exact hC
    have hA1 : κ1.at_ nb = none := by rw [a2]; exact hA
    have hbl : ((old.drop (off * sz P u)).take (len * sz P u)).length = len * sz P u := by simp; omega
    have hones := rel_ones (P := P) (by rw [a4, a5]) a8
    have hk2 : Inv P w0 κ1 (upd (upd C (kill ks)) [(id, none)]) w := a3.less (fun k r hk => by
      rw [upd_one] at hk
      split at hk
      · cases hk
      · exact hk)
    have hus : ∀ r : Row, upd C (kill ks ++ [(id, none), (nb, some r)]) = upd (upd (upd C (kill ks)) [(id, none)]) [(nb, some r)] := fun r => by rw [upd_append]; rfl
    have hread : len = 0 ∨ ∃ b p arr ty fr, Ad = some ⟨b, p, none⟩ ∧ w.heap[b]? = some (.cells arr ty fr) ∧ ∀ (j : Nat) (d : D), ((old.drop (off * sz P u)).take (len * sz P u))[j]? = some d → ∃ x, arr[p + j]? = some x ∧ gD P κ1.z d x := by
      rcases hv with ⟨hv, _⟩ | ⟨b, o, N, hv, rfl, hv2⟩
      · exact .inl hv
      rcases (a3.live id _ hCid).ds hold with ⟨g1, _⟩ | ⟨b2, o2, N2, arr, g1, g2, g3, g4, g5, g6⟩
      · rw [g1] at hv; cases hv
      rw [g1] at hv
      injection hv with hv; injection hv with e1 e2; injection e2 with e2 e3
      subst e1; subst e2; subst e3
      refine .inr ⟨b2, _, arr, _, _, rfl, g3, fun j d hj => ?_⟩
      have hjl := (List.getElem?_eq_some_iff.mp hj).1
      rw [hbl] at hjl
      rw [List.getElem?_take_of_lt hjl, List.getElem?_drop] at hj
      obtain ⟨x, k1, k2⟩ := g6 _ d hj
      exact ⟨x, by rw [Nat.add_assoc]; exact k1, k2⟩
    by_cases hroom : len + m ≤ c
    · rcases hv with ⟨rfl, rfl⟩ | ⟨b, o, N, hv, rfl, hv2⟩
      · obtain rfl : m = 0 := by omega
        have hnil : news = [] := List.eq_nil_of_length_eq_zero (by rw [a4]; simp)
        have hds : ds = [] := List.eq_nil_of_length_eq_zero (by rw [a5]; simp)
        subst hds
        have hr := append_stay (ty := ty) (Ad := Ad) hut hut' hu' hee hlen hnil a6
        refine ⟨_, κ1, w, hr, a1, ?_, fun k hk => by rw [a2], .inl ⟨_, rfl, Ad, 0, rfl, Nat.le_refl _, .inl ⟨rfl, rfl⟩⟩⟩
        rw [hus]
        refine ⟨a3.os, a3.tape, a3.output, a3.size, a3.base, a3.z, fun k r hk => ?_, fun k k' r r' b o N o' N' h1 h2 h3 h4 => ?_, fun k r b o N h1 h3 => ?_⟩
        · rw [upd_one] at hk
          split at hk
          · rename_i e; subst e; injection hk with hk; subst hk; exact .inl ⟨hA1, by simp [Row.as]⟩
          · exact hk2.live k r hk
        · rw [upd_one] at h1 h2
          split at h1
          · rename_i e; subst e; rw [hA1] at h3; cases h3
          · split at h2
            · rename_i e; subst e; rw [hA1] at h4; cases h4
            · exact hk2.apart k k' r r' b o N o' N' h1 h2 h3 h4
        · rw [upd_one] at h1
          split at h1
          · rename_i e; subst e; rw [hA1] at h3; cases h3
          · exact hk2.own k r b o N h1 h3
      · rcases (a3.live id _ hCid).ds hold with ⟨g1, _⟩ | ⟨b2, o2, N2, arr, g1, g2, g3, g4, g5, g6⟩
        · rw [g1] at hv; cases hv
        rw [g1] at hv
        injection hv with hv; injection hv with e1 e2; injection e2 with e2 e3
        subst e1; subst e2; subst e3
        rw [hrt] at g3
        have hcN : o2 + off * sz P u + len * sz P u + m * sz P u ≤ N2 := by
          have h1 : (off + (len + m)) * sz P u ≤ (off + c) * sz P u := Nat.mul_le_mul_right _ (by omega)
          rw [Nat.add_mul, Nat.add_mul] at h1
          omega
        have hr := append_room (ty := ty) (p := o2 + off * sz P u) hut hut' hu' hee hlen hroom g3 (by rw [a4]; omega) hones a6
        have hp : o2 + off * sz P u + len * sz P u + news.length ≤ arr.size := by rw [a4]; omega
        have hrel : ∀ (j : Nat) (a : A), (Row.sym u ((old.drop (off * sz P u)).take (len * sz P u) ++ ds)).as[j]? = some a → ∃ x, ((arr.toList.take (o2 + off * sz P u + len * sz P u) ++ news ++ arr.toList.drop (o2 + off * sz P u + len * sz P u + news.length)).toArray)[o2 + off * sz P u + j]? = some x ∧ gA P κ1 a x := by
          intro j a hj
          simp only [Row.as, List.getElem?_map] at hj
          obtain ⟨d, hd, rfl⟩ := Option.map_eq_some_iff.mp hj
          rw [spliced hp]
          by_cases hjb : j < len * sz P u
          · rw [List.getElem?_append_left (by omega), List.getElem?_take_of_lt hjb, List.getElem?_drop] at hd
            obtain ⟨x, k1, k2⟩ := g6 _ d hd
            exact ⟨x, by rw [if_pos (by omega), Nat.add_assoc]; exact k1, k2⟩
          · rw [List.getElem?_append_right (by omega), hbl] at hd
            obtain ⟨x, k1, k2⟩ := a8 _ d hd
            have hjl := (List.getElem?_eq_some_iff.mp k1).1
            exact ⟨x, by rw [if_neg (by omega), if_pos (by omega), show o2 + off * sz P u + j - (o2 + off * sz P u + len * sz P u) = j - len * sz P u by omega]; exact k1, k2⟩
        obtain ⟨κ', q1, q2, q3, q4, q5⟩ := a3.reuse hCid g1 _ (by simp [a4]; omega) nb (o2 + off * sz P u) (.sym u ((old.drop (off * sz P u)).take (len * sz P u) ++ ds)) (.inr ⟨hC1, hA1⟩) (by rw [hrt]; rfl) (by simp only [Row.as, List.length_map, List.length_append, hbl, a5]; omega) hrel (w.setRow b2 (arr.toList.take (o2 + off * sz P u + len * sz P u) ++ news ++ arr.toList.drop (o2 + off * sz P u + len * sz P u + news.length)).toArray) ⟨rfl, rfl, rfl, setRow_size _ _ _⟩ (by rw [hrt]; exact setRow_heap w b2 arr _ _ (0, 0) g3) (fun k hk => setRow_other _ _ _ _ hk)
        refine ⟨_, κ', _, hr, a1.trans q1, ?_, fun k hk => by rw [q3 k (ne_last2 hk), a2], .inl ⟨_, rfl, _, c, rfl, hroom, .inr ⟨b2, _, _, q2, by simp, ?_⟩⟩⟩
        · rw [upd_append]; exact q5
        · rw [Nat.add_mul] at hv2 ⊢
          omega
    · obtain ⟨vs0, o1, o3, o4, o5⟩ := read_run (P := P) (w := w) (c := c) (Ad := Ad) (z := κ1.z) hbl hread
      obtain ⟨cap, zs, c1, c2, c3⟩ := append_grow (ty := ty) (Ad := Ad) hut hut' hu' hee hlen hroom hsm hby o4 a7
      have hC2 : upd (upd C (kill ks)) [(id, none)] nb = none := by rw [upd_one, if_neg hne]; exact hC1
      obtain ⟨κ', d1, d2, d3, d4⟩ := grown_row (n := len) (m := m) hk2 hC2 hA1 (all := (old.drop (off * sz P u)).take (len * sz P u) ++ ds) (vals := vs0 ++ news) (by rw [List.length_append, List.length_append, hbl, o1, a4, a5]) (by rw [List.length_append, o1, a4, Nat.add_mul]) c1 c2 (cat_rel (by rw [hbl, o1]) o5 a8)
      exact ⟨_, κ', _, c3, a1.trans d1, by rw [hus]; exact d3, fun k hk => by rw [d2 k (ne_last2 hk), a2], .inl ⟨_, rfl, d4⟩⟩
/-- copy, as it runs. -/
theorem s_appendF (hi : Inv P w0 κ C w) {g : Cs} (hg : ∀ id row, g id = some row → C id = some row) {ts : Array Nat} {args : List AV} {vs : Array Value} {ty nb : Nat} (hga : ∀ (i : Nat) (a : AV), args[i]? = some a → ∃ v, vs[i]? = some v ∧ gAV P κ a v) (hl : vs.size = args.length)
    (h : mAppendF P g ts args nb = some (ns, av, us)) (hn : all_ ns) (hC : C nb = none) (hA : κ.at_ nb = none) :
    Yields P w0 κ C ((do pure (.value (← Builtin.append_ ts ty vs)) : Sem Next).run P w) av us := by
  unfold mAppendF at h
  split at h <;> try (cases h; done)
  rename_i u id off len y
  split at h <;> try (cases h; done)
  rename_i t0 l hrow
  split at h <;> try (cases h; done)
  rename_i n ds ks hfr
  split at h <;> try (cases h; done)
  rename_i hid
  split at h <;> try (cases h; done)
  rename_i n2 av2 us2 hap
  injection h with h; injection h with e1 e2; injection e2 with e2 e3
  subst e1; subst e2; subst e3
  obtain ⟨hn1, hn2⟩ := all_append hn
  have hCi := hg _ _ hrow
  have key : ∃ κ', κ.le κ' ∧ κ'.at_ = κ.at_ ∧ Inv P w0 κ' (upd (upd C (kill ks)) [(id, some (.sym t0 ds))]) w := by
    rcases hi.live id _ hCi with ⟨g1, g2⟩ | ⟨b2, o2, N2, arr, g1, g2, g3, g4, g5, g6⟩
    · have hl0 : l = [] := g2
      subst hl0
      obtain ⟨κ', k1, k2, k3, k4, k5⟩ := frzL_sound hfr hn1 hi (fun id _ row hr => hg id row hr) (vs := []) (gL.of rfl fun j a ha => by simp at ha)
      have hC' : upd C (kill ks) id = some (.fix t0 []) := by rw [upd_kill, if_neg (by rw [hid]; simp)]; exact hCi
      have hd0 : ds = [] := List.eq_nil_of_length_eq_zero k4
      subst hd0
      exact ⟨κ', k1, k2, k3.retell hC' (.inl ⟨by rw [k2]; exact g1, rfl⟩)⟩
    · have hvs : gL P κ l ((arr.toList.drop o2).take l.length) := by
        have hlen : ((arr.toList.drop o2).take l.length).length = l.length := by
          simp only [Row.as] at g5
          simp; omega
        refine gL.of hlen.symm (fun j a ha => ?_)
        have hj := (List.getElem?_eq_some_iff.mp ha).1
        obtain ⟨y, y1, y2⟩ := g6 j a ha
        exact ⟨y, by rw [List.getElem?_take_of_lt hj, List.getElem?_drop, Array.getElem?_toList]; exact y1, y2⟩
      obtain ⟨κ', k1, k2, k3, k4, k5⟩ := frzL_sound hfr hn1 hi (fun id _ row hr => hg id row hr) hvs
      have hC' : upd C (kill ks) id = some (.fix t0 l) := by rw [upd_kill, if_neg (by rw [hid]; simp)]; exact hCi
      have hdl : ds.length = l.length := by
        rw [k4]
        simp only [Row.as] at g5
        simp; omega
      have hrow' : RowIn P κ' w id (.sym t0 ds) := by
        rcases k3.live id _ hC' with ⟨q1, _⟩ | ⟨b3, o3, N3, arr3, q1, q2, q3, q4, q5, q6⟩
        · rw [k2, g1] at q1; cases q1
        rw [k2, g1] at q1
        injection q1 with q1; injection q1 with x1 x2; injection x2 with x2 x3
        subst x1; subst x2; subst x3
        rw [g3] at q3
        injection q3 with q3; injection q3 with q3 _
        subst q3
        refine .inr ⟨b2, o2, N2, arr, by rw [k2]; exact g1, q2, g3, g4, ?_, fun j a ha => ?_⟩
        · simp only [Row.as] at g5 ⊢
          rw [List.length_map, hdl]; exact g5
        · simp only [Row.as, List.getElem?_map] at ha
          obtain ⟨d, hd, rfl⟩ := Option.map_eq_some_iff.mp ha
          obtain ⟨y, y1, y2⟩ := k5 j d hd
          have hj := (List.getElem?_eq_some_iff.mp hd).1
          rw [List.getElem?_take_of_lt (by omega), List.getElem?_drop, Array.getElem?_toList] at y1
          exact ⟨y, y1, y2⟩
      exact ⟨κ', k1, k2, k3.retell hC' hrow'⟩
  obtain ⟨κ', k1, k2, hI⟩ := key
  have hne : nb ≠ id := fun e => by rw [e, hCi] at hC; cases hC
  obtain ⟨m, κ2, w', r1, r2, r3, r4, r5⟩ := s_append hI (g := fun k => if k = id then some (.sym t0 ds) else none) (fun k row hk => by
    split at hk <;> try (cases hk; done)
    rename_i ek
    rw [upd_one, if_pos ek]; exact hk) (fun i a ha => by
      obtain ⟨v, h1, h2⟩ := hga i a ha
      exact ⟨v, h1, h2.mono k1⟩) hl hap hn2 (by rw [upd_one, if_neg hne, upd_kill]; split <;> first | rfl | exact hC) (by rw [k2]; exact hA)
  refine ⟨m, κ2, w', r1, k1.trans r2, ?_, fun k hk => ?_, r5⟩
  · rw [upd_append, upd_append]
    exact r3
  · rw [r4 k (fun p hp => hk p (List.mem_append_right _ (List.mem_append_right _ hp))), k2]
theorem copy_run {t el : Nat} {ee : Ti} (hut : P.underlying t = some (.slice el)) (hee : ti P el = some ee) {b p n m cp dp ty tc : Nat} {B : Option Addr} {arr : Array Value} {news : List Value} (hm : m ≤ n)
    (hb : w.heap[b]? = some (.cells arr tc (0, 0))) (hfit : p + news.length ≤ arr.size) (hones : ∀ u ∈ news, u.oneCell' = true) (w3 : (Builtin.firstCells (sz P el) m (.slice B m dp)).run P w = .ok news.toArray w) :
    (do pure (.value (← Builtin.copy_ #[t, t] ty #[.slice (some ⟨b, p, none⟩) n cp, .slice B m dp])) : Sem Next).run P w =
      .ok (.value (.int .i64 m)) (w.setRow b (arr.toList.take p ++ news ++ arr.toList.drop (p + news.length)).toArray) := by
  obtain ⟨hue, ⟨i, j1, j2, j3, j4⟩, hs1, hs2, hs3⟩ := ti_spec hee
  have hsz : i.size = sz P el := by rw [sz_of hee, j2]
  have hst := run_storeCells_at P b p tc news 0 arr w hb (by omega) hones
  simp only [Nat.add_zero] at hst
  simp [Builtin.copy_, run_underlying hut, sizeOf, Typ.run_info j1, Builtin.lenOf, hsz, Nat.min_eq_left hm, w3, hst, goInt]
theorem copy_none {t el : Nat} {ee : Ti} (hut : P.underlying t = some (.slice el)) (hee : ti P el = some ee) {dp ty : Nat} {Ad B : Option Addr} {news : List Value} (hnil : news = []) (w3 : (Builtin.firstCells (sz P el) 0 (.slice B 0 dp)).run P w = .ok news.toArray w) :
    (do pure (.value (← Builtin.copy_ #[t, t] ty #[.slice Ad 0 0, .slice B 0 dp])) : Sem Next).run P w = .ok (.value (.int .i64 (0 : Nat))) w := by
  obtain ⟨hue, ⟨i, j1, j2, j3, j4⟩, hs1, hs2, hs3⟩ := ti_spec hee
  have hsz : i.size = sz P el := by rw [sz_of hee, j2]
  subst hnil
  cases Ad with
  | none => simp [Builtin.copy_, run_underlying hut, sizeOf, Typ.run_info j1, Builtin.lenOf, hsz, w3, goInt]
  | some a => simp [Builtin.copy_, run_underlying hut, sizeOf, Typ.run_info j1, Builtin.lenOf, hsz, w3, storeCells, goInt]
theorem upd_twice (C : Cs) (id : Nat) (r r' : Option Row) : upd C [(id, r), (id, r')] = upd C [(id, r')] := by
  funext k
  unfold upd
  simp only [List.foldl_cons, List.foldl_nil]
  by_cases h : k = id <;> simp [h]
theorem s_copy (hi : Inv P w0 κ C w) {g : Cs} (hg : ∀ id row, g id = some row → C id = some row) {ts : Array Nat} {args : List AV} {vs : Array Value} {ty : Nat} (hga : ∀ (i : Nat) (a : AV), args[i]? = some a → ∃ v, vs[i]? = some v ∧ gAV P κ a v) (hl : vs.size = args.length)
    (h : mCopy P g ts args = some (ns, av, us)) (hn : all_ ns) :
    Yields P w0 κ C ((do pure (.value (← Builtin.copy_ ts ty vs)) : Sem Next).run P w) av us := by
  unfold mCopy at h
  split at h <;> try (cases h; done)
  rename_i t t' x y hts
  have hts' : ts = #[t, t'] := by rw [← Array.toArray_toList (xs := ts), hts]
  subst hts'
  obtain ⟨vx, vy, rfl, hgx, hgy⟩ := two_args rfl hl hga
  split at h <;> try (cases h; done)
  rename_i et ht
  split at h <;> try (cases h; done)
  rename_i el hel
  split at h <;> try (cases h; done)
  rename_i ee n m ds ks hee hsrc
  split at h <;> try (cases h; done)
  rename_i htt
  subst htt
  have hut := (ti_spec ht).1
  rw [isSl_spec hel] at hut
  split at h <;> try (cases h; done)
  rename_i u id off len
  split at h <;> try (cases h; done)
  rename_i row hrow
  split at h <;> try (cases h; done)
  rename_i old hold
  split at h <;> try (cases h; done)
  rename_i hc
  obtain ⟨rfl, hks⟩ := hc
  injection h with h; injection h with e1 e2; injection e2 with e2 e3
  subst e1; subst e2; subst e3
  obtain ⟨hn1, hn2⟩ := all_append hn
  obtain ⟨κ1, B, dp, news, rfl, a1, a2, a3, a4, a5, a6, a7, a8⟩ := src_sound hsrc hn1 hi hg hgy
  have hfit : off * sz P u + ds.length ≤ old.length := hn2.1
  have hml : m ≤ len := hn2.2.1
  obtain ⟨Ad, c, rfl, hc, hv⟩ := hgx
  have hCid : upd C (kill ks) id = some row := by rw [upd_kill, if_neg (by rw [hks]; simp)]; exact hg _ _ hrow
  have hones : ∀ v ∈ news, v.oneCell' = true := rel_ones (by rw [a4, a5]) a8
  rcases hv with ⟨rfl, rfl⟩ | ⟨b, o, N, hv, rfl, hv2⟩
  · obtain rfl : m = 0 := by omega
    have hnil : news = [] := List.eq_nil_of_length_eq_zero (by rw [a4]; simp)
    have hds : ds = [] := List.eq_nil_of_length_eq_zero (by rw [a5]; simp)
    subst hds
    have hr := copy_none (ty := ty) (Ad := Ad) hut hee hnil a6
    have hs : setL old (off * sz P u) [] = old := by unfold setL; simp
    refine ⟨_, κ1, w, hr, a1, ?_, fun k hk => by rw [a2], .inl ⟨_, rfl, gint' _ _⟩⟩
    rw [hs, upd_append, upd_twice]
    refine a3.retell hCid ?_
    rcases (a3.live id _ hCid).ds hold with ⟨g1, g2⟩ | ⟨b2, o2, N2, arr, g1, g2, g3, g4, g5, g6⟩
    · exact .inl ⟨g1, by simp [Row.as, g2]⟩
    · refine .inr ⟨b2, o2, N2, arr, g1, g2, g3, g4, by simpa [Row.as] using g5, fun j a hj => ?_⟩
      simp only [Row.as, List.getElem?_map] at hj
      obtain ⟨d, hd, rfl⟩ := Option.map_eq_some_iff.mp hj
      exact g6 j d hd
  · rw [← a2] at hv
    rcases (a3.live id _ hCid).ds hold with ⟨g1, _⟩ | ⟨b2, o2, N2, arr, g1, g2, g3, g4, g5, g6⟩
    · rw [g1] at hv; cases hv
    rw [g1] at hv
    injection hv with hv; injection hv with e1 e2; injection e2 with e2 e3
    subst e1; subst e2; subst e3
    generalize hpp : off * sz P u = pp at hfit ⊢
    have hp : o2 + pp + news.length ≤ arr.size := by rw [a4]; omega
    have hr := copy_run (ty := ty) (p := o2 + pp) (cp := c) hut hee hml g3 hp hones a6
    have hrel : ∀ (j : Nat) (a : A), (Row.sym row.t (setL old pp ds)).as[j]? = some a → ∃ x, ((arr.toList.take (o2 + pp) ++ news ++ arr.toList.drop (o2 + pp + news.length)).toArray)[o2 + j]? = some x ∧ gA P κ1 a x := by
      intro j a hj
      simp only [Row.as, List.getElem?_map] at hj
      obtain ⟨d, hd, rfl⟩ := Option.map_eq_some_iff.mp hj
      rw [spliced hp]
      rw [setL_at hfit] at hd
      by_cases j1 : j < pp
      · rw [if_pos j1] at hd
        obtain ⟨x, k1, k2⟩ := g6 j d hd
        exact ⟨x, by rw [if_pos (by omega)]; exact k1, k2⟩
      · rw [if_neg j1] at hd
        by_cases j2 : j < pp + ds.length
        · rw [if_pos j2] at hd
          obtain ⟨x, k1, k2⟩ := a8 _ d hd
          exact ⟨x, by rw [if_neg (by omega), if_pos (by omega), show o2 + j - (o2 + pp) = j - pp by omega]; exact k1, k2⟩
        · rw [if_neg j2] at hd
          obtain ⟨x, k1, k2⟩ := g6 j d hd
          exact ⟨x, by rw [if_neg (by omega), if_neg (by omega)]; exact k1, k2⟩
    obtain ⟨κ', q1, q2, q3, q4, q5⟩ := a3.reuse hCid g1 _ (by simp; omega) id o2 (.sym row.t (setL old pp ds)) (.inl ⟨rfl, rfl⟩) rfl (by simp [Row.as, setL_len hfit]; omega) hrel (w.setRow b2 (arr.toList.take (o2 + pp) ++ news ++ arr.toList.drop (o2 + pp + news.length)).toArray) ⟨rfl, rfl, rfl, setRow_size _ _ _⟩ (setRow_heap w b2 arr _ _ (0, 0) g3) (fun k hk => setRow_other _ _ _ _ hk)
    refine ⟨_, κ', _, hr, a1.trans q1, by rw [upd_append]; exact q5, fun k hk => ?_, .inl ⟨_, rfl, gint' _ _⟩⟩
    rw [q3 k (fun e => hk (id, none) (by simp) e.symm), a2]
end
section
variable {P : Program} {w0 : Bs} {κ : Kr} {C : Cs} {w : World} {ρ : Operand → Value} {e : Operand → AV} {ns : List Prop} {av : AV} {us : Us}
def intOf : D → Int
  | .int _ n => n
  | _ => 0
theorem unBy_eq : ∀ {ds : List D}, okBy ds → unBy ds = (ds.map intOf).map fun n => UInt8.ofNat n.toNat
  | [], _ => rfl
  | d :: ds, h => by
    obtain ⟨n, rfl⟩ := h d (by simp)
    show UInt8.ofNat n.toNat :: unBy ds = _
    rw [unBy_eq fun x hx => h x (by simp [hx])]
    rfl
theorem push_all : ∀ (ns : List Int) (s : ByteArray), (ns.foldl (fun r n => r.push (UInt8.ofNat n.toNat)) s) = ⟨(s.data.toList ++ ns.map fun n => UInt8.ofNat n.toNat).toArray⟩
  | [], s => by cases s; simp
  | n :: ns, s => by
    rw [List.foldl_cons, push_all ns]
    congr 1
    simp [ByteArray.push]
theorem s_convBS (hi : Inv P w0 κ C w) (he : ∀ x, gAV P κ (e x) (ρ x)) {g : Cs} (hg : ∀ id row, g id = some row → C id = some row) {src dst : Nat} {x : Operand} (h : mConvBS P e g src dst x = some (ns, av, us)) (hn : all_ ns) :
    Yields P w0 κ C ((do pure (.value (← convert src dst (ρ x))) : Sem Next).run P w) av us := by
  unfold mConvBS at h
  have hx := he x
  split at h <;> try (cases h; done)
  rename_i es y hs ex
  rw [ex] at hx
  split at h <;> try (cases h; done)
  rename_i el hel
  split at h <;> try (cases h; done)
  rename_i hc
  obtain ⟨c1, c2, c3⟩ := hc
  split at h <;> try (cases h; done)
  rename_i n m ds hsrc
  injection h with h; injection h with e1 e2; injection e2 with e2 e3
  subst e1; subst e2; subst e3
  obtain ⟨hn1, hok, _⟩ := all_append hn
  obtain ⟨κ1, B, dp, news, hv, a1, a2, a3, a4, a5, a6, _, a8⟩ := src_sound hsrc hn1 hi hg hx
  obtain ⟨u1, hu1, hu2⟩ := tyIs_spec c1
  obtain ⟨u2, hu3, hu4⟩ := tyIs_spec c2
  rw [isStr_spec hu2] at hu1
  rw [isU8_spec hu4] at hu3
  have hus := (ti_spec hs).1
  rw [isSl_spec hel] at hus
  rw [c3, Nat.mul_one] at a4 a5
  rw [c3] at a6
  have hnews : news = (ds.map intOf).map (Value.int .u8) := by
    apply List.ext_getElem?
    intro j
    rw [List.getElem?_map, List.getElem?_map]
    cases hd : ds[j]? with
    | none =>
      have : news.length ≤ j := by rw [a4, ← a5]; exact List.getElem?_eq_none_iff.mp hd
      rw [List.getElem?_eq_none this]; rfl
    | some d =>
      obtain ⟨v, h1, h2⟩ := a8 j d hd
      obtain ⟨k, rfl⟩ := hok d (List.mem_of_getElem? hd)
      unfold gD at h2
      rw [h1, h2]; rfl
  have hr : (convert src dst (ρ x)).run P w = .ok (.string (ofBy ds)) w := by
    rw [hv, run_convert_bytes_string w src dst el B m dp hus hu3 hu1]
    cases B with
    | none =>
      rw [run_firstCells_none] at a6
      injection a6 with a6
      have : news = [] := by simpa using a6.symm
      rw [this] at a4
      have hds : ds = [] := List.eq_nil_of_length_eq_zero (by rw [a5, ← a4]; rfl)
      rw [hds]
      rfl
    | some a =>
      have h6 : (loadCells a (m * 1)).run P w = .ok news.toArray w := a6
      rw [Nat.mul_one, hnews] at h6
      rw [run_bytesToString w a m dp _ h6, push_all]
      unfold ofBy
      rw [unBy_eq hok]
      rfl
  refine ⟨_, κ, w, ?_, Kr.le.refl κ, hi, fun _ _ => rfl, .inl ⟨_, rfl, gstr' _⟩⟩
  simp [hr]
/-- A block more that never changes. -/
theorem Inv.zalloc (h : Inv P w0 κ C w) {w' : World} {x : Obj} (hw : w'.os = w.os ∧ w'.tape = w.tape ∧ w'.output = w.output ∧ w'.heap.size = w.heap.size + 1) (hold : ∀ b, b < w.heap.size → w'.heap[b]? = w.heap[b]?) (hx : w'.heap[w.heap.size]? = some x) :
    ∃ κ', κ.le κ' ∧ κ'.at_ = κ.at_ ∧ κ'.z w.heap.size = some x ∧ Inv P w0 κ' C w' := by
  have hz : κ.z w.heap.size = none := by
    cases hz : κ.z w.heap.size with
    | none => rfl
    | some y => have := h.zlt hz; omega
  have hle : κ.le ⟨κ.at_, fun b => if b = w.heap.size then some x else κ.z b⟩ := ⟨fun _ _ h => h, fun b y hy => by
    show (if b = w.heap.size then some x else κ.z b) = some y
    rw [if_neg (fun e => by rw [e, hz] at hy; cases hy)]; exact hy⟩
  refine ⟨_, hle, rfl, if_pos rfl, hw.1.trans h.os, hw.2.1.trans h.tape, hw.2.2.1.trans h.output, by have := h.size; rw [hw.2.2.2]; omega, fun b hb hW => ?_, fun b y hy => ?_, fun k r hk => ?_, h.apart, h.own⟩
  · have hb2 : b < w.heap.size := Nat.lt_of_lt_of_le hb h.size
    refine ⟨(hold b hb2).trans (h.base b hb hW).1, fun y hy => (h.base b hb hW).2 y ?_⟩
    change (if b = w.heap.size then some x else κ.z b) = some y at hy
    rwa [if_neg (by omega)] at hy
  · change (if b = w.heap.size then some x else κ.z b) = some y at hy
    split at hy
    · rename_i e
      rw [e, hx]; exact hy
    · rw [hold b (h.zlt hy)]; exact h.z b y hy
  · rcases h.live k r hk with ⟨h1, h2⟩ | ⟨b, o, N, ar, h1, h2, h3, h4, h5, h6⟩
    · exact .inl ⟨h1, h2⟩
    · have hb := block_of h3
      refine .inr ⟨b, o, N, ar, h1, ?_, by rw [hold b hb]; exact h3, h4, h5, fun j a ha => ?_⟩
      · show (if b = w.heap.size then some x else κ.z b) = none
        rw [if_neg (by omega)]; exact h2
      · obtain ⟨v, g1, g2⟩ := h6 j a ha
        exact ⟨v, g1, g2.mono hle⟩
theorem s_convSB (hi : Inv P w0 κ C w) (he : ∀ x, gAV P κ (e x) (ρ x)) {src dst : Nat} {x : Operand} (h : mConvSB P e src dst x = some (ns, av, us)) :
    Yields P w0 κ C ((do pure (.value (← convert src dst (ρ x))) : Sem Next).run P w) av us := by
  unfold mConvSB at h
  have hx := he x
  split at h <;> try (cases h; done)
  rename_i ed s hd ex
  rw [ex] at hx
  have hx2 : ρ x = .string s := gstr hx
  split at h <;> try (cases h; done)
  rename_i el hel
  split at h <;> try (cases h; done)
  rename_i hc
  obtain ⟨c1, c2, c3⟩ := hc
  injection h with h; injection h with e1 e2; injection e2 with e2 e3
  subst e1; subst e2; subst e3
  obtain ⟨u1, hu1, hu2⟩ := tyIs_spec c1
  obtain ⟨u2, hu3, hu4⟩ := tyIs_spec c2
  rw [isU8_spec hu4] at hu3
  have hud := (ti_spec hd).1
  rw [isSl_spec hel] at hud
  have hr := Lib.run_convert_string_bytes w src dst el s hu1 hud hu3
  obtain ⟨κ', k1, k2, k3, k4⟩ := hi.zalloc (w' := Lib.bytesWorld w el s) ⟨rfl, rfl, rfl, Lib.bytesWorld_size w el s⟩ (fun b hb => Lib.bytesWorld_at_old w el s b hb) (Lib.bytesWorld_at_new w el s)
  refine ⟨_, κ', _, by simp [hx2, hr]; rfl, k1, k4, fun k hk => by rw [k2], .inl ⟨_, rfl, ?_⟩⟩
  show gD P κ'.z (.list el s.size (byD s)) _
  unfold gD
  refine ⟨_, _, rfl, grownCap_ge w s.size 0 el, by rw [c3, Nat.mul_one, byD_len], .inr ⟨_, 0, _, _, _, rfl, k3, gDs.of fun j d hj => ?_⟩⟩
  obtain ⟨b, hb, rfl⟩ := byD_at hj
  have hlt : j < s.data.size := (Array.getElem?_eq_some_iff.mp hb).1
  refine ⟨.int .u8 b.toNat, ?_, by unfold gD; rfl⟩
  rw [List.drop_zero]
  unfold Lib.bytesCells
  rw [Array.getElem?_toList, Array.getElem?_append_left (by simpa using hlt), Array.getElem?_map, hb]
  rfl
theorem s_conv (hi : Inv P w0 κ C w) (he : ∀ x, gAV P κ (e x) (ρ x)) {g : Cs} (hg : ∀ id row, g id = some row → C id = some row) {src dst : Nat} {x : Operand} (h : mConv P e g src dst x = some (ns, av, us)) (hn : all_ ns) :
    Yields P w0 κ C ((do pure (.value (← convert src dst (ρ x))) : Sem Next).run P w) av us := by
  unfold mConv at h
  split at h
  · rename_i r hr; injection h with h; subst h; exact s_convI hi he hr hn
  · split at h
    · rename_i r hr; injection h with h; subst h; exact s_convBS hi he hg hr hn
    · exact s_convSB hi he h
end
def mOp (P : Program) (op : Op) (e : Operand → AV) (g : Cs) (nb : Nat) : R :=
  match op with
  | .move x => some ([], e x, [])
  | .assign x => some ([], e x, [])
  | .pick c a b => mPick e c a b
  | .alloc t => mAlloc P t nb
  | .build t ps => mBuild P e t ps
  | .buildSlice t n ps => mBuildSlice P e t n ps nb
  | .load t x => match mLoad P e g t x with | some r => some r | none => mLoadF P e g t x
  | .store t x y => mStore P e g t x y
  | .binOp op t x y _ => match mEq P e op t x y with | some r => some r | none => mBin P e op t x y
  | .unOp op _ x => mUn e op x
  | .convert s d x => mConv P e g s d x
  | .makeSlice t l c => mMake P e t l c nb
  | .slice t x lo hi mx => mSlice P e t x lo hi mx
  | .fieldAddr s x f => mFieldAddr P e s x f
  | .field s x f => mField P e s x f
  | .indexAddr t x i => mIndexAddr P e t x i
  | .index t x i => mIndex P e t x i
  | .extract x i => mExtract e x i
  | .call ⟨.builtin .len, args, ts⟩ => mLen P ts (args.toList.map e)
  | .call ⟨.builtin .append, args, ts⟩ => match mAppend P g ts (args.toList.map e) nb with | some r => some r | none => mAppendF P g ts (args.toList.map e) nb
  | .call ⟨.builtin .copy, args, ts⟩ => mCopy P g ts (args.toList.map e)
  | .call ⟨.builtin .min, args, ts⟩ => mMM false (args.toList.map e)
  | .call ⟨.builtin .max, args, ts⟩ => mMM true (args.toList.map e)
  | .box t x => mBox e t x nb
  | _ => none
section
variable {P : Program} {w0 : Bs} {κ : Kr} {C : Cs} {w : World} {ρ : Operand → Value} {e : Operand → AV} {ns : List Prop} {av : AV} {us : Us} {o : Oper}
theorem args_map (he : ∀ x, gAV P κ (e x) (ρ x)) (args : Array Operand) : ∀ (i : Nat) (a : AV), (args.toList.map e)[i]? = some a → ∃ v, (args.map ρ)[i]? = some v ∧ gAV P κ a v := by
  intro i a h
  rw [List.getElem?_map] at h
  cases hx : args.toList[i]? with
  | none => rw [hx] at h; cases h
  | some x =>
    rw [hx] at h
    injection h with h
    subst h
    rw [Array.getElem?_toList] at hx
    exact ⟨ρ x, by simp [hx], he x⟩
/-- It makes a row. -/
def isNew : Op → Bool
  | .alloc _ => true
  | .buildSlice _ _ _ => true
  | .makeSlice _ _ _ => true
  | .box _ _ => true
  | .call ⟨.builtin .append, _, _⟩ => true
  | _ => false
theorem mOp_sound (hi : Inv P w0 κ C w) (he : ∀ x, gAV P κ (e x) (ρ x)) {g : Cs} (hg : ∀ id row, g id = some row → C id = some row) {nb : Nat} (h : mOp P o.op e g nb = some (ns, av, us)) (hn : all_ ns) (hnew : isNew o.op = true → C nb = none ∧ κ.at_ nb = none) :
    Yields P w0 κ C ((execOp ρ o).run P w) av us := by
  unfold mOp at h
  unfold execOp
  split at h
  all_goals try (cases h; done)
  all_goals
    rename_i hop
    rw [hop] at hnew
    rw [hop]
    simp only
  · injection h with h; injection h with e1 e2; injection e2 with e2 e3
    subst e1; subst e2; subst e3
    exact .val hi (he _)
  · injection h with h; injection h with e1 e2; injection e2 with e2 e3
    subst e1; subst e2; subst e3
    exact .val hi (he _)
  · exact s_pick hi he h
  · exact s_alloc hi h (hnew rfl).1 (hnew rfl).2
  · exact s_build hi he h
  · exact s_buildSlice hi he h (hnew rfl).1 (hnew rfl).2
  · split at h
    · rename_i r hr
      injection h with h; subst h
      exact s_load hi he hg hr hn
    · exact s_loadF hi he hg h hn
  · exact s_store hi he hg h hn
  · split at h
    · rename_i r hr; injection h with h; subst h; exact s_eq hi he hr
    · exact s_bin hi he h hn
  · exact s_un hi he h hn
  · exact s_conv hi he hg h hn
  · exact s_make hi he h hn (hnew rfl).1 (hnew rfl).2
  · exact s_slice hi he h hn
  · exact s_fieldAddr hi he h
  · exact s_field hi he h
  · exact s_indexAddr hi he h hn
  · exact s_index hi he h hn
  · exact s_extract hi he h
  · exact s_len hi (args_map he _) (by simp) h
  · split at h
    · rename_i r hr
      injection h with h; subst h
      exact s_append hi hg (args_map he _) (by simp) hr hn (hnew rfl).1 (hnew rfl).2
    · exact s_appendF hi hg (args_map he _) (by simp) h hn (hnew rfl).1 (hnew rfl).2
  · exact s_copy hi hg (args_map he _) (by simp) h hn
  · exact s_min hi (args_map he _) (by simp) h
  · exact s_max hi (args_map he _) (by simp) h
  · exact s_box hi he h (hnew rfl).1 (hnew rfl).2
end
end Go.Proofs.Ytjleempapphlhab.Mini
end
