/- Types of drawn values: the table of a program, the reader; what a draw yields, in plain words. -/
import Derived.Test.YtgoheolehnahkaaTyp2
import Derived.Test.YtgoheolehnahkaaDraw
import Derived.Test.YtgoheolehnahkaaLists
namespace Go.Proofs.Ytgoheolehnahkaa.Typ
open Go Go.RowKit
set_option maxRecDepth 20000
set_option linter.unusedVariables false

/-- What numbers and texts in rows may be. -/
structure Bd where
  lo : Int
  hi : Int
  m : Nat
def tiOf (P : Program) (t : Nat) (l : Option (List At)) : Option TI :=
  match P.underlying (real t), P.info? (real t), l with
  | some d, some i, some cells => match i.zero with
    | some z => if 0 < i.size ∧ cells.length = i.size ∧ z.cells.size = i.size ∧ leqs (z.cells.toList.map absV) cells = true ∧ z.cells.all (·.oneCell') = true then some ⟨d, i.size, i.bytes, z, cells⟩ else none
    | none => none
  | _, _, _ => none
def cellsOf (P : Program) (β : Bd) : Nat → Nat → Option (List At)
  | 0, _ => none
  | f + 1, t => match P.underlying t with
    | some (.int .i64) => some [.int .i64 β.lo β.hi]
    | some (.int .u8) => some [.int .u8 0 255]
    | some .bool => some [.bool none]
    | some .string => some [.str β.m]
    | some (.slice el) => some [.sliceQ el 0]
    | some (.struct fs) => fs.toList.foldr (fun fd acc => match cellsOf P β f fd.type, acc with | some a, some b => some (a ++ b) | _, _ => none) (some [])
    | _ => none
/-- Rows of numbers within narrow bounds. -/
def altAt (P : Program) (t k : Nat) : Option (List At) :=
  match P.underlying (real t) with
  | some (.int .i64) => if k ≤ 16 then some [.int .i64 0 k] else if k = 17 then some [.int .i64 0 255] else if k = 18 then some [.int .i64 0 65536] else if k = 19 then some [.int .i64 0 1000000] else if k = 20 then some [.int .i64 0 1000000000] else if k = 21 then some [.int .i64 (-1000000000) 1000000000] else none
  | _ => none
def tabOf (P : Program) (β : Bd) : Tab := fun t => tiOf P t (if t / 1000 = 0 then cellsOf P β 6 t else altAt P t (t / 1000))
theorem tabOf_spec {P : Program} {β : Bd} {t : Nat} {e : TI} (h : (tabOf P β).get t = some e) :
    P.underlying (real t) = some e.und ∧ (∃ i, P.info? (real t) = some i ∧ i.size = e.size ∧ i.bytes = e.bytes ∧ i.zero = some e.zero) ∧ 0 < e.size ∧ e.cells.length = e.size ∧ e.zero.cells.size = e.size ∧
    leqs (e.zero.cells.toList.map absV) e.cells = true ∧ e.zero.cells.all (·.oneCell') = true := by
  unfold Tab.get tabOf tiOf at h
  split at h <;> try (cases h; done)
  rename_i d i cells h1 h2 h3
  split at h <;> try (cases h; done)
  rename_i z hz
  split at h <;> try (cases h; done)
  rename_i hc
  injection h with h; subst h
  exact ⟨h1, ⟨i, h2, rfl, rfl, hz⟩, hc⟩

section
variable {w : World} {top g q : Nat}
theorem RdT.lt (h : RdT top w g q) : g < w.heap.size := by
  obtain ⟨ao, len, cap, p, hg, _⟩ := h
  exact (Array.getElem?_eq_some_iff.mp hg).1
theorem RdT.mono' {q' : Nat} (h : RdT top w g q) (hq : q ≤ q') : RdT top w g q' := by
  obtain ⟨ao, len, cap, p, hg, hp, r⟩ := h
  exact ⟨ao, len, cap, p, hg, by omega, r⟩
theorem cell_same {w w' : World} {b i : Nat} (h : w'.heap[b]? = w.heap[b]?) : w'.cell? ⟨b, i, none⟩ = w.cell? ⟨b, i, none⟩ := by simp only [World.cell?, h]
theorem Bytes.same {w w' : World} {ao : Option Addr} {len : Nat} (hb : Bytes w ao len top) (h : ∀ b, b < top → w'.heap[b]? = w.heap[b]?) : Bytes w' ao len top := by
  rcases hb with hb | ⟨b, off, h1, h2, h3⟩
  · exact .inl hb
  · refine .inr ⟨b, off, h1, h2, fun i hi => ?_⟩
    obtain ⟨z, z0, z1, hz⟩ := h3 i hi
    exact ⟨z, z0, z1, (cell_same (h b h2)).trans hz⟩
theorem RdT.keep {w' : World} (h : RdT top w g q) (hg : w'.heap[g]? = w.heap[g]?) (hb : ∀ b, b < top → w'.heap[b]? = w.heap[b]?) : RdT top w' g q := by
  obtain ⟨ao, len, cap, p, h1, h2, h3, h4⟩ := h
  exact ⟨ao, len, cap, p, hg.trans h1, h2, h3, Bytes.same h4 hb⟩
end

def envOf (P : Program) (β : Bd) (w : World) (ao : Option Addr) (len cap : Nat) : Env := ⟨P, tabOf P β, w, .slice ao len cap, RdT w.heap.size⟩
theorem envOk (P : Program) (β : Bd) (w : World) (ao : Option Addr) (len cap : Nat) : EnvOk (envOf P β w ao len cap) where
  types' := fun t e h => ⟨(tabOf_spec h).1, (tabOf_spec h).2.1⟩
  sizes' := fun t e h => ⟨(tabOf_spec h).2.2.1, (tabOf_spec h).2.2.2.1, (tabOf_spec h).2.2.2.2.1⟩
  zeros' := fun t e h κ => (gList_absV _).leqs (tabOf_spec h).2.2.2.2.2.1
  ones' := fun t e h => (tabOf_spec h).2.2.2.2.2.2
  rdLt := fun w g q h => RdT.lt h
  rdMono := fun w g q q' h hq => RdT.mono' h hq
  rdKeep := fun w w' g q h hg hb => RdT.keep h hg hb

/-- Nothing was drawn yet. -/
def Kr.none_ : Kr := ⟨fun _ => none, fun _ => False, 0⟩
theorem inv0 (P : Program) (β : Bd) (w : World) (ao : Option Addr) (len cap : Nat) : Inv (envOf P β w ao len cap) Kr.none_ 0 w :=
  ⟨rfl, rfl, rfl, Nat.le_refl _, fun _ _ => rfl, fun b t N h => (by cases h), ⟨Nat.le_refl _, Nat.zero_le _⟩, fun g h => False.elim h⟩

def fPick : List AV → Option (AV × Nat)
  | [.v (.one .rd), .v (.one (.int .i64 a b))] => if 1 ≤ a ∧ b ≤ 2147483647 then some (.v (.one (.int .i64 0 (b - 1))), 1) else none
  | _ => none
def fOpen : List AV → Option (AV × Nat)
  | [.v (.one .code)] => some (.v (.one .rd), 0)
  | _ => none
def fns0 : Fns := fun f args =>
  if f = 53 then fPick args else if f = 40 then fOpen args else none
theorem fns0_ok2 (β : Bd) (w : World) (ao : Option Addr) (len cap : Nat) (hlc : len ≤ cap) (hb : Bytes w ao len w.heap.size) : FnsOk (envOf Try.prog β w ao len cap) fns0 := by
  intro f args av c h
  unfold fns0 at h
  split at h
  · rename_i e
    subst e
    refine ⟨⟨_, Try.func53, rfl, rfl⟩, fun κ q w1 vs hq hi hl hg => ?_⟩
    unfold fPick at h
    split at h <;> try (cases h; done)
    rename_i a b
    split at h <;> try (cases h; done)
    rename_i hab
    injection h with h
    injection h with h1 h2
    subst h1; subst h2
    obtain ⟨v0, e0, g, g1, rfl⟩ := hg 0 _ rfl
    obtain ⟨v1, e1, n, rfl, n1, n2⟩ := hg 1 _ rfl
    obtain rfl : vs = #[.pointer (some ⟨g, 0, none⟩), .int .i64 n] := by
      apply Array.ext (by simpa using hl)
      intro i h1 h2
      rcases (show i = 0 ∨ i = 1 by simp at h2; omega) with rfl | rfl
      · rw [Array.getElem?_eq_getElem h1] at e0; injection e0
      · rw [Array.getElem?_eq_getElem h1] at e1; injection e1
    obtain ⟨hg0, hr⟩ := hi.rd g g1
    refine (pick_top w1 g q w.heap.size n hg0 hr (by unfold qMax at hq; omega) (by omega) (by omega)).mono ?_
    rintro e w2 ⟨x, x0, x1, rfl, hr2, hgr⟩
    have hbl : ∀ b, b < w1.heap.size → b ≠ g → w2.heap[b]? = w1.heap[b]? := fun b hb hne => hgr.block b hb (fun e => hne (Option.some.inj e))
    have hs := hi.size
    refine ⟨κ, _, rfl, Kr.le.refl κ, ⟨hgr.os.trans hi.os, hgr.tape.trans hi.tape, hgr.output.trans hi.output, Nat.le_trans hi.size hgr.size, fun b hb => ?_, fun b t N hbt => ?_, ⟨Nat.le_trans hi.c.1 (Nat.le_succ _), hi.c.2⟩, fun g' hg' => ?_⟩, x, rfl, x0, by omega⟩
    · have hb' : b < w.heap.size := hb
      change w.heap.size ≤ g at hg0
      change w.heap.size ≤ w1.heap.size at hs
      exact (hbl b (by omega) (by omega)).trans (hi.base b hb)
    · obtain ⟨r1, r2, cc, r3, r4⟩ := hi.rows b t N hbt
      refine ⟨r1, r2, cc, ?_, r4⟩
      rw [hbl b (Array.getElem?_eq_some_iff.mp r3).1 (fun e => r2 (e ▸ g1))]
      exact r3
    · obtain ⟨s1, s2⟩ := hi.rd g' hg'
      refine ⟨s1, ?_⟩
      by_cases hgg : g' = g
      · subst hgg; exact hr2
      · refine RdT.mono' (q := q) (RdT.keep s2 (hbl g' (RdT.lt s2) hgg) (fun b hb => ?_)) (Nat.le_succ _)
        change w.heap.size ≤ g at hg0
        change w.heap.size ≤ w1.heap.size at hs
        exact hbl b (by omega) (by omega)
  split at h
  · rename_i e
    subst e
    refine ⟨⟨_, Try.func40, rfl, rfl⟩, fun κ q w1 vs hq hi hl hg => ?_⟩
    unfold fOpen at h
    split at h <;> try (cases h; done)
    injection h with h
    injection h with h1 h2
    subst h1; subst h2
    obtain ⟨v0, e0, hv⟩ := hg 0 _ rfl
    obtain rfl : v0 = .slice ao len cap := hv
    obtain rfl : vs = #[.slice ao len cap] := by
      apply Array.ext (by simpa using hl)
      intro i h1 h2
      obtain rfl : i = 0 := by simp at h2; omega
      rw [Array.getElem?_eq_getElem h1] at e0; injection e0
    have hs : w.heap.size ≤ w1.heap.size := hi.size
    have hbase : ∀ b, b < w.heap.size → w1.heap[b]? = w.heap[b]? := hi.base
    refine (open_top w1 ao len cap w.heap.size hlc hs (Bytes.same hb hbase)).mono ?_
    rintro e w2 ⟨rfl, hr2, hbel⟩
    have hle : κ.le ⟨κ.Γ, fun g => κ.G g ∨ g = w1.heap.size, κ.c⟩ := ⟨fun _ _ h => h, fun _ h => .inl h, Nat.le_refl _⟩
    refine ⟨⟨κ.Γ, fun g => κ.G g ∨ g = w1.heap.size, κ.c⟩, _, rfl, hle, ⟨hbel.os.trans hi.os, hbel.tape.trans hi.tape, hbel.output.trans hi.output, Nat.le_trans hi.size hbel.size, fun b hb => ?_, fun b t N hbt => ?_, hi.c, fun g' hg' => ?_⟩, _, .inr rfl, rfl⟩
    · have hb' : b < w.heap.size := hb
      exact (hbel.block b (by omega)).trans (hi.base b hb)
    · obtain ⟨r1, r2, cc, r3, r4, r5⟩ := hi.rows b t N hbt
      have hlt := (Array.getElem?_eq_some_iff.mp r3).1
      refine ⟨r1, fun hh => ?_, cc, (hbel.block b hlt).trans r3, r4, fun i x hx => ?_⟩
      · rcases hh with hh | hh
        · exact r2 hh
        · omega
      · obtain ⟨a, h6, h7⟩ := r5 i x hx
        exact ⟨a, h6, h7.mono hle⟩
    · rcases hg' with hg' | rfl
      · obtain ⟨s1, s2⟩ := hi.rd g' hg'
        exact ⟨s1, RdT.mono' (q := q) (RdT.keep s2 (hbel.block g' (RdT.lt s2)) (fun b hb => hbel.block b (by omega))) (Nat.le_add_right _ _)⟩
      · exact ⟨hs, RdT.mono' hr2 (Nat.zero_le _)⟩
  · cases h
end Go.Proofs.Ytgoheolehnahkaa.Typ

namespace Go.Proofs.Ytgoheolehnahkaa.Typ
open Go Go.RowKit
set_option linter.unusedVariables false

section
variable {E : Env} {κ : Kr} {q : Nat} {w : World}
theorem envOf_P (P : Program) (β : Bd) (w : World) (ao : Option Addr) (len cap : Nat) : (envOf P β w ao len cap).P = P := rfl
theorem envOf_T (P : Program) (β : Bd) (w : World) (ao : Option Addr) (len cap : Nat) : (envOf P β w ao len cap).T = tabOf P β := rfl
theorem mixed3 : Try.prog.follows .mixedOrders = true := by kernel_rfl
/-- A function that draws: what it yields by its text. -/
theorem fns0_ok (β : Bd) (w : World) (ao : Option Addr) (len cap : Nat) (hlc : len ≤ cap) (hc : cap ≤ maxLen) (hb : Bytes w ao len w.heap.size) : FnsOk (envOf Try.prog β w ao len cap) fns0 := fns0_ok2 β w ao len cap hlc hb
theorem draw_call {β : Bd} {w : World} {ao : Option Addr} {len cap M fuel f : Nat} {F : Fns} {fn : Func} {av : AV} (hF : FnsOk (envOf Try.prog β w ao len cap) F)
    (hf : Try.prog.funcs[f]? = some fn) (hM : M ≤ qMax) (h : absFunc (tabOf Try.prog β) F M fuel fn [.v (.one .code)] = some av) :
    Calls Try.prog f #[.slice ao len cap] w fun e w' => ∃ κ v, e = .returned v ∧ Inv (envOf Try.prog β w ao len cap) κ M w' ∧ gAV (envOf Try.prog β w ao len cap) κ av v ∧ Below w.heap.size w w' := by
  have hE := envOk Try.prog β w ao len cap
  have hm : (envOf Try.prog β w ao len cap).P.follows .mixedOrders = true := by rw [envOf_P]; exact mixed3
  rw [← envOf_P Try.prog β w ao len cap] at hf
  rw [← envOf_T Try.prog β w ao len cap] at h
  refine (func_sound (q := 0) hE hE.rdMono hm hF hf h (vs := #[.slice ao len cap]) (by omega) (inv0 _ _ _ _ _ _) rfl (fun i a ha => ?_)).mono ?_
  · cases i with
    | zero => simp at ha; subst ha; exact ⟨_, rfl, rfl⟩
    | succ i => simp at ha
  · rintro e w' ⟨κ', v, rfl, _, h2, h3⟩
    exact ⟨κ', v, rfl, by simpa using h2, h3, ⟨h2.os, h2.tape, h2.output, h2.size, h2.base⟩⟩
theorem Fits.chunks {t s : Nat} (hs : E.sz t = s) (hp : 0 < s) (hc : (E.cells t).length = s) : ∀ (n : Nat) (cs : List Value), cs.length = n * s → Fits E κ t cs →
    ∃ L : List (List Value), L.length = n ∧ cs = L.flatten ∧ ∀ c ∈ L, gList E κ (E.cells t) c
  | 0, cs, hl, _ => ⟨[], rfl, by simpa using hl, fun c hc => by simp at hc⟩
  | n + 1, cs, hl, hf => by
    rw [Nat.succ_mul] at hl
    obtain ⟨L, h1, h2, h3⟩ := Fits.chunks hs hp hc n (cs.drop s) (by rw [List.length_drop]; omega) (fun i x hx => by
      rw [List.getElem?_drop] at hx
      obtain ⟨a, g1, g2⟩ := hf _ x hx
      refine ⟨a, ?_, g2⟩
      rw [← g1, hs, Nat.add_mod_left])
    refine ⟨cs.take s :: L, by simp [h1], by rw [List.flatten_cons, ← h2, List.take_append_drop], fun c hcm => ?_⟩
    rcases List.mem_cons.mp hcm with rfl | hcm
    · refine gList.of (by rw [List.length_take]; omega) (fun i a v ha hv => ?_)
      have hi : i < s := by
        have := (List.getElem?_eq_some_iff.mp ha).1
        omega
      rw [List.getElem?_take_of_lt hi] at hv
      obtain ⟨a', g1, g2⟩ := hf i v hv
      rw [hs, Nat.mod_eq_of_lt hi, ha] at g1
      injection g1 with g1
      subst g1
      exact g2
    · exact h3 c hcm
/-- A list that was drawn: its elements. -/
theorem list_of (hE : EnvOk E) (hi : Inv E κ q w) {α : Type} {C : α → List Value} {P : α → Prop} {t : Nat} {e : TI} (he : E.T.get t = some e)
    (hα : ∀ c, gList E κ e.cells c → ∃ p, c = C p ∧ P p) {A : Option Addr} {n c : Nat} (hn : n ≤ c)
    (h5 : (A = none ∧ c = 0) ∨ ∃ b k N, A = some ⟨b, k * E.sz t, none⟩ ∧ κ.Γ b = some (t, N) ∧ k + c ≤ N) :
    ∃ hs : List α, hs.length = n ∧ Sees w w.heap.size e.size A n (flat C hs) ∧ ∀ p ∈ hs, P p := by
  obtain ⟨s1, s2, s3⟩ := hE.sizes' t e he
  have hsz := Env.sz_of' he
  have hcl := Env.cells_of' he
  have hcs : ∃ cs : List Value, cs.length = n * e.size ∧ Fits E κ t cs ∧ (0 < n → ∃ b off, A = some ⟨b, off, none⟩ ∧ b < w.heap.size ∧ ∀ j u, cs[j]? = some u → w.cell? ⟨b, off + j, none⟩ = some u) := by
    rcases h5 with ⟨rfl, rfl⟩ | ⟨b, k, N, rfl, h6, h7⟩
    · obtain rfl : n = 0 := by omega
      exact ⟨[], by simp, fun i x hx => by simp at hx, fun h => absurd h (by omega)⟩
    · obtain ⟨cs, h8, h9, h10⟩ := hi.elems h6 h7 hn (by rw [hsz]; exact s1)
      obtain ⟨_, _, cc, r3, _⟩ := hi.rows b t N h6
      refine ⟨cs, by rw [h8, hsz], h10, fun _ => ⟨b, _, rfl, (Array.getElem?_eq_some_iff.mp r3).1, fun j u hu => ?_⟩⟩
      have := h9 j u hu
      rw [addr_add] at this
      exact this
  obtain ⟨cs, h1, h2, h3⟩ := hcs
  obtain ⟨L, l1, l2, l3⟩ := Fits.chunks hsz s1 (by rw [hcl]; exact s2) n cs h1 h2
  have hL : ∀ L : List (List Value), (∀ c ∈ L, gList E κ (E.cells t) c) → ∃ hs : List α, hs.length = L.length ∧ L.flatten = flat C hs ∧ ∀ p ∈ hs, P p := by
    intro L
    induction L with
    | nil => exact fun _ => ⟨[], rfl, rfl, fun p hp => by simp at hp⟩
    | cons c L ih =>
      intro h
      obtain ⟨hs, g1, g2, g3⟩ := ih (fun c hc => h c (List.mem_cons_of_mem _ hc))
      obtain ⟨p, g4, g5⟩ := hα c (by rw [← hcl]; exact h c (List.mem_cons_self))
      refine ⟨p :: hs, by simp [g1], ?_, fun r hr => ?_⟩
      · rw [List.flatten_cons, g2, g4]; rfl
      · rcases List.mem_cons.mp hr with rfl | hr
        · exact g5
        · exact g3 r hr
  obtain ⟨hs, g1, g2, g3⟩ := hL L l3
  refine ⟨hs, by rw [g1, l1], ⟨?_, fun hn => ?_⟩, g3⟩
  · rw [← g2, ← l2, h1]
  · obtain ⟨b, off, r1, r2, r3⟩ := h3 hn
    exact ⟨b, off, r1, r2, fun j u hu => r3 j u (by rw [l2, g2]; exact hu)⟩
theorem tab_get {T : Tab} {t s : Nat} {l : List At} (h : (T.get t).map (fun e => (e.size, e.cells)) = some (s, l)) : ∃ e, T.get t = some e ∧ e.size = s ∧ e.cells = l := by
  cases hx : T.get t with
  | none => rw [hx] at h; cases h
  | some e =>
    rw [hx] at h
    injection h with h
    injection h with h1 h2
    exact ⟨e, rfl, h1, h2⟩
theorem gList.uncons {a : At} {l : List At} {vs : List Value} (h : gList E κ (a :: l) vs) : ∃ v vs', vs = v :: vs' ∧ gAt E κ a v ∧ gList E κ l vs' := by
  cases vs with
  | nil => exact h.elim
  | cons v vs => exact ⟨v, vs, rfl, h.1, h.2⟩
theorem gList.unnil {vs : List Value} (h : gList E κ [] vs) : vs = [] := by
  cases vs with
  | nil => rfl
  | cons v vs => exact h.elim
theorem gV1s.uncons {a : V1} {l : List V1} {vs : List Value} (h : gV1s E κ (a :: l) vs) : ∃ v vs', vs = v :: vs' ∧ gV1 E κ a v ∧ gV1s E κ l vs' := by
  cases vs with
  | nil => exact h.elim
  | cons v vs => exact ⟨v, vs, rfl, h.1, h.2⟩
theorem gV1s.unnil {vs : List Value} (h : gV1s E κ [] vs) : vs = [] := by
  cases vs with
  | nil => rfl
  | cons v vs => exact h.elim
theorem str_of {m : Nat} {v : Value} (h : gAt E κ (.str m) v) : ∃ s : ByteArray, v = .string s ∧ s.size ≤ m := h
theorem int_of {k : IntKind} {lo hi : Int} {v : Value} (h : gAt E κ (.int k lo hi) v) : ∃ n : Int, v = .int k n ∧ lo ≤ n ∧ n ≤ hi := h
end
section
variable {E : Env} {κ : Kr} {q : Nat} {w w' : World}
/-- Calls that leave all that was. -/
theorem Inv.below (hE : EnvOk E) (h : Inv E κ q w) (hb : Below w.heap.size w w') : Inv E κ q w' := by
  refine ⟨hb.os.trans h.os, hb.tape.trans h.tape, hb.output.trans h.output, Nat.le_trans h.size hb.size, fun b hb0 => ?_, fun b t N hbt => ?_, h.c, fun g hg => ?_⟩
  · have := h.size
    exact (hb.block b (by omega)).trans (h.base b hb0)
  · obtain ⟨r1, r2, cc, r3, r4⟩ := h.rows b t N hbt
    exact ⟨r1, r2, cc, (hb.block b (Array.getElem?_eq_some_iff.mp r3).1).trans r3, r4⟩
  · obtain ⟨r1, r2⟩ := h.rd g hg
    have := h.size
    exact ⟨r1, hE.rdKeep w w' g q r2 (hb.block g (hE.rdLt _ _ _ r2)) (fun b hb0 => hb.block b (by omega))⟩
/-- One function more, whose answer holds no memory. -/
def Fns.put (F : Fns) (f : Nat) (g : List AV → Option AV) : Fns := fun k args => if k = f then (match g args with | some av => some (av, 0) | none => none) else F k args
theorem Fns.put_ok {F : Fns} {f : Nat} {g : List AV → Option AV} (hE : EnvOk E) (hF : FnsOk E F) (hfn : ∃ fn, E.P.funcs[f]? = some fn ∧ (fn.name == "runtime.NumGoroutine") = false ∧ fn.body.isNone = false)
    (hc : ∀ args av, g args = some av → ∀ κ (w : World) (vs : Array Value), vs.size = args.length → (∀ (i : Nat) (a : AV), args[i]? = some a → ∃ v, vs[i]? = some v ∧ gAV E κ a v) →
      Calls E.P f vs w fun e w' => ∃ v, e = .returned v ∧ gAV E κ av v ∧ Below w.heap.size w w') : FnsOk E (F.put f g) := by
  intro k args av c h
  unfold Fns.put at h
  split at h
  · rename_i e
    subst e
    split at h <;> try (cases h; done)
    rename_i av' hg
    injection h with h
    injection h with h1 h2
    subst h1; subst h2
    refine ⟨hfn, fun κ q w vs hq hi hl ha => (hc args av' hg κ w vs hl ha).mono ?_⟩
    rintro e w' ⟨v, rfl, hv, hb⟩
    exact ⟨κ, v, rfl, Kr.le.refl κ, hi.below hE hb, hv⟩
  · exact hF k args av c h
theorem args_one {vs : Array Value} {v : Value} (hl : vs.size = 1) (h : vs[0]? = some v) : vs = #[v] := by
  apply Array.ext (by simpa using hl)
  intro i h1 h2
  obtain rfl : i = 0 := by simp at h2; omega
  rw [Array.getElem?_eq_getElem h1] at h; injection h
end
end Go.Proofs.Ytgoheolehnahkaa.Typ
