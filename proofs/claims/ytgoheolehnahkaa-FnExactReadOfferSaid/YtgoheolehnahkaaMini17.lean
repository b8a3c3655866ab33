/- Exact values: what was drawn, by its type. -/
import Derived.Test.YtgoheolehnahkaaMini16
import Derived.Test.YtgoheolehnahkaaTyp3
namespace Go.Proofs.Ytgoheolehnahkaa.Mini
open Go Go.RowKit
set_option linter.unusedVariables false
set_option maxRecDepth 20000

/-- A value is of a type that was drawn. -/
def fitsAt (T : Typ.Tab) : Nat → Typ.At → D → Prop
  | _, .int k lo hi, d => ∃ n : Int, d = .int k n ∧ lo ≤ n ∧ n ≤ hi
  | _, .bool _, d => ∃ b, d = .bool b
  | _, .str m, d => ∃ s : ByteArray, d = .str s ∧ s.size ≤ m
  | f + 1, .slice t lo hi, d => ∃ n cs e, d = .list (Typ.real t) n cs ∧ lo ≤ n ∧ n ≤ hi ∧ T t = some e ∧ cs.length = n * e.size ∧ ∀ (i : Nat) (x : D), cs[i]? = some x → ∃ a, e.cells[i % e.size]? = some a ∧ fitsAt T f a x
  | f + 1, .sliceQ t k, d => ∃ n cs e, d = .list (Typ.real t) n cs ∧ n ≤ 900000 + k ∧ T t = some e ∧ cs.length = n * e.size ∧ ∀ (i : Nat) (x : D), cs[i]? = some x → ∃ a, e.cells[i % e.size]? = some a ∧ fitsAt T f a x
  | _, _, _ => False
/-- Only numbers, truths, texts and lists of such. -/
def plainA (P : Program) (T : Typ.Tab) : Nat → Typ.At → Bool
  | _, .int .. => true
  | _, .bool _ => true
  | _, .str _ => true
  | f + 1, .slice t _ _ => match T t with
    | some e => sz P (Typ.real t) == e.size && e.cells.length == e.size && decide (0 < e.size) && e.cells.all (plainA P T f)
    | none => false
  | f + 1, .sliceQ t _ => match T t with
    | some e => sz P (Typ.real t) == e.size && e.cells.length == e.size && decide (0 < e.size) && e.cells.all (plainA P T f)
    | none => false
  | _, _ => false
theorem choose_list {R : Nat → D → Prop} : ∀ n, (∀ j, j < n → ∃ d, R j d) → ∃ cs : List D, cs.length = n ∧ ∀ (j : Nat) (d : D), cs[j]? = some d → R j d
  | 0, _ => ⟨[], rfl, fun j d hj => by simp at hj⟩
  | n + 1, h => by
    obtain ⟨cs, h1, h2⟩ := choose_list n (fun j hj => h j (by omega))
    obtain ⟨d, hd⟩ := h n (by omega)
    refine ⟨cs ++ [d], by simp [h1], fun j x hx => ?_⟩
    by_cases hj : j < n
    · rw [List.getElem?_append_left (by omega)] at hx; exact h2 j x hx
    · rw [List.getElem?_append_right (by omega)] at hx
      have hlt := (List.getElem?_eq_some_iff.mp hx).1
      have e : j = n := by simp at hlt; omega
      rw [show j - cs.length = 0 by omega] at hx
      simp at hx
      rw [e, ← hx]; exact hd
/-- The blocks that are new. -/
def zTop (top : Nat) (w : World) : Nat → Option Obj := fun b => if b < top then none else w.heap[b]?
section
variable {E : Typ.Env} {κ : Typ.Kr} {q : Nat} {w : World}
theorem slice_ok (hE : Typ.EnvOk E) (hi : Typ.Inv E κ q w) {f t n c : Nat} {A : Option Addr} {e : Typ.TI} (ih : ∀ (a : Typ.At) (v : Value), plainA E.P E.T f a = true → Typ.gAt E κ a v → ∃ d, fitsAt E.T f a d ∧ gD E.P (zTop E.w0.heap.size w) d v)
    (hT : E.T t = some e) (hsz : sz E.P (Typ.real t) = e.size) (hcl : e.cells.length = e.size) (hp : 0 < e.size) (hall : e.cells.all (plainA E.P E.T f) = true) (hn : n ≤ c)
    (h5 : (A = none ∧ c = 0) ∨ ∃ b k N, A = some ⟨b, k * E.sz t, none⟩ ∧ κ.Γ b = some (t, N) ∧ k + c ≤ N) :
    ∃ cs : List D, cs.length = n * e.size ∧ (∀ (i : Nat) (x : D), cs[i]? = some x → ∃ a, e.cells[i % e.size]? = some a ∧ fitsAt E.T f a x) ∧ gD E.P (zTop E.w0.heap.size w) (.list (Typ.real t) n cs) (.slice A n c) := by
  have hsE : E.sz t = e.size := Typ.Env.sz_of' hT
  have hcE : E.cells t = e.cells := Typ.Env.cells_of' hT
  rcases h5 with ⟨rfl, rfl⟩ | ⟨b, k, N, rfl, h6, h7⟩
  · obtain rfl : n = 0 := by omega
    exact ⟨[], by simp, fun i x hx => by simp at hx, by unfold gD; exact ⟨none, 0, rfl, Nat.le_refl _, by simp, .inl rfl⟩⟩
  · obtain ⟨g1, _, arr, g3, g4, g5⟩ := hi.rows b t N h6
    have hle : (k + n) * E.sz t ≤ N * E.sz t := Nat.mul_le_mul_right _ (by omega)
    rw [Nat.add_mul] at hle
    have hcell : ∀ j, j < n * e.size → ∃ d, (∃ a, e.cells[j % e.size]? = some a ∧ fitsAt E.T f a d) ∧ ∃ x, arr[k * e.size + j]? = some x ∧ gD E.P (zTop E.w0.heap.size w) d x := fun j hj => by
      have hlt : k * e.size + j < arr.size := by rw [g4, hsE]; rw [hsE] at hle; omega
      obtain ⟨a, q1, q2⟩ := g5 _ _ (Array.getElem?_eq_getElem hlt)
      rw [hcE, hsE, Nat.add_comm, Nat.add_mul_mod_self_right] at q1
      obtain ⟨d, q3, q4⟩ := ih a _ (List.all_eq_true.mp hall a (List.mem_of_getElem? q1)) q2
      exact ⟨d, ⟨a, q1, q3⟩, _, Array.getElem?_eq_getElem hlt, q4⟩
    obtain ⟨cs, c1, c2⟩ := choose_list (n * e.size) hcell
    refine ⟨cs, c1, fun i x hx => (c2 i x hx).1, ?_⟩
    unfold gD
    refine ⟨_, c, rfl, hn, by rw [c1, hsz], .inr ⟨b, k * e.size, arr, Typ.real t, (0, 0), by rw [hsE], ?_, gDs.of fun j d hj => ?_⟩⟩
    · unfold zTop
      rw [if_neg (by omega)]; exact g3
    · obtain ⟨_, x, r1, r2⟩ := c2 j d hj
      exact ⟨x, by rw [List.getElem?_drop]; simpa using r1, r2⟩
theorem at_ok (hE : Typ.EnvOk E) (hi : Typ.Inv E κ q w) : ∀ (f : Nat) (a : Typ.At) (v : Value), plainA E.P E.T f a = true → Typ.gAt E κ a v → ∃ d, fitsAt E.T f a d ∧ gD E.P (zTop E.w0.heap.size w) d v := by
  have flat : ∀ (f : Nat) (a : Typ.At) (v : Value), (∀ t lo hi, a ≠ .slice t lo hi) → (∀ t k, a ≠ .sliceQ t k) → plainA E.P E.T f a = true → Typ.gAt E κ a v → ∃ d, fitsAt E.T f a d ∧ gD E.P (zTop E.w0.heap.size w) d v := by
    intro f a v h1 h2 hp hg
    cases a with
    | int k lo hi =>
      obtain ⟨n, rfl, q1, q2⟩ := hg
      exact ⟨.int k n, by cases f <;> exact ⟨n, rfl, q1, q2⟩, by unfold gD; rfl⟩
    | bool o =>
      obtain ⟨b, rfl, _⟩ := hg
      exact ⟨.bool b, by cases f <;> exact ⟨b, rfl⟩, by unfold gD; rfl⟩
    | str m =>
      obtain ⟨s, rfl, q1⟩ := hg
      exact ⟨.str s, by cases f <;> exact ⟨s, rfl, q1⟩, by unfold gD; rfl⟩
    | slice t lo hi => exact absurd rfl (h1 t lo hi)
    | sliceQ t k => exact absurd rfl (h2 t k)
    | _ => cases f <;> cases hp
  intro f
  induction f with
  | zero =>
    intro a v hp hg
    cases a with
    | slice => cases hp
    | sliceQ => cases hp
    | _ => exact flat 0 _ v (by simp) (by simp) hp hg
  | succ f ih =>
    intro a v hp hg
    cases a with
    | slice t lo hi' =>
      unfold plainA at hp
      split at hp <;> try (cases hp; done)
      rename_i e he
      simp only [Bool.and_eq_true, beq_iff_eq, decide_eq_true_eq] at hp
      obtain ⟨⟨⟨p1, p2⟩, p3⟩, p4⟩ := hp
      obtain ⟨A, n, c, rfl, q1, q2, q3, q4⟩ := hg
      obtain ⟨cs, c1, c2, c3⟩ := slice_ok hE hi (n := n) ih he p1 p2 p3 p4 q3 q4
      exact ⟨_, ⟨n, cs, e, rfl, q1, q2, he, c1, c2⟩, c3⟩
    | sliceQ t k =>
      unfold plainA at hp
      split at hp <;> try (cases hp; done)
      rename_i e he
      simp only [Bool.and_eq_true, beq_iff_eq, decide_eq_true_eq] at hp
      obtain ⟨⟨⟨p1, p2⟩, p3⟩, p4⟩ := hp
      obtain ⟨A, n, c, rfl, q2, q3, q4⟩ := hg
      obtain ⟨cs, c1, c2, c3⟩ := slice_ok hE hi (n := n) ih he p1 p2 p3 p4 q3 q4
      exact ⟨_, ⟨n, cs, e, rfl, by have := hi.c.2; omega, he, c1, c2⟩, c3⟩
    | _ => exact flat (f + 1) _ v (by simp) (by simp) hp hg
end
/-- Values, one by one. -/
def fitsL (T : Typ.Tab) (f : Nat) : List Typ.At → List D → Prop
  | [], [] => True
  | a :: aa, d :: ds => fitsAt T f a d ∧ fitsL T f aa ds
  | _, _ => False
def kdOf : Typ.At → Kd → Bool
  | .int k _ _, .int k' => k == k'
  | .bool _, .bool => true
  | .str _, .str => true
  | .slice t _ _, .list u => Typ.real t == u
  | .sliceQ t _, .list u => Typ.real t == u
  | _, _ => false
def kdsOf : List Typ.At → List Kd → Bool
  | [], [] => true
  | a :: aa, k :: ks => kdOf a k && kdsOf aa ks
  | _, _ => false
def flatV : List Typ.V1 → List Typ.At
  | [] => []
  | .one a :: l => a :: flatV l
  | .agg m :: l => m ++ flatV l
def listV : Typ.AV → List Typ.V1
  | .v x => [x]
  | .tup l => l
/-- The types of results fit those that were found. -/
def matchV (P : Program) : List Nat → List Typ.V1 → Bool
  | [], [] => true
  | t :: ts, .one a :: xs => (match ksOf P t with | some ks => !isSt P t && kdsOf [a] ks | none => false) && matchV P ts xs
  | t :: ts, .agg m :: xs => (match ksOf P t with | some ks => isSt P t && kdsOf m ks | none => false) && matchV P ts xs
  | _, _ => false
theorem fit_kd {T : Typ.Tab} {f : Nat} {a : Typ.At} {d : D} {k : Kd} (h : fitsAt T f a d) (hk : kdOf a k = true) : fitK d k = true := by
  cases a with
  | int k' lo hi => cases k <;> simp [kdOf] at hk; cases f <;> obtain ⟨n, rfl, _⟩ := h <;> simp [fitK, hk]
  | bool o => cases k <;> simp [kdOf] at hk; cases f <;> obtain ⟨n, rfl⟩ := h <;> simp [fitK]
  | str m => cases k <;> simp [kdOf] at hk; cases f <;> obtain ⟨n, rfl, _⟩ := h <;> simp [fitK]
  | slice t lo hi =>
    cases k <;> simp [kdOf] at hk
    cases f with
    | zero => exact h.elim
    | succ f => obtain ⟨n, cs, e, rfl, _⟩ := h; simp [fitK, hk]
  | sliceQ t c =>
    cases k <;> simp [kdOf] at hk
    cases f with
    | zero => exact h.elim
    | succ f => obtain ⟨n, cs, e, rfl, _⟩ := h; simp [fitK, hk]
  | _ => cases k <;> simp [kdOf] at hk
theorem fitsL_kds {T : Typ.Tab} {f : Nat} : ∀ {aa : List Typ.At} {ds : List D} {ks : List Kd}, fitsL T f aa ds → kdsOf aa ks = true → fits ds ks = true
  | [], [], [], _, _ => rfl
  | a :: aa, d :: ds, k :: ks, h, hk => by
    unfold kdsOf at hk
    rw [Bool.and_eq_true] at hk
    unfold fits
    rw [Bool.and_eq_true]
    exact ⟨fit_kd h.1 hk.1, fitsL_kds h.2 hk.2⟩
  | [], [], _ :: _, _, hk => by simp [kdsOf] at hk
  | _ :: _, _ :: _, [], _, hk => by simp [kdsOf] at hk
  | [], _ :: _, _, h, _ => h.elim
  | _ :: _, [], _, h, _ => h.elim
theorem fitsL_append {T : Typ.Tab} {f : Nat} : ∀ {aa bs : List Typ.At} {ds es : List D}, fitsL T f aa ds → fitsL T f bs es → fitsL T f (aa ++ bs) (ds ++ es)
  | [], _, [], _, _, h => h
  | _ :: _, _, _ :: _, _, h1, h2 => ⟨h1.1, fitsL_append h1.2 h2⟩
  | [], _, _ :: _, _, h, _ => h.elim
  | _ :: _, _, [], _, h, _ => h.elim
section
variable {E : Typ.Env} {κ : Typ.Kr} {q : Nat} {w : World}
theorem list_ok (hE : Typ.EnvOk E) (hi : Typ.Inv E κ q w) (f : Nat) : ∀ (aa : List Typ.At) (vs : List Value), aa.all (plainA E.P E.T f) = true → Typ.gList E κ aa vs → ∃ ds, fitsL E.T f aa ds ∧ ds.length = vs.length ∧ ∀ (j : Nat) (d : D), ds[j]? = some d → ∃ v, vs[j]? = some v ∧ gD E.P (zTop E.w0.heap.size w) d v
  | [], [], _, _ => ⟨[], trivial, rfl, fun j d hj => by simp at hj⟩
  | a :: aa, v :: vs, hp, ⟨h1, h2⟩ => by
    rw [List.all_cons, Bool.and_eq_true] at hp
    obtain ⟨d, q1, q2⟩ := at_ok hE hi f a v hp.1 h1
    obtain ⟨ds, q3, q4, q5⟩ := list_ok hE hi f aa vs hp.2 h2
    refine ⟨d :: ds, ⟨q1, q3⟩, by simp [q4], fun j x hj => ?_⟩
    cases j with
    | zero => simp at hj; subst hj; exact ⟨v, rfl, q2⟩
    | succ j => simpa using q5 j x (by simpa using hj)
theorem res_ok (hE : Typ.EnvOk E) (hi : Typ.Inv E κ q w) (f : Nat) : ∀ (ts : List Nat) (xs : List Typ.V1) (vs : List Value), matchV E.P ts xs = true → (flatV xs).all (plainA E.P E.T f) = true → Typ.gV1s E κ xs vs →
    ∃ rk ds cells, ksAll E.P ts = some rk ∧ splitVal E.P ts cells vs ∧ fitsL E.T f (flatV xs) ds ∧ fits ds rk = true ∧ ds.length = cells.length ∧ ∀ (j : Nat) (d : D), ds[j]? = some d → ∃ v, cells[j]? = some v ∧ gD E.P (zTop E.w0.heap.size w) d v
  | [], [], [], _, _, _ => ⟨[], [], [], rfl, ⟨rfl, rfl⟩, trivial, rfl, rfl, fun j d hj => by simp at hj⟩
  | t :: ts, .one a :: xs, v :: vs, hm, hp, ⟨h1, h2⟩ => by
    unfold matchV at hm
    rw [Bool.and_eq_true] at hm
    obtain ⟨hm1, hm2⟩ := hm
    split at hm1 <;> try (cases hm1; done)
    rename_i ks hks
    rw [Bool.and_eq_true, Bool.not_eq_true'] at hm1
    simp only [flatV, List.all_cons, Bool.and_eq_true] at hp
    obtain ⟨d, q1, q2⟩ := at_ok hE hi f a v hp.1 h1
    obtain ⟨rk, ds, cells, r1, r2, r3, r4, r5, r6⟩ := res_ok hE hi f ts xs vs hm2 hp.2 h2
    have hf1 := fitsL_kds (T := E.T) (f := f) (aa := [a]) (ds := [d]) ⟨q1, trivial⟩ hm1.2
    have hk1 : ∃ k, ks = [k] ∧ fitK d k = true := by
      match ks, hf1 with
      | [k], h => unfold fits at h; rw [Bool.and_eq_true] at h; exact ⟨k, rfl, h.1⟩
      | [], h => simp [fits] at h
      | _ :: _ :: _, h => simp [fits] at h
    obtain ⟨k, rfl, hk⟩ := hk1
    refine ⟨k :: rk, d :: ds, v :: cells, by unfold ksAll; rw [hks, r1]; rfl, splitVal_one hks hm1.1 r2, ⟨q1, r3⟩, by unfold fits; rw [Bool.and_eq_true]; exact ⟨hk, r4⟩, by simp [r5], fun j x hj => ?_⟩
    cases j with
    | zero => simp at hj; subst hj; exact ⟨v, rfl, q2⟩
    | succ j => simpa using r6 j x (by simpa using hj)
  | t :: ts, .agg m :: xs, v :: vs, hm, hp, ⟨h1, h2⟩ => by
    unfold matchV at hm
    rw [Bool.and_eq_true] at hm
    obtain ⟨hm1, hm2⟩ := hm
    split at hm1 <;> try (cases hm1; done)
    rename_i ks hks
    rw [Bool.and_eq_true] at hm1
    simp only [flatV, List.all_append, Bool.and_eq_true] at hp
    obtain ⟨arr, rfl, harr⟩ := h1
    obtain ⟨d, q1, q2, q3⟩ := list_ok hE hi f m arr.toList hp.1 harr
    obtain ⟨rk, ds, cells, r1, r2, r3, r4, r5, r6⟩ := res_ok hE hi f ts xs vs hm2 hp.2 h2
    have hf1 := fitsL_kds q1 hm1.2
    have hfa : ∀ {a b : List D} {x y : List Kd}, fits a x = true → fits b y = true → fits (a ++ b) (x ++ y) = true := by
      intro a
      induction a with
      | nil => intro b x y h1 h2; cases x with | nil => exact h2 | cons k x => simp [fits] at h1
      | cons c a ih =>
        intro b x y h1 h2
        cases x with
        | nil => simp [fits] at h1
        | cons k x => simp only [fits, List.cons_append, Bool.and_eq_true] at h1 ⊢; exact ⟨h1.1, ih h1.2 h2⟩
    have hfl : ∀ {a : List D} {x : List Kd}, fits a x = true → a.length = x.length := by
      intro a
      induction a with
      | nil => intro x h; cases x with | nil => rfl | cons k x => simp [fits] at h
      | cons c a ih => intro x h; cases x with | nil => simp [fits] at h | cons k x => simp only [fits, Bool.and_eq_true] at h; simp [ih h.2]
    have hkl : ks.length = arr.size := by rw [← hfl hf1, q2]; simp
    refine ⟨ks ++ rk, d ++ ds, arr.toList ++ cells, by unfold ksAll; rw [hks, r1], splitVal_agg hks hm1.1 hkl r2, fitsL_append q1 r3, hfa hf1 r4, by simp [r5, q2], fun j x hj => ?_⟩
    by_cases hlt : j < d.length
    · rw [List.getElem?_append_left hlt] at hj
      obtain ⟨v, s1, s2⟩ := q3 j x hj
      exact ⟨v, by rw [List.getElem?_append_left (by rw [← q2]; exact hlt)]; exact s1, s2⟩
    · rw [List.getElem?_append_right (by omega)] at hj
      obtain ⟨v, s1, s2⟩ := r6 _ x hj
      exact ⟨v, by rw [List.getElem?_append_right (by rw [← q2]; omega), ← q2]; exact s1, s2⟩
  | [], [], _ :: _, _, _, h => h.elim
  | _ :: _, .one _ :: _, [], _, _, h => h.elim
  | _ :: _, .agg _ :: _, [], _, _, h => h.elim
  | [], _ :: _, _, hm, _, _ => by simp [matchV] at hm
  | _ :: _, [], _, hm, _, _ => by simp [matchV] at hm
end
def tupOk : Typ.AV → Bool
  | .v _ => true
  | .tup l => l.length != 1
/-- Bytes. -/
def bytesD (el : Nat) (xs : List D) : Prop := ∃ n l, xs = [.list el n l] ∧ ∀ d ∈ l, ∃ z : Int, d = .int .u8 z ∧ 0 ≤ z ∧ z ≤ 255
/-- A drawing function answers with what is of the type that was found. -/
theorem draw_ok {β : Typ.Bd} {F : Typ.Fns} {f M fuel : Nat} {fn : Func} {av : Typ.AV} (hF : ∀ (w : World) (ao : Option Addr) (len cap : Nat), len ≤ cap → Bytes w ao len w.heap.size → Typ.FnsOk (Typ.envOf Try.prog β w ao len cap) F)
    (hf : Try.prog.funcs[f]? = some fn) (hn : (fn.name == "runtime.NumGoroutine") = false) (hb : fn.body.isNone = false) (hM : M ≤ Typ.qMax) (h : Typ.absFunc (Typ.tabOf Try.prog β) F M fuel fn [.v (.one .code)] = some av)
    {tb el : Nat} (hp : fn.params.toList = [tb]) (htb : ksOf Try.prog tb = some [.list el]) (htbs : isSt Try.prog tb = false) (hel : sz Try.prog el = 1) (g : Nat)
    (ht : tupOk av = true) (hm : matchV Try.prog fn.resultTypes.toList (listV av) = true) (hpl : (flatV (listV av)).all (plainA Try.prog (Typ.tabOf Try.prog β) g) = true) :
    FnOk Try.prog f (sigF fn (bytesD el) (fun _ ys => fitsL (Typ.tabOf Try.prog β) g (flatV (listV av)) ys)) := by
  refine ⟨⟨fn, hf, hn, hb⟩, ?_⟩
  show ∀ (w : World) (zz : Nat → Option Obj) (vs : Array Value) (xs : List D) (ks : List Kd) (cells : List Value), _ → _ → _ → _ → _ → _ → _
  intro w zz vs xs ks cells hzz hks hsp hfit hg hpre
  obtain ⟨n, l, rfl, hl⟩ := hpre
  have hsp' : splitVal Try.prog fn.params.toList cells vs.toList := hsp
  have hks' : ksAll Try.prog fn.params.toList = some ks := hks
  rw [hp] at hsp' hks'
  have e1 : ks = [.list el] := by simp [ksAll, htb] at hks'; exact hks'.symm
  subst e1
  -- the one argument
  have harg : ∃ v, vs = #[v] ∧ gD Try.prog zz (.list el n l) v := by
    obtain ⟨vl⟩ := vs
    match vl, hsp' with
    | v :: vl, h9 =>
      unfold splitVal at h9
      rw [htb] at h9
      simp only at h9
      rw [if_neg (by rw [htbs]; simp)] at h9
      obtain ⟨rest, rfl, h9⟩ := h9
      match vl, h9 with
      | [], h9 => exact ⟨v, rfl, hg.1⟩
      | _ :: _, h9 => unfold splitVal at h9; exact absurd h9.2 (by simp)
  obtain ⟨v, rfl, hv⟩ := harg
  unfold gD at hv
  obtain ⟨Ad, c, rfl, hnc, hll, hv⟩ := hv
  rw [hel, Nat.mul_one] at hll
  have hB : Bytes w Ad n w.heap.size := by
    rcases hv with h0 | ⟨b, o, arr, ty, fr, rfl, hz, hd⟩
    · exact .inl h0
    · refine .inr ⟨b, o, rfl, block_of (hzz b _ hz), fun i hi => ?_⟩
      have hlt : i < l.length := by omega
      obtain ⟨x, q1, q2⟩ := hd.at i l[i] (List.getElem?_eq_getElem hlt)
      obtain ⟨z, hz1, hz2, hz3⟩ := hl l[i] (List.getElem_mem hlt)
      rw [hz1] at q2
      unfold gD at q2
      refine ⟨z, hz2, hz3, ?_⟩
      rw [cell_of (hzz b _ hz) (i := o + i) (x := x) ?_, q2]
      rw [List.getElem?_drop] at q1
      simpa using q1
  refine (Typ.draw_call (hF w Ad n c hnc hB) hf hM h).mono ?_
  rintro e w' ⟨κ, v, rfl, hi, hgv, hbl⟩
  have hE := Typ.envOk Try.prog β w Ad n c
  have hvs : ∃ us, Typ.gV1s (Typ.envOf Try.prog β w Ad n c) κ (listV av) us ∧ v = wrapVal us := by
    cases av with
    | v x => exact ⟨[v], ⟨hgv, trivial⟩, rfl⟩
    | tup l =>
      obtain ⟨⟨vs⟩, rfl, h9⟩ := hgv
      refine ⟨vs, h9, ?_⟩
      have hlen : l.length = vs.length := by
        have : ∀ {l : List Typ.V1} {vs : List Value}, Typ.gV1s (Typ.envOf Try.prog β w Ad n c) κ l vs → l.length = vs.length := by
          intro l
          induction l with
          | nil => intro vs h; cases vs with | nil => rfl | cons v vs => exact h.elim
          | cons x l ih => intro vs h; cases vs with | nil => exact h.elim | cons v vs => simp [ih h.2]
        exact this h9
      have ht : (l.length != 1) = true := ht
      rw [hlen] at ht
      match vs, ht with
      | [], _ => rfl
      | [u], ht => simp at ht
      | _ :: _ :: _, _ => rfl
  obtain ⟨us, hu1, hu2⟩ := hvs
  obtain ⟨rk, ds, cells, r1, r2, r3, r4, r5, r6⟩ := res_ok hE hi g fn.resultTypes.toList (listV av) us hm hpl hu1
  have hz : ∀ b x, zTop w.heap.size w' b = some x → zNew zz w w' b = some x := fun b x hx => by
    unfold zTop at hx
    unfold zNew
    split at hx
    · cases hx
    · rename_i h9; rw [if_neg h9]; exact hx
  obtain ⟨g1, g2, g3⟩ := fits_sels (P := Try.prog) (κ := ⟨fun _ => none, zNew zz w w'⟩) [] ds rk cells r4 r5 (fun j d hj => by
    obtain ⟨x, s1, s2⟩ := r6 j d hj
    exact ⟨x, s1, gD.mono hz s2⟩)
  exact ⟨v, ds, rfl, r3, hbl, rk, cells, us, r1, g2, r2, g3, hu2⟩
end Go.Proofs.Ytgoheolehnahkaa.Mini
