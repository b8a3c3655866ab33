/- Parts of the proof in one text: Mini16, Mini17, Mini18, Mini19, Help. -/
import Derived.Test.YtplcdadedpbkpaaGc
import Derived.Test.YtplcdadedpbkpaaGa
import Derived.Test.YtplcdadedpbkpaaAlive
import Derived.Test.YtplcdadedpbkpaaTyp3
import Derived.Test.YtplcdadedpbkpaaOpenS
import Derived.ChangeOld
import Derived.Below
import Derived.Carry
section
namespace Go.Proofs.Ytplcdadedpbkpaa.Mini
open Go Go.RowKit
set_option linter.unusedVariables false
set_option maxRecDepth 20000

/-! ### Lists of things, cell by cell -/
def flatD {α : Type} (C : α → List D) (l : List α) : List D := l.flatMap C
section
variable {α : Type} {C : α → List D} {m : Nat}
theorem flatD_nil : flatD C [] = [] := rfl
theorem flatD_append (a b : List α) : flatD C (a ++ b) = flatD C a ++ flatD C b := by simp [flatD]
theorem flatD_one (a : α) : flatD C [a] = C a := by simp [flatD]
theorem flatD_cons (a : α) (l : List α) : flatD C (a :: l) = C a ++ flatD C l := rfl
theorem flatD_len (hC : ∀ a, (C a).length = m) : ∀ l : List α, (flatD C l).length = l.length * m
  | [] => by simp [flatD]
  | a :: l => by rw [flatD_cons, List.length_append, hC, flatD_len hC l, List.length_cons, Nat.succ_mul, Nat.add_comm]
theorem flatD_at (hC : ∀ a, (C a).length = m) : ∀ {l : List α} {k : Nat} {a : α} (_ : l[k]? = some a) {j : Nat} (_ : j < m), (flatD C l)[k * m + j]? = (C a)[j]?
  | b :: l, 0, a, h, j, hj => by
    simp at h
    subst h
    rw [flatD_cons, Nat.zero_mul, Nat.zero_add, List.getElem?_append_left (by rw [hC]; exact hj)]
  | b :: l, k + 1, a, h, j, hj => by
    rw [flatD_cons, Nat.succ_mul, List.getElem?_append_right (by rw [hC]; omega), hC, show k * m + m + j - m = k * m + j by omega]
    exact flatD_at hC (by simpa using h) hj
  | [], k, a, h, j, hj => by simp at h
theorem flatD_at0 (hC : ∀ a, (C a).length = m) (hm : 0 < m) {l : List α} {k : Nat} {a : α} (h : l[k]? = some a) : (flatD C l)[k * m]? = (C a)[0]? := flatD_at hC h (j := 0) hm
theorem flatD_take (hC : ∀ a, (C a).length = m) : ∀ (l : List α) (k : Nat), (flatD C l).take (k * m) = flatD C (l.take k)
  | [], k => by simp [flatD]
  | a :: l, 0 => by simp [flatD]
  | a :: l, k + 1 => by
    rw [flatD_cons, List.take_succ_cons, flatD_cons, Nat.succ_mul, List.take_append, hC, List.take_of_length_le (by rw [hC]; omega), show k * m + m - m = k * m by omega, flatD_take hC l k]
theorem flatD_drop (hC : ∀ a, (C a).length = m) : ∀ (l : List α) (k : Nat), (flatD C l).drop (k * m) = flatD C (l.drop k)
  | [], k => by simp [flatD]
  | a :: l, 0 => by simp [flatD]
  | a :: l, k + 1 => by
    rw [flatD_cons, List.drop_succ_cons, Nat.succ_mul, List.drop_append, hC, List.drop_of_length_le (by rw [hC]; omega), show k * m + m - m = k * m by omega, flatD_drop hC l k, List.nil_append]
theorem flatD_rep (n : Nat) (a : α) : rep n (C a) = flatD C (List.replicate n a) := by
  induction n with
  | zero => rfl
  | succ n ih => rw [List.replicate_succ, flatD_cons, ← ih]; simp [rep, List.replicate_succ]
theorem set_split : ∀ {l : List α} {k : Nat} {a : α} (b : α) (_ : l[k]? = some a), l.set k b = l.take k ++ [b] ++ l.drop (k + 1)
  | c :: l, 0, a, b, h => by simp
  | c :: l, k + 1, a, b, h => by
    rw [List.set_cons_succ, List.take_succ_cons, List.drop_succ_cons, set_split (l := l) (k := k) (a := a) b (by simpa using h)]
    rfl
  | [], k, a, b, h => by simp at h
/-- One thing is set. -/
theorem flatD_set (hC : ∀ a, (C a).length = m) {l : List α} {k : Nat} {a : α} (b : α) (h : l[k]? = some a) : setL (flatD C l) (k * m) (C b) = flatD C (l.set k b) := by
  rw [set_split b h, flatD_append, flatD_append, flatD_one]
  unfold setL
  rw [flatD_take hC, hC, ← Nat.succ_mul, flatD_drop hC]
theorem split_at : ∀ {l : List α} {k : Nat} {a : α} (_ : l[k]? = some a), l = l.take k ++ [a] ++ l.drop (k + 1)
  | c :: l, 0, a, h => by simp at h; simp [h]
  | c :: l, k + 1, a, h => by
    have := split_at (l := l) (k := k) (a := a) (by simpa using h)
    rw [List.take_succ_cons, List.drop_succ_cons]
    exact congrArg (c :: ·) this
  | [], k, a, h => by simp at h
theorem setL_mid {X Y Z ds : List D} {p j : Nat} (hp : X.length = p) (hj : j + ds.length ≤ Y.length) : setL (X ++ Y ++ Z) (p + j) ds = X ++ setL Y j ds ++ Z := by
  subst hp
  unfold setL
  have h1 : List.take (X.length + j) (X ++ Y ++ Z) = X ++ List.take j Y := by
    rw [List.append_assoc, List.take_length_add_append, List.take_append_of_le_length (by omega)]
  have h2 : List.drop (X.length + j + ds.length) (X ++ Y ++ Z) = List.drop (j + ds.length) Y ++ Z := by
    rw [List.append_assoc, Nat.add_assoc, List.drop_length_add_append, List.drop_append_of_le_length (by omega)]
  rw [h1, h2]
  simp
/-- Some cells of one thing are set. -/
theorem flatD_field (hC : ∀ a, (C a).length = m) {l : List α} {k : Nat} {a b : α} (h : l[k]? = some a) {j : Nat} {ds : List D} (hj : j + ds.length ≤ m) (hb : C b = setL (C a) j ds) : setL (flatD C l) (k * m + j) ds = flatD C (l.set k b) := by
  have hk : k < l.length := (List.getElem?_eq_some_iff.mp h).1
  have h1 : (flatD C (l.take k)).length = k * m := by rw [flatD_len hC, List.length_take, Nat.min_eq_left (by omega)]
  rw [set_split b h]
  conv => lhs; rw [split_at h]
  rw [flatD_append, flatD_append, flatD_append, flatD_append, flatD_one, flatD_one, hb]
  exact setL_mid h1 (by rw [hC]; omega)
end
/-- What is read. -/
theorem need_of {ds : List D} {i : Nat} {d : D} {k : Kd} (h : ds[i]? = some d) (hk : fitK d k = true) : ds[i]? = some (sel ds i k) ∧ sel ds i k = d := by
  have := (fitK_sel h hk).2
  exact ⟨by rw [this]; exact h, this⟩
theorem selI_of {ds : List D} {i : Nat} {k : IntKind} {n : Int} (h : ds[i]? = some (.int k n)) : selI ds i = n := by unfold selI; rw [h]
theorem selB_of {ds : List D} {i : Nat} {b : Bool} (h : ds[i]? = some (.bool b)) : selB ds i = b := by unfold selB; rw [h]
theorem selS_of {ds : List D} {i : Nat} {s : ByteArray} (h : ds[i]? = some (.str s)) : selS ds i = s := by unfold selS; rw [h]
theorem selN_of {ds : List D} {i t n : Nat} {l : List D} (h : ds[i]? = some (.list t n l)) : selN ds i = n := by unfold selN; rw [h]
theorem selL_of {ds : List D} {i t n : Nat} {l : List D} (h : ds[i]? = some (.list t n l)) : selL ds i = l := by unfold selL; rw [h]
theorem sel_int {ds : List D} {i : Nat} {k : IntKind} {n : Int} (h : ds[i]? = some (.int k n)) : sel ds i (.int k) = .int k n := by unfold sel; rw [selI_of h]
theorem sel_bool {ds : List D} {i : Nat} {b : Bool} (h : ds[i]? = some (.bool b)) : sel ds i .bool = .bool b := by unfold sel; rw [selB_of h]
theorem sel_str {ds : List D} {i : Nat} {s : ByteArray} (h : ds[i]? = some (.str s)) : sel ds i .str = .str s := by unfold sel; rw [selS_of h]
theorem sel_list {ds : List D} {i t n : Nat} {l : List D} (h : ds[i]? = some (.list t n l)) : sel ds i (.list t) = .list t n l := by unfold sel; rw [selN_of h, selL_of h]

/-! ### What came in -/
/-- A list that is seen, as a value. -/
theorem gD_of_sees {P : Program} {w : World} {t n c : Nat} {A : Option Addr} {xs : List Value} {ds : List D} (hc : n ≤ c) (hr : Sees w w.heap.size (sz P t) A n xs) (hl : ds.length = xs.length)
    (hd : ∀ (j : Nat) (d : D), ds[j]? = some d → ∃ v, xs[j]? = some v ∧ gD P (fun _ => none) d v) : gD P (fun b => w.heap[b]?) (.list t n ds) (.slice A n c) := by
  unfold gD
  refine ⟨A, c, rfl, hc, by rw [hl, hr.1], ?_⟩
  by_cases h0 : n = 0
  · exact .inl h0
  refine .inr ?_
  obtain ⟨b, off, rfl, hb, hcell⟩ := hr.2 (by omega)
  have hxs : xs.length = n * sz P t := hr.1
  have hpos : 0 < xs.length := by rw [hxs]; exact Nat.mul_pos (by omega) (sz_pos P t)
  have h1 := hcell 0 xs[0] (List.getElem?_eq_getElem hpos)
  have hblk : ∃ arr ty fr, w.heap[b]? = some (.cells arr ty fr) := by
    unfold World.cell? at h1
    simp only at h1
    split at h1
    · exact ⟨_, _, _, by assumption⟩
    · cases h1
  obtain ⟨arr, ty, fr, hblk⟩ := hblk
  refine ⟨b, off, arr, ty, fr, rfl, hblk, gDs.of fun j d hj => ?_⟩
  obtain ⟨v, hv, hg⟩ := hd j d hj
  have h2 := hcell j v hv
  unfold World.cell? at h2
  rw [hblk] at h2
  simp at h2
  refine ⟨v, ?_, gD.mono (fun b x hx => by cases hx) hg⟩
  rw [List.getElem?_drop]
  simpa using h2
/-- Values of a type of one cell, and the cells of a struct, as a function's first arguments. -/
theorem splitVal_one {P : Program} {t : Nat} {ts : List Nat} {ks : List Kd} {v : Value} {cells vs : List Value} (hk : ksOf P t = some ks) (hs : isSt P t = false) (h : splitVal P ts cells vs) : splitVal P (t :: ts) (v :: cells) (v :: vs) := by
  unfold splitVal
  rw [hk]
  simp only
  rw [if_neg (by rw [hs]; simp)]
  exact ⟨cells, rfl, h⟩
theorem splitVal_agg {P : Program} {t : Nat} {ts : List Nat} {ks : List Kd} {arr : Array Value} {cells vs : List Value} (hk : ksOf P t = some ks) (hs : isSt P t = true) (hl : ks.length = arr.size) (h : splitVal P ts cells vs) : splitVal P (t :: ts) (arr.toList ++ cells) (.agg arr :: vs) := by
  unfold splitVal
  rw [hk]
  simp only
  rw [if_pos hs]
  exact ⟨arr, rfl, by simp; omega, by rw [List.take_left' (by simp [hl])], by rw [List.drop_left' (by simp [hl])]; exact h⟩
/-- A function of numbers, truths, texts and lists, called from outside. -/
theorem calls_own {P : Program} {f : Nat} {params results : List Nat} {pre : List D → Prop} {post : List D → List D → Prop} (h : FnOk P f ⟨params, results, pre, post, .own⟩) {w : World} {vs : Array Value} {xs : List D} {ks : List Kd} {cells : List Value}
    (hks : ksAll P params = some ks) (hsp : splitVal P params cells vs.toList) (hfit : fits xs ks = true) (hg : gL P ⟨fun _ => none, fun b => w.heap[b]?⟩ (sels xs 0 ks) cells) (hpre : pre xs) :
    Calls P f vs w fun e w' => ∃ v ys, e = .returned v ∧ post xs ys ∧ Below w.heap.size w w' ∧ ResOk P w w' results ys v := h.2 w (fun b => w.heap[b]?) vs xs ks cells (fun _ _ h => h) hks hsp hfit hg hpre
/-- A law answers 'true'. -/
theorem res_true {P : Program} {w w' : World} {t : Nat} {v : Value} (hk : ksOf P t = some [.bool]) (hs : isSt P t = false) (h : ResOk P w w' [t] [.bool true] v) : v = .bool true := by
  obtain ⟨ks, cells, vs, bs, k1, k2, k3, k4, k5, rfl⟩ := h
  unfold ksAll at k1
  rw [hk] at k1
  simp [ksAll] at k1
  subst k1
  match vs with
  | [] => unfold splitVal at k3; exact k3.elim
  | v :: vs =>
    unfold splitVal at k3
    rw [hk] at k3
    simp only at k3
    rw [if_neg (by rw [hs]; simp)] at k3
    obtain ⟨rest, rfl, k3⟩ := k3
    match vs with
    | [] =>
      unfold splitVal at k3
      unfold resL at k5
      have := k5.1
      unfold sel selB gD at this
      simpa [wrapVal] using this
    | u :: us => unfold splitVal at k3; exact absurd k3.2 (by simp)
/-- A drawn law's walk. -/
theorem walk_law {P : Program} {f tb tr : Nat} {pre : List D → Prop} {post : List D → List D → Prop} (h : FnOk P f ⟨[tb], [tr], pre, post, .own⟩) {el : Nat} (hb : ksOf P tb = some [.list el]) (hbs : isSt P tb = false) (hel : sz P el = 1) (hr : ksOf P tr = some [.bool]) (hrs : isSt P tr = false)
    (hpost : ∀ xs ys, post xs ys → ys = [.bool true]) (hpre : ∀ (n : Nat) (l : List D), n ≤ maxLen → l.length = n → (∀ d ∈ l, ∃ z : Int, d = .int .u8 z ∧ 0 ≤ z ∧ z ≤ 255) → pre [.list el n l])
    {a0 : Option Addr} {len0 cap0 : Nat} {z0 : List Int} {w : World} (w0 : IsBytes w a0 len0 cap0 z0) :
    Calls P f #[.slice a0 len0 cap0] w fun e w' => e = .returned (.bool true) ∧ Below w.heap.size w w' := by
  obtain ⟨hlc, hcm, hB⟩ := bytes_of w0
  -- the bytes
  have hz : ∃ zs : List Int, zs.length = len0 ∧ (∀ z ∈ zs, 0 ≤ z ∧ z ≤ 255) ∧ Sees w w.heap.size 1 a0 len0 (zs.map (fun z => Value.int .u8 z)) := by
    rcases hB with h0 | ⟨b, off, rfl, hb, hc⟩
    · subst h0
      exact ⟨[], rfl, fun z hz => by simp at hz, by simp, fun h => absurd h (by omega)⟩
    · have : ∀ n, n ≤ len0 → ∃ zs : List Int, zs.length = n ∧ (∀ z ∈ zs, 0 ≤ z ∧ z ≤ 255) ∧ ∀ i z, zs[i]? = some z → w.cell? ⟨b, off + i, none⟩ = some (.int .u8 z) := by
        intro n
        induction n with
        | zero => exact fun _ => ⟨[], rfl, fun z hz => by simp at hz, fun i z hz => by simp at hz⟩
        | succ n ih =>
          intro hn
          obtain ⟨zs, h1, h2, h3⟩ := ih (by omega)
          obtain ⟨z, q1, q2, q3⟩ := hc n (by omega)
          refine ⟨zs ++ [z], by simp [h1], fun y hy => ?_, fun i y hy => ?_⟩
          · rcases List.mem_append.mp hy with hy | hy
            · exact h2 y hy
            · simp at hy; subst hy; exact ⟨q1, q2⟩
          · by_cases hi : i < n
            · rw [List.getElem?_append_left (by omega)] at hy; exact h3 i y hy
            · rw [List.getElem?_append_right (by omega)] at hy
              have : i - zs.length = 0 := by
                have := (List.getElem?_eq_some_iff.mp hy).1
                simp at this; omega
              rw [this] at hy
              simp at hy
              subst hy
              have : i = n := by omega
              subst this; exact q3
      obtain ⟨zs, h1, h2, h3⟩ := this len0 (Nat.le_refl _)
      refine ⟨zs, h1, h2, by simp [h1], fun _ => ⟨b, off, rfl, hb, fun j u hu => ?_⟩⟩
      rw [List.getElem?_map] at hu
      obtain ⟨z, hz, rfl⟩ := Option.map_eq_some_iff.mp hu
      exact h3 j z hz
  obtain ⟨zs, z1, z2, z3⟩ := hz
  have hks : ksAll P [tb] = some [.list el] := by simp [ksAll, hb]
  have hg : gD P (fun b => w.heap[b]?) (.list el len0 (zs.map (fun z => D.int .u8 z))) (.slice a0 len0 cap0) := gD_of_sees hlc (by rw [hel]; exact z3) (by simp) (fun j d hj => by
    rw [List.getElem?_map] at hj
    obtain ⟨z, hz, rfl⟩ := Option.map_eq_some_iff.mp hj
    exact ⟨.int .u8 z, by rw [List.getElem?_map, hz]; rfl, by unfold gD; rfl⟩)
  refine (calls_own h (xs := [.list el len0 (zs.map (fun z => D.int .u8 z))]) (cells := [.slice a0 len0 cap0]) hks (splitVal_one hb hbs ⟨rfl, rfl⟩) (by simp [fits, fitK]) ⟨hg, trivial⟩ (hpre _ _ (by omega) (by simp [z1]) (fun d hd => ?_))).mono ?_
  · obtain ⟨z, hz, rfl⟩ := List.mem_map.mp hd
    exact ⟨z, rfl, z2 z hz⟩
  · rintro e w' ⟨v, ys, rfl, hp, hbl, hres⟩
    rw [hpost _ _ hp] at hres
    exact ⟨by rw [res_true hr hrs hres], hbl⟩
end Go.Proofs.Ytplcdadedpbkpaa.Mini
end
section
/- Exact values: what was drawn, by its type. -/
namespace Go.Proofs.Ytplcdadedpbkpaa.Mini
open Go Go.RowKit
set_option linter.unusedVariables false
set_option maxRecDepth 20000

/-- A value is of a type that was drawn. -/
def fitsAt (T : Typ.Tab) : Nat → Typ.At → D → Prop
  | _, .int k lo hi, d => ∃ n : Int, d = .int k n ∧ lo ≤ n ∧ n ≤ hi
  | _, .bool _, d => ∃ b, d = .bool b
  | _, .str m, d => ∃ s : ByteArray, d = .str s ∧ s.size ≤ m
  | f + 1, .slice t lo hi, d => ∃ n cs e, d = .list (Typ.real t) n cs ∧ lo ≤ n ∧ n ≤ hi ∧ T t = some e ∧ cs.length = n * e.size ∧ ∀ (i : Nat) (x : D), cs[i]? = some x → ∃ a, e.cells[i % e.size]? = some a ∧ fitsAt T f a x
  | f + 1, .sliceQ t k, d => ∃ n cs e, d = .list (Typ.real t) n cs ∧ n ≤ 900000 + k ∧ T t = some e ∧ cs.length = n * e.size ∧ ∀ (i : Nat) (x : D), cs[i]? = some x → ∃ a, e.cells[i % e.size]? = some a ∧ fitsAt T f a x
  | _, _, _ => False
/-- Only numbers, truths, texts and lists of such. -/
def plainA (P : Program) (T : Typ.Tab) : Nat → Typ.At → Bool
  | _, .int .. => true
  | _, .bool _ => true
  | _, .str _ => true
  | f + 1, .slice t _ _ => match T t with
    | some e => sz P (Typ.real t) == e.size && e.cells.length == e.size && decide (0 < e.size) && e.cells.all (plainA P T f)
    | none => false
  | f + 1, .sliceQ t _ => match T t with
    | some e => sz P (Typ.real t) == e.size && e.cells.length == e.size && decide (0 < e.size) && e.cells.all (plainA P T f)
    | none => false
  | _, _ => false
theorem choose_list {R : Nat → D → Prop} : ∀ n, (∀ j, j < n → ∃ d, R j d) → ∃ cs : List D, cs.length = n ∧ ∀ (j : Nat) (d : D), cs[j]? = some d → R j d
  | 0, _ => ⟨[], rfl, fun j d hj => by simp at hj⟩
  | n + 1, h => by
    obtain ⟨cs, h1, h2⟩ := choose_list n (fun j hj => h j (by omega))
    obtain ⟨d, hd⟩ := h n (by omega)
    refine ⟨cs ++ [d], by simp [h1], fun j x hx => ?_⟩
    by_cases hj : j < n
    · rw [List.getElem?_append_left (by omega)] at hx; exact h2 j x hx
    · rw [List.getElem?_append_right (by omega)] at hx
      have hlt := (List.getElem?_eq_some_iff.mp hx).1
      have e : j = n := by simp at hlt; omega
      rw [show j - cs.length = 0 by omega] at hx
      simp at hx
      rw [e, ← hx]; exact hd
/-- The blocks that are new. -/
def zTop (top : Nat) (w : World) : Nat → Option Obj := fun b => if b < top then none else w.heap[b]?
section
variable {E : Typ.Env} {κ : Typ.Kr} {q : Nat} {w : World}
theorem slice_ok (hE : Typ.EnvOk E) (hi : Typ.Inv E κ q w) {f t n c : Nat} {A : Option Addr} {e : Typ.TI} (ih : ∀ (a : Typ.At) (v : Value), plainA E.P E.T f a = true → Typ.gAt E κ a v → ∃ d, fitsAt E.T f a d ∧ gD E.P (zTop E.w0.heap.size w) d v)
    (hT : E.T t = some e) (hsz : sz E.P (Typ.real t) = e.size) (hcl : e.cells.length = e.size) (hp : 0 < e.size) (hall : e.cells.all (plainA E.P E.T f) = true) (hn : n ≤ c)
    (h5 : (A = none ∧ c = 0) ∨ ∃ b k N, A = some ⟨b, k * E.sz t, none⟩ ∧ κ.Γ b = some (t, N) ∧ k + c ≤ N) :
    ∃ cs : List D, cs.length = n * e.size ∧ (∀ (i : Nat) (x : D), cs[i]? = some x → ∃ a, e.cells[i % e.size]? = some a ∧ fitsAt E.T f a x) ∧ gD E.P (zTop E.w0.heap.size w) (.list (Typ.real t) n cs) (.slice A n c) := by
  have hsE : E.sz t = e.size := Typ.Env.sz_of' hT
  have hcE : E.cells t = e.cells := Typ.Env.cells_of' hT
  rcases h5 with ⟨rfl, rfl⟩ | ⟨b, k, N, rfl, h6, h7⟩
  · obtain rfl : n = 0 := by omega
    exact ⟨[], by simp, fun i x hx => by simp at hx, by unfold gD; exact ⟨none, 0, rfl, Nat.le_refl _, by simp, .inl rfl⟩⟩
  · obtain ⟨g1, _, arr, g3, g4, g5⟩ := hi.rows b t N h6
    have hle : (k + n) * E.sz t ≤ N * E.sz t := Nat.mul_le_mul_right _ (by omega)
    rw [Nat.add_mul] at hle
    have hcell : ∀ j, j < n * e.size → ∃ d, (∃ a, e.cells[j % e.size]? = some a ∧ fitsAt E.T f a d) ∧ ∃ x, arr[k * e.size + j]? = some x ∧ gD E.P (zTop E.w0.heap.size w) d x := fun j hj => by
      have hlt : k * e.size + j < arr.size := by rw [g4, hsE]; rw [hsE] at hle; omega
      obtain ⟨a, q1, q2⟩ := g5 _ _ (Array.getElem?_eq_getElem hlt)
      rw [hcE, hsE, Nat.add_comm, Nat.add_mul_mod_self_right] at q1
      obtain ⟨d, q3, q4⟩ := ih a _ (List.all_eq_true.mp hall a (List.mem_of_getElem? q1)) q2
      exact ⟨d, ⟨a, q1, q3⟩, _, Array.getElem?_eq_getElem hlt, q4⟩
    obtain ⟨cs, c1, c2⟩ := choose_list (n * e.size) hcell
    refine ⟨cs, c1, fun i x hx => (c2 i x hx).1, ?_⟩
    unfold gD
    refine ⟨_, c, rfl, hn, by rw [c1, hsz], .inr ⟨b, k * e.size, arr, Typ.real t, (0, 0), by rw [hsE], ?_, gDs.of fun j d hj => ?_⟩⟩
    · unfold zTop
      rw [if_neg (by omega)]; exact g3
    · obtain ⟨_, x, r1, r2⟩ := c2 j d hj
      exact ⟨x, by rw [List.getElem?_drop]; simpa using r1, r2⟩
theorem at_ok (hE : Typ.EnvOk E) (hi : Typ.Inv E κ q w) : ∀ (f : Nat) (a : Typ.At) (v : Value), plainA E.P E.T f a = true → Typ.gAt E κ a v → ∃ d, fitsAt E.T f a d ∧ gD E.P (zTop E.w0.heap.size w) d v := by
  have flat : ∀ (f : Nat) (a : Typ.At) (v : Value), (∀ t lo hi, a ≠ .slice t lo hi) → (∀ t k, a ≠ .sliceQ t k) → plainA E.P E.T f a = true → Typ.gAt E κ a v → ∃ d, fitsAt E.T f a d ∧ gD E.P (zTop E.w0.heap.size w) d v := by
    intro f a v h1 h2 hp hg
    cases a with
    | int k lo hi =>
      obtain ⟨n, rfl, q1, q2⟩ := hg
      exact ⟨.int k n, by cases f <;> exact ⟨n, rfl, q1, q2⟩, by unfold gD; rfl⟩
    | bool o =>
      obtain ⟨b, rfl, _⟩ := hg
      exact ⟨.bool b, by cases f <;> exact ⟨b, rfl⟩, by unfold gD; rfl⟩
    | str m =>
      obtain ⟨s, rfl, q1⟩ := hg
      exact ⟨.str s, by cases f <;> exact ⟨s, rfl, q1⟩, by unfold gD; rfl⟩
    | slice t lo hi => exact absurd rfl (h1 t lo hi)
    | sliceQ t k => exact absurd rfl (h2 t k)
    | _ => cases f <;> cases hp
  intro f
  induction f with
  | zero =>
    intro a v hp hg
    cases a with
    | slice => cases hp
    | sliceQ => cases hp
    | _ => exact flat 0 _ v (by simp) (by simp) hp hg
  | succ f ih =>
    intro a v hp hg
    cases a with
    | slice t lo hi' =>
      unfold plainA at hp
      split at hp <;> try (cases hp; done)
      rename_i e he
      simp only [Bool.and_eq_true, beq_iff_eq, decide_eq_true_eq] at hp
      obtain ⟨⟨⟨p1, p2⟩, p3⟩, p4⟩ := hp
      obtain ⟨A, n, c, rfl, q1, q2, q3, q4⟩ := hg
      obtain ⟨cs, c1, c2, c3⟩ := slice_ok hE hi (n := n) ih he p1 p2 p3 p4 q3 q4
      exact ⟨_, ⟨n, cs, e, rfl, q1, q2, he, c1, c2⟩, c3⟩
    | sliceQ t k =>
      unfold plainA at hp
      split at hp <;> try (cases hp; done)
      rename_i e he
      simp only [Bool.and_eq_true, beq_iff_eq, decide_eq_true_eq] at hp
      obtain ⟨⟨⟨p1, p2⟩, p3⟩, p4⟩ := hp
      obtain ⟨A, n, c, rfl, q2, q3, q4⟩ := hg
      obtain ⟨cs, c1, c2, c3⟩ := slice_ok hE hi (n := n) ih he p1 p2 p3 p4 q3 q4
      exact ⟨_, ⟨n, cs, e, rfl, by have := hi.c.2; omega, he, c1, c2⟩, c3⟩
    | _ => exact flat (f + 1) _ v (by simp) (by simp) hp hg
end
/-- Values, one by one. -/
def fitsL (T : Typ.Tab) (f : Nat) : List Typ.At → List D → Prop
  | [], [] => True
  | a :: aa, d :: ds => fitsAt T f a d ∧ fitsL T f aa ds
  | _, _ => False
def kdOf : Typ.At → Kd → Bool
  | .int k _ _, .int k' => k == k'
  | .bool _, .bool => true
  | .str _, .str => true
  | .slice t _ _, .list u => Typ.real t == u
  | .sliceQ t _, .list u => Typ.real t == u
  | _, _ => false
def kdsOf : List Typ.At → List Kd → Bool
  | [], [] => true
  | a :: aa, k :: ks => kdOf a k && kdsOf aa ks
  | _, _ => false
def flatV : List Typ.V1 → List Typ.At
  | [] => []
  | .one a :: l => a :: flatV l
  | .agg m :: l => m ++ flatV l
def listV : Typ.AV → List Typ.V1
  | .v x => [x]
  | .tup l => l
/-- The types of results fit those that were found. -/
def matchV (P : Program) : List Nat → List Typ.V1 → Bool
  | [], [] => true
  | t :: ts, .one a :: xs => (match ksOf P t with | some ks => !isSt P t && kdsOf [a] ks | none => false) && matchV P ts xs
  | t :: ts, .agg m :: xs => (match ksOf P t with | some ks => isSt P t && kdsOf m ks | none => false) && matchV P ts xs
  | _, _ => false
theorem fit_kd {T : Typ.Tab} {f : Nat} {a : Typ.At} {d : D} {k : Kd} (h : fitsAt T f a d) (hk : kdOf a k = true) : fitK d k = true := by
  cases a with
  | int k' lo hi => cases k <;> simp [kdOf] at hk; cases f <;> obtain ⟨n, rfl, _⟩ := h <;> simp [fitK, hk]
  | bool o => cases k <;> simp [kdOf] at hk; cases f <;> obtain ⟨n, rfl⟩ := h <;> simp [fitK]
  | str m => cases k <;> simp [kdOf] at hk; cases f <;> obtain ⟨n, rfl, _⟩ := h <;> simp [fitK]
  | slice t lo hi =>
    cases k <;> simp [kdOf] at hk
    cases f with
    | zero => exact h.elim
    | succ f => obtain ⟨n, cs, e, rfl, _⟩ := h; simp [fitK, hk]
  | sliceQ t c =>
    cases k <;> simp [kdOf] at hk
    cases f with
    | zero => exact h.elim
    | succ f => obtain ⟨n, cs, e, rfl, _⟩ := h; simp [fitK, hk]
  | _ => cases k <;> simp [kdOf] at hk
theorem fitsL_kds {T : Typ.Tab} {f : Nat} : ∀ {aa : List Typ.At} {ds : List D} {ks : List Kd}, fitsL T f aa ds → kdsOf aa ks = true → fits ds ks = true
  | [], [], [], _, _ => rfl
  | a :: aa, d :: ds, k :: ks, h, hk => by
    unfold kdsOf at hk
    rw [Bool.and_eq_true] at hk
    unfold fits
    rw [Bool.and_eq_true]
    exact ⟨fit_kd h.1 hk.1, fitsL_kds h.2 hk.2⟩
  | [], [], _ :: _, _, hk => by simp [kdsOf] at hk
  | _ :: _, _ :: _, [], _, hk => by simp [kdsOf] at hk
  | [], _ :: _, _, h, _ => h.elim
  | _ :: _, [], _, h, _ => h.elim
theorem fitsL_append {T : Typ.Tab} {f : Nat} : ∀ {aa bs : List Typ.At} {ds es : List D}, fitsL T f aa ds → fitsL T f bs es → fitsL T f (aa ++ bs) (ds ++ es)
  | [], _, [], _, _, h => h
  | _ :: _, _, _ :: _, _, h1, h2 => ⟨h1.1, fitsL_append h1.2 h2⟩
  | [], _, _ :: _, _, h, _ => h.elim
  | _ :: _, _, [], _, h, _ => h.elim
section
variable {E : Typ.Env} {κ : Typ.Kr} {q : Nat} {w : World}
theorem list_ok (hE : Typ.EnvOk E) (hi : Typ.Inv E κ q w) (f : Nat) : ∀ (aa : List Typ.At) (vs : List Value), aa.all (plainA E.P E.T f) = true → Typ.gList E κ aa vs → ∃ ds, fitsL E.T f aa ds ∧ ds.length = vs.length ∧ ∀ (j : Nat) (d : D), ds[j]? = some d → ∃ v, vs[j]? = some v ∧ gD E.P (zTop E.w0.heap.size w) d v
  | [], [], _, _ => ⟨[], trivial, rfl, fun j d hj => by simp at hj⟩
  | a :: aa, v :: vs, hp, ⟨h1, h2⟩ => by
    rw [List.all_cons, Bool.and_eq_true] at hp
    obtain ⟨d, q1, q2⟩ := at_ok hE hi f a v hp.1 h1
    obtain ⟨ds, q3, q4, q5⟩ := list_ok hE hi f aa vs hp.2 h2
    refine ⟨d :: ds, ⟨q1, q3⟩, by simp [q4], fun j x hj => ?_⟩
    cases j with
    | zero => simp at hj; subst hj; exact ⟨v, rfl, q2⟩
    | succ j => simpa using q5 j x (by simpa using hj)
theorem res_ok (hE : Typ.EnvOk E) (hi : Typ.Inv E κ q w) (f : Nat) : ∀ (ts : List Nat) (xs : List Typ.V1) (vs : List Value), matchV E.P ts xs = true → (flatV xs).all (plainA E.P E.T f) = true → Typ.gV1s E κ xs vs →
    ∃ rk ds cells, ksAll E.P ts = some rk ∧ splitVal E.P ts cells vs ∧ fitsL E.T f (flatV xs) ds ∧ fits ds rk = true ∧ ds.length = cells.length ∧ ∀ (j : Nat) (d : D), ds[j]? = some d → ∃ v, cells[j]? = some v ∧ gD E.P (zTop E.w0.heap.size w) d v
  | [], [], [], _, _, _ => ⟨[], [], [], rfl, ⟨rfl, rfl⟩, trivial, rfl, rfl, fun j d hj => by simp at hj⟩
  | t :: ts, .one a :: xs, v :: vs, hm, hp, ⟨h1, h2⟩ => by
    unfold matchV at hm
    rw [Bool.and_eq_true] at hm
    obtain ⟨hm1, hm2⟩ := hm
    split at hm1 <;> try (cases hm1; done)
    rename_i ks hks
    rw [Bool.and_eq_true, Bool.not_eq_true'] at hm1
    simp only [flatV, List.all_cons, Bool.and_eq_true] at hp
    obtain ⟨d, q1, q2⟩ := at_ok hE hi f a v hp.1 h1
    obtain ⟨rk, ds, cells, r1, r2, r3, r4, r5, r6⟩ := res_ok hE hi f ts xs vs hm2 hp.2 h2
    have hf1 := fitsL_kds (T := E.T) (f := f) (aa := [a]) (ds := [d]) ⟨q1, trivial⟩ hm1.2
    have hk1 : ∃ k, ks = [k] ∧ fitK d k = true := by
      match ks, hf1 with
      | [k], h => unfold fits at h; rw [Bool.and_eq_true] at h; exact ⟨k, rfl, h.1⟩
      | [], h => simp [fits] at h
      | _ :: _ :: _, h => simp [fits] at h
    obtain ⟨k, rfl, hk⟩ := hk1
    refine ⟨k :: rk, d :: ds, v :: cells, by unfold ksAll; rw [hks, r1]; rfl, splitVal_one hks hm1.1 r2, ⟨q1, r3⟩, by unfold fits; rw [Bool.and_eq_true]; exact ⟨hk, r4⟩, by simp [r5], fun j x hj => ?_⟩
    cases j with
    | zero => simp at hj; subst hj; exact ⟨v, rfl, q2⟩
    | succ j => simpa using r6 j x (by simpa using hj)
  | t :: ts, .agg m :: xs, v :: vs, hm, hp, ⟨h1, h2⟩ => by
    unfold matchV at hm
    rw [Bool.and_eq_true] at hm
    obtain ⟨hm1, hm2⟩ := hm
    split at hm1 <;> try (cases hm1; done)
    rename_i ks hks
    rw [Bool.and_eq_true] at hm1
    simp only [flatV, List.all_append, Bool.and_eq_true] at hp
    obtain ⟨arr, rfl, harr⟩ := h1
    obtain ⟨d, q1, q2, q3⟩ := list_ok hE hi f m arr.toList hp.1 harr
    obtain ⟨rk, ds, cells, r1, r2, r3, r4, r5, r6⟩ := res_ok hE hi f ts xs vs hm2 hp.2 h2
    have hf1 := fitsL_kds q1 hm1.2
    have hfa : ∀ {a b : List D} {x y : List Kd}, fits a x = true → fits b y = true → fits (a ++ b) (x ++ y) = true := by
      intro a
      induction a with
      | nil => intro b x y h1 h2; cases x with | nil => exact h2 | cons k x => simp [fits] at h1
      | cons c a ih =>
        intro b x y h1 h2
        cases x with
        | nil => simp [fits] at h1
        | cons k x => simp only [fits, List.cons_append, Bool.and_eq_true] at h1 ⊢; exact ⟨h1.1, ih h1.2 h2⟩
    have hfl : ∀ {a : List D} {x : List Kd}, fits a x = true → a.length = x.length := by
      intro a
      induction a with
      | nil => intro x h; cases x with | nil => rfl | cons k x => simp [fits] at h
      | cons c a ih => intro x h; cases x with | nil => simp [fits] at h | cons k x => simp only [fits, Bool.and_eq_true] at h; simp [ih h.2]
    have hkl : ks.length = arr.size := by rw [← hfl hf1, q2]; simp
    refine ⟨ks ++ rk, d ++ ds, arr.toList ++ cells, by unfold ksAll; rw [hks, r1], splitVal_agg hks hm1.1 hkl r2, fitsL_append q1 r3, hfa hf1 r4, by simp [r5, q2], fun j x hj => ?_⟩
    by_cases hlt : j < d.length
    · rw [List.getElem?_append_left hlt] at hj
      obtain ⟨v, s1, s2⟩ := q3 j x hj
      exact ⟨v, by rw [List.getElem?_append_left (by rw [← q2]; exact hlt)]; exact s1, s2⟩
    · rw [List.getElem?_append_right (by omega)] at hj
      obtain ⟨v, s1, s2⟩ := r6 _ x hj
      exact ⟨v, by rw [List.getElem?_append_right (by rw [← q2]; omega), ← q2]; exact s1, s2⟩
  | [], [], _ :: _, _, _, h => h.elim
  | _ :: _, .one _ :: _, [], _, _, h => h.elim
  | _ :: _, .agg _ :: _, [], _, _, h => h.elim
  | [], _ :: _, _, hm, _, _ => by simp [matchV] at hm
  | _ :: _, [], _, hm, _, _ => by simp [matchV] at hm
end
def tupOk : Typ.AV → Bool
  | .v _ => true
  | .tup l => l.length != 1
/-- Bytes. -/
def bytesD (el : Nat) (xs : List D) : Prop := ∃ n l, xs = [.list el n l] ∧ ∀ d ∈ l, ∃ z : Int, d = .int .u8 z ∧ 0 ≤ z ∧ z ≤ 255
/-- A drawing function answers with what is of the type that was found. -/
theorem draw_ok {β : Typ.Bd} {F : Typ.Fns} {f M fuel : Nat} {fn : Func} {av : Typ.AV} (hF : ∀ (w : World) (ao : Option Addr) (len cap : Nat), len ≤ cap → Bytes w ao len w.heap.size → Typ.FnsOk (Typ.envOf Try.prog β w ao len cap) F)
    (hf : Try.prog.funcs[f]? = some fn) (hn : (fn.name == "runtime.NumGoroutine") = false) (hb : fn.body.isNone = false) (hM : M ≤ Typ.qMax) (h : Typ.absFunc (Typ.tabOf Try.prog β) F M fuel fn [.v (.one .code)] = some av)
    {tb el : Nat} (hp : fn.params.toList = [tb]) (htb : ksOf Try.prog tb = some [.list el]) (htbs : isSt Try.prog tb = false) (hel : sz Try.prog el = 1) (g : Nat)
    (ht : tupOk av = true) (hm : matchV Try.prog fn.resultTypes.toList (listV av) = true) (hpl : (flatV (listV av)).all (plainA Try.prog (Typ.tabOf Try.prog β) g) = true) :
    FnOk Try.prog f (sigF fn (bytesD el) (fun _ ys => fitsL (Typ.tabOf Try.prog β) g (flatV (listV av)) ys)) := by
  refine ⟨⟨fn, hf, hn, hb⟩, ?_⟩
  show ∀ (w : World) (zz : Nat → Option Obj) (vs : Array Value) (xs : List D) (ks : List Kd) (cells : List Value), _ → _ → _ → _ → _ → _ → _
  intro w zz vs xs ks cells hzz hks hsp hfit hg hpre
  obtain ⟨n, l, rfl, hl⟩ := hpre
  have hsp' : splitVal Try.prog fn.params.toList cells vs.toList := hsp
  have hks' : ksAll Try.prog fn.params.toList = some ks := hks
  rw [hp] at hsp' hks'
  have e1 : ks = [.list el] := by simp [ksAll, htb] at hks'; exact hks'.symm
  subst e1
  -- the one argument
  have harg : ∃ v, vs = #[v] ∧ gD Try.prog zz (.list el n l) v := by
    obtain ⟨vl⟩ := vs
    match vl, hsp' with
    | v :: vl, h9 =>
      unfold splitVal at h9
      rw [htb] at h9
      simp only at h9
      rw [if_neg (by rw [htbs]; simp)] at h9
      obtain ⟨rest, rfl, h9⟩ := h9
      match vl, h9 with
      | [], h9 => exact ⟨v, rfl, hg.1⟩
      | _ :: _, h9 => unfold splitVal at h9; exact absurd h9.2 (by simp)
  obtain ⟨v, rfl, hv⟩ := harg
  unfold gD at hv
  obtain ⟨Ad, c, rfl, hnc, hll, hv⟩ := hv
  rw [hel, Nat.mul_one] at hll
  have hB : Bytes w Ad n w.heap.size := by
    rcases hv with h0 | ⟨b, o, arr, ty, fr, rfl, hz, hd⟩
    · exact .inl h0
    · refine .inr ⟨b, o, rfl, block_of (hzz b _ hz), fun i hi => ?_⟩
      have hlt : i < l.length := by omega
      obtain ⟨x, q1, q2⟩ := hd.at i l[i] (List.getElem?_eq_getElem hlt)
      obtain ⟨z, hz1, hz2, hz3⟩ := hl l[i] (List.getElem_mem hlt)
      rw [hz1] at q2
      unfold gD at q2
      refine ⟨z, hz2, hz3, ?_⟩
      rw [cell_of (hzz b _ hz) (i := o + i) (x := x) ?_, q2]
      rw [List.getElem?_drop] at q1
      simpa using q1
  refine (Typ.draw_call (hF w Ad n c hnc hB) hf hM h).mono ?_
  rintro e w' ⟨κ, v, rfl, hi, hgv, hbl⟩
  have hE := Typ.envOk Try.prog β w Ad n c
  have hvs : ∃ us, Typ.gV1s (Typ.envOf Try.prog β w Ad n c) κ (listV av) us ∧ v = wrapVal us := by
    cases av with
    | v x => exact ⟨[v], ⟨hgv, trivial⟩, rfl⟩
    | tup l =>
      obtain ⟨⟨vs⟩, rfl, h9⟩ := hgv
      refine ⟨vs, h9, ?_⟩
      have hlen : l.length = vs.length := by
        have : ∀ {l : List Typ.V1} {vs : List Value}, Typ.gV1s (Typ.envOf Try.prog β w Ad n c) κ l vs → l.length = vs.length := by
          intro l
          induction l with
          | nil => intro vs h; cases vs with | nil => rfl | cons v vs => exact h.elim
          | cons x l ih => intro vs h; cases vs with | nil => exact h.elim | cons v vs => simp [ih h.2]
        exact this h9
      have ht : (l.length != 1) = true := ht
      rw [hlen] at ht
      match vs, ht with
      | [], _ => rfl
      | [u], ht => simp at ht
      | _ :: _ :: _, _ => rfl
  obtain ⟨us, hu1, hu2⟩ := hvs
  obtain ⟨rk, ds, cells, r1, r2, r3, r4, r5, r6⟩ := res_ok hE hi g fn.resultTypes.toList (listV av) us hm hpl hu1
  have hz : ∀ b x, zTop w.heap.size w' b = some x → zNew zz w w' b = some x := fun b x hx => by
    unfold zTop at hx
    unfold zNew
    split at hx
    · cases hx
    · rename_i h9; rw [if_neg h9]; exact hx
  obtain ⟨g1, g2, g3⟩ := fits_sels (P := Try.prog) (κ := ⟨fun _ => none, zNew zz w w'⟩) [] ds rk cells r4 r5 (fun j d hj => by
    obtain ⟨x, s1, s2⟩ := r6 j d hj
    exact ⟨x, s1, gD.mono hz s2⟩)
  exact ⟨v, ds, rfl, r3, hbl, rk, cells, us, r1, g2, r2, g3, hu2⟩
end Go.Proofs.Ytplcdadedpbkpaa.Mini
end
section
/- Exact values: whatever came in, opened by its type; a law by its function's answer. -/
namespace Go.Proofs.Ytplcdadedpbkpaa.Mini
open Go Go.RowKit Go.ChangeShapes Go.WideShapes Go.Deep
set_option linter.unusedVariables false
set_option maxRecDepth 20000

/-- What came in, by its kind: numbers within their bounds, texts and lists not too long. -/
def wfK (P : Program) : Nat → Kd → D → Prop
  | _, .int k, d => ∃ n : Int, d = .int k n ∧ (Lit.int k n).wf = true
  | _, .bool, d => ∃ b, d = .bool b
  | _, .str, d => ∃ s : ByteArray, d = .str s ∧ s.size ≤ maxLen
  | 0, .list _, _ => False
  | f + 1, .list t, d => ∃ (n : Nat) (cs : List D) (ks : List Kd), d = .list t n cs ∧ n ≤ maxLen ∧ ksOf P t = some ks ∧ cs.length = n * ks.length ∧ ∀ (j : Nat) (x : D), cs[j]? = some x → ∃ k, ks[j % ks.length]? = some k ∧ wfK P f k x
def wfXs (P : Program) (f : Nat) : List Kd → List D → Prop
  | [], [] => True
  | k :: ks, d :: ds => wfK P f k d ∧ wfXs P f ks ds
  | _, _ => False
/-- The fields of a struct lie one behind the other. -/
def contF (P : Program) (K : Nat → Option (List Kd)) (G : Nat → Bool) : Nat → List Field → Bool
  | _, [] => true
  | o, fd :: fs => match K fd.type with
    | some ks => fd.offset == o && P.cellsOf fd.type == ks.length && G fd.type && contF P K G (o + ks.length) fs
    | none => false
def flatOk (P : Program) : Nat → Nat → Bool
  | 0, _ => false
  | f + 1, t => match P.underlying t with
    | some (.int _) => true
    | some .bool => true
    | some .string => true
    | some (.slice _) => true
    | some (.struct fs) => contF P (kinds P f) (flatOk P f) 0 fs.toList
    | _ => false
def deepOk (P : Program) : Nat → Kd → Bool
  | 0, .list _ => false
  | f + 1, .list e => match ksOf P e with
    | some ks => P.cellsOf e == ks.length && sz P e == ks.length && decide (0 < ks.length) && flatOk P 6 e && ks.all (deepOk P f)
    | none => false
  | _, _ => true
def topOk (P : Program) (f : Nat) (t : Nat) : Bool := match ksOf P t with
  | some ks => P.cellsOf t == ks.length && flatOk P 6 t && ks.all (deepOk P f)
  | none => false
def descK : Kd → TypeDesc
  | .int k => .int k
  | .bool => .bool
  | .str => .string
  | .list t => .slice t
section
variable {H : Type} {enc : TypeId × Value → H} {P : Program} {w : World}
def leaf (enc : TypeId × Value → H) (P : Program) (w : World) (k : Kd) (v : Value) : Prop := ∃ n t y, P.underlying t = some (descK k) ∧ DataW.trod enc P w 0 (fun _ => true) true n t [v] = some y
theorem kinds_of {t : Nat} {ks : List Kd} (h : ksOf P t = some ks) : kinds P 6 t = some ks ∧ ∃ e, ti P t = some e ∧ (Typ.isStruct e.und = true ∨ ks.length = 1) := by
  unfold ksOf at h
  split at h <;> try (cases h; done)
  rename_i ks' et h1 h2
  split at h <;> try (cases h; done)
  rename_i hc
  injection h with h; subst h
  exact ⟨h1, et, h2, hc.2⟩
theorem fields_open {K : Nat → Option (List Kd)} {G : Nat → Bool} {n : Nat} {cs : List Value} (ih : ∀ t ks cs y, K t = some ks → G t = true → DataW.trod enc P w 0 (fun _ => true) true n t cs = some y → ∀ (j : Nat) (k : Kd), ks[j]? = some k → ∃ v, cs[j]? = some v ∧ leaf enc P w k v) :
    ∀ (fs : List Field) (o : Nat) (ks : List Kd), fs.foldr (fun fd acc => match K fd.type, acc with | some a, some b => some (a ++ b) | _, _ => none) (some []) = some ks → contF P K G o fs = true →
      (∀ fd ∈ fs, ∃ y, DataW.trod enc P w 0 (fun _ => true) true n fd.type ((cs.drop fd.offset).take (P.cellsOf fd.type)) = some y) → ∀ (j : Nat) (k : Kd), ks[j]? = some k → ∃ v, cs[o + j]? = some v ∧ leaf enc P w k v
  | [], o, ks, h, _, _, j, k, hj => by simp at h; subst h; simp at hj
  | fd :: fs, o, ks, h, hc, hall, j, k, hj => by
    rw [List.foldr_cons] at h
    split at h <;> try (cases h; done)
    rename_i a b ha hb
    injection h with h; subst h
    unfold contF at hc
    rw [ha] at hc
    simp only [Bool.and_eq_true, beq_iff_eq] at hc
    obtain ⟨⟨⟨h1, h2⟩, h3⟩, h4⟩ := hc
    by_cases hlt : j < a.length
    · rw [List.getElem?_append_left hlt] at hj
      obtain ⟨y, hy⟩ := hall fd (by simp)
      obtain ⟨v, hv, hl⟩ := ih _ _ _ _ ha h3 hy j k hj
      rw [h2, List.getElem?_take_of_lt hlt, List.getElem?_drop, h1] at hv
      exact ⟨v, hv, hl⟩
    · rw [List.getElem?_append_right (by omega)] at hj
      obtain ⟨v, hv, hl⟩ := fields_open ih fs (o + a.length) b hb h4 (fun fd' hf => hall fd' (by simp [hf])) (j - a.length) k hj
      exact ⟨v, by rw [← hv]; congr 1; omega, hl⟩
theorem one_leaf {t n : Nat} {k0 : Kd} {cs : List Value} {y : DataW H × List MemPlace} (hu : P.underlying t = some (descK k0)) (h1 : ∃ v, cs = [v]) (h : DataW.trod enc P w 0 (fun _ => true) true n t cs = some y) {j : Nat} {k : Kd} (hj : [k0][j]? = some k) : ∃ v, cs[j]? = some v ∧ leaf enc P w k v := by
  obtain ⟨v, rfl⟩ := h1
  have hj0 : j = 0 := by have := (List.getElem?_eq_some_iff.mp hj).1; simp at this; omega
  subst hj0
  simp at hj
  subst hj
  exact ⟨v, rfl, n, t, y, hu, h⟩
theorem open_flat : ∀ (f t : Nat) (ks : List Kd) (n : Nat) (cs : List Value) (y : DataW H × List MemPlace), kinds P f t = some ks → flatOk P f t = true → DataW.trod enc P w 0 (fun _ => true) true n t cs = some y →
    ∀ (j : Nat) (k : Kd), ks[j]? = some k → ∃ v, cs[j]? = some v ∧ leaf enc P w k v
  | 0, t, ks, n, cs, y, h, _, _, j, k, hj => by cases h
  | f + 1, t, ks, n, cs, y, h, hf, ht, j, k, hj => by
    unfold kinds at h
    unfold flatOk at hf
    split at h <;> try (cases h; done)
    · rename_i q hu
      injection h with h; subst h
      obtain ⟨x, rfl, _⟩ := DataW.trod_int hu ht
      exact one_leaf (k0 := .int q) hu ⟨_, rfl⟩ ht hj
    · rename_i hu
      injection h with h; subst h
      obtain ⟨x, rfl, _⟩ := DataW.trod_bool hu ht
      exact one_leaf (k0 := .bool) hu ⟨_, rfl⟩ ht hj
    · rename_i hu
      injection h with h; subst h
      obtain ⟨x, rfl, _⟩ := DataW.trod_string hu ht
      exact one_leaf (k0 := .str) hu ⟨_, rfl⟩ ht hj
    · rename_i el hu
      injection h with h; subst h
      have hone : ∃ v, cs = [v] := by
        rcases open_slice hu ht with ⟨rfl, _⟩ | ⟨ad, l, c, m, n', D, Pl, rfl, _⟩ <;> exact ⟨_, rfl⟩
      exact one_leaf (k0 := .list el) hu hone ht hj
    · rename_i fs hu
      rw [hu] at hf
      simp only at hf
      obtain ⟨xs, n', rfl, _, hl, hlen, hx⟩ := DataW.trod_struct hu ht
      have := fields_open (enc := enc) (w := w) (n := n') (cs := cs) (fun t ks cs y h1 h2 h3 => open_flat f t ks n' cs y h1 h2 h3) fs.toList 0 ks h hf (fun fd hfd => by
        obtain ⟨i, hi, rfl⟩ := List.getElem_of_mem hfd
        have h1 : fs[i]? = some fs.toList[i] := by rw [← Array.getElem?_toList]; exact List.getElem?_eq_getElem hi
        have h2 := hx i _ h1
        have hlt : i < xs.length := by rw [hlen]; simpa using hi
        rw [List.getElem?_eq_getElem hlt] at h2
        exact ⟨_, h2⟩) j k hj
      simpa using this
/-- A list that is seen, as a value; its things may hold lists. -/
theorem gD_of_sees' {t n c : Nat} {A : Option Addr} {xs : List Value} {ds : List D} (hc : n ≤ c) (hr : Sees w w.heap.size (sz P t) A n xs) (hl : ds.length = xs.length)
    (hd : ∀ (j : Nat) (d : D), ds[j]? = some d → ∃ v, xs[j]? = some v ∧ gD P (fun b => w.heap[b]?) d v) : gD P (fun b => w.heap[b]?) (.list t n ds) (.slice A n c) := by
  unfold gD
  refine ⟨A, c, rfl, hc, by rw [hl, hr.1], ?_⟩
  by_cases h0 : n = 0
  · exact .inl h0
  refine .inr ?_
  obtain ⟨b, off, rfl, hb, hcell⟩ := hr.2 (by omega)
  have hxs : xs.length = n * sz P t := hr.1
  have hpos : 0 < xs.length := by rw [hxs]; exact Nat.mul_pos (by omega) (sz_pos P t)
  have h1 := hcell 0 xs[0] (List.getElem?_eq_getElem hpos)
  have hblk : ∃ arr ty fr, w.heap[b]? = some (.cells arr ty fr) := by
    unfold World.cell? at h1
    simp only at h1
    split at h1
    · exact ⟨_, _, _, by assumption⟩
    · cases h1
  obtain ⟨arr, ty, fr, hblk⟩ := hblk
  refine ⟨b, off, arr, ty, fr, rfl, hblk, gDs.of fun j d hj => ?_⟩
  obtain ⟨v, hv, hg⟩ := hd j d hj
  have h2 := hcell j v hv
  unfold World.cell? at h2
  rw [hblk] at h2
  simp at h2
  refine ⟨v, ?_, hg⟩
  rw [List.getElem?_drop]
  simpa using h2
theorem choose_two {R : Nat → D → Value → Prop} : ∀ n, (∀ j, j < n → ∃ d v, R j d v) → ∃ (ds : List D) (vs : List Value), ds.length = n ∧ vs.length = n ∧ ∀ (j : Nat) (d : D), ds[j]? = some d → ∃ v, vs[j]? = some v ∧ R j d v
  | 0, _ => ⟨[], [], rfl, rfl, fun j d hj => by simp at hj⟩
  | n + 1, h => by
    obtain ⟨ds, vs, h1, h2, h3⟩ := choose_two n (fun j hj => h j (by omega))
    obtain ⟨d, v, hd⟩ := h n (by omega)
    refine ⟨ds ++ [d], vs ++ [v], by simp [h1], by simp [h2], fun j x hx => ?_⟩
    by_cases hj : j < n
    · rw [List.getElem?_append_left (by omega)] at hx
      obtain ⟨u, hu, hr⟩ := h3 j x hx
      exact ⟨u, by rw [List.getElem?_append_left (by omega)]; exact hu, hr⟩
    · rw [List.getElem?_append_right (by omega)] at hx
      have hlt := (List.getElem?_eq_some_iff.mp hx).1
      have e : j = n := by simp at hlt; omega
      subst e
      rw [show j - ds.length = 0 by omega] at hx
      simp at hx
      subst hx
      exact ⟨v, by rw [List.getElem?_append_right (by omega)]; simp [h2], hd⟩
theorem add_add (a : Addr) (p q : Nat) : (a.add p).add q = a.add (p + q) := by
  unfold Addr.add
  by_cases hp : p = 0
  · subst hp; simp
  · by_cases hq : q = 0
    · subst hq; simp [hp]
    · simp [hp, hq]; omega
theorem leaf_ok : ∀ (f : Nat) (k : Kd) (v : Value), deepOk P f k = true → leaf enc P w k v → ∃ d, wfK P f k d ∧ gD P (fun b => w.heap[b]?) d v := by
  have flat : ∀ (f : Nat) (k : Kd) (v : Value), (∀ t, k ≠ .list t) → leaf enc P w k v → ∃ d, wfK P f k d ∧ gD P (fun b => w.heap[b]?) d v := by
    intro f k v hk ⟨n, t, y, hu, ht⟩
    cases k with
    | int k =>
      obtain ⟨x, e, _, hw⟩ := DataW.trod_int hu ht
      obtain rfl : v = .int k x := by simpa using e
      exact ⟨.int k x, by cases f <;> exact ⟨x, rfl, hw⟩, by unfold gD; rfl⟩
    | bool =>
      obtain ⟨x, e, _⟩ := DataW.trod_bool hu ht
      obtain rfl : v = .bool x := by simpa using e
      exact ⟨.bool x, by cases f <;> exact ⟨x, rfl⟩, by unfold gD; rfl⟩
    | str =>
      obtain ⟨x, e, _, hw⟩ := DataW.trod_string hu ht
      obtain rfl : v = .string x := by simpa using e
      exact ⟨.str x, by cases f <;> exact ⟨x, rfl, hw⟩, by unfold gD; rfl⟩
    | list t => exact absurd rfl (hk t)
  intro f
  induction f with
  | zero =>
    intro k v hd hl
    cases k with
    | list t => cases hd
    | _ => exact flat 0 _ v (by simp) hl
  | succ f ih =>
    intro k v hd hl
    cases k with
    | list e =>
      unfold deepOk at hd
      split at hd <;> try (cases hd; done)
      rename_i ks hks
      simp only [Bool.and_eq_true, beq_iff_eq, decide_eq_true_eq] at hd
      obtain ⟨⟨⟨⟨d1, d2⟩, d3⟩, d4⟩, d5⟩ := hd
      obtain ⟨n, t, y, hu, ht⟩ := hl
      rcases open_slice hu ht with ⟨e1, _⟩ | ⟨ad, l, c, m, n', D', Pl, e1, hb, hlc, hcm, hm, _, hx⟩
      · obtain rfl : v = .slice none 0 0 := by simpa using e1
        exact ⟨.list e 0 [], ⟨0, [], ks, rfl, Nat.zero_le _, hks, by simp, fun j x hj => by simp at hj⟩, by unfold gD; exact ⟨none, 0, rfl, Nat.le_refl _, by simp, .inl rfl⟩⟩
      · obtain rfl : v = .slice (some ad) l c := by simpa using e1
        have hml : l ≤ m := by rw [hm]; simpa using hlc
        have hcell : ∀ j, j < l * ks.length → ∃ (d : D) (u : Value), (∃ k, ks[j % ks.length]? = some k ∧ wfK P f k d) ∧ w.cell? (ad.add (j / ks.length * ks.length + j % ks.length)) = some u ∧ gD P (fun b => w.heap[b]?) d u := by
          intro j hj
          have hjd : j / ks.length < l := Nat.div_lt_of_lt_mul (by rw [Nat.mul_comm]; exact hj)
          have hjm : j % ks.length < ks.length := Nat.mod_lt _ d3
          obtain ⟨cs', h1, h2⟩ := hx (j / ks.length) (by omega)
          obtain ⟨u, hv, hlf⟩ := open_flat 6 e ks n' cs' _ (kinds_of hks).1 d4 h2 (j % ks.length) ks[j % ks.length] (List.getElem?_eq_getElem hjm)
          obtain ⟨d, q1, q2⟩ := ih _ u (List.all_eq_true.mp d5 _ (List.getElem_mem hjm)) hlf
          obtain ⟨_, hlen, h3⟩ := World.cells?_some h1
          have h4 := h3 (j % ks.length) (by rw [d1]; exact hjm)
          rw [hv, d1] at h4
          refine ⟨d, u, ⟨_, List.getElem?_eq_getElem hjm, q1⟩, ?_, q2⟩
          have hadd : (ad.add (j / ks.length * ks.length)).add (j % ks.length) = ad.add (j / ks.length * ks.length + j % ks.length) := add_add _ _ _
          rw [← hadd]; exact h4
        obtain ⟨ds, vs, z1, z2, z3⟩ := choose_two (l * ks.length) hcell
        refine ⟨.list e l ds, ⟨l, ds, ks, rfl, by omega, hks, z1, fun j x hj => ?_⟩, gD_of_sees' (xs := vs) hlc ⟨by rw [z2, d2], fun hl0 => ?_⟩ (by rw [z1, z2]) (fun j d hj => ?_)⟩
        · obtain ⟨_, _, hk, _⟩ := z3 j x hj
          exact hk
        · have hp0 : 0 < l * ks.length := Nat.mul_pos hl0 d3
          obtain ⟨bb, oo, ss⟩ := ad
          obtain ⟨u0, hu0, _, hc0, _⟩ := z3 0 (ds[0]'(by omega)) (List.getElem?_eq_getElem (by omega))
          have hss : ss = none := by simpa [Addr.add] using World.cell?_spot hc0
          subst hss
          have hblk : bb < w.heap.size := by
            have := block_lt_of_cell hc0
            simpa [Addr.add] using this
          refine ⟨bb, oo, rfl, hblk, fun j u hu => ?_⟩
          have hj : j < ds.length := by rw [z1, ← z2]; exact (List.getElem?_eq_some_iff.mp hu).1
          obtain ⟨u', hu', _, hc', _⟩ := z3 j ds[j] (List.getElem?_eq_getElem hj)
          rw [hu] at hu'
          injection hu' with hu'
          subst hu'
          rw [show j / ks.length * ks.length + j % ks.length = j by rw [Nat.mul_comm]; exact Nat.div_add_mod j _] at hc'
          rw [← hc']
          cases j <;> simp [Addr.add]
        · obtain ⟨u, hu, _, _, hg⟩ := z3 j d hj
          exact ⟨u, hu, hg⟩
    | _ => exact flat (f + 1) _ v (by simp) hl
theorem leaves_ok {f : Nat} : ∀ (ks : List Kd) (cs : List Value), cs.length = ks.length → ks.all (deepOk P f) = true → (∀ (j : Nat) (k : Kd), ks[j]? = some k → ∃ v, cs[j]? = some v ∧ leaf enc P w k v) →
    ∃ xs : List D, wfXs P f ks xs ∧ xs.length = cs.length ∧ ∀ (j : Nat) (d : D), xs[j]? = some d → ∃ v, cs[j]? = some v ∧ gD P (fun b => w.heap[b]?) d v
  | [], [], _, _, _ => ⟨[], trivial, rfl, fun j d hj => by simp at hj⟩
  | k :: ks, v :: cs, hl, ha, h => by
    rw [List.all_cons, Bool.and_eq_true] at ha
    obtain ⟨v', h1, h2⟩ := h 0 k rfl
    simp at h1
    subst h1
    obtain ⟨d, g1, g2⟩ := leaf_ok f k v ha.1 h2
    obtain ⟨xs, x1, x2, x3⟩ := leaves_ok ks cs (by simpa using hl) ha.2 (fun j k hj => by simpa using h (j + 1) k (by simpa using hj))
    refine ⟨d :: xs, ⟨g1, x1⟩, by simp [x2], fun j d' hj => ?_⟩
    cases j with
    | zero => simp at hj; subst hj; exact ⟨v, rfl, g2⟩
    | succ j => simpa using x3 j d' (by simpa using hj)
  | [], _ :: _, hl, _, _ => by simp at hl
  | _ :: _, [], hl, _, _ => by simp at hl
theorem wfXs_append {f : Nat} : ∀ {ks ks' : List Kd} {xs xs' : List D}, wfXs P f ks xs → wfXs P f ks' xs' → wfXs P f (ks ++ ks') (xs ++ xs')
  | [], _, [], _, _, h => h
  | _ :: _, _, _ :: _, _, ⟨h1, h2⟩, h => ⟨h1, wfXs_append h2 h⟩
theorem open_args {f : Nat} {r : Reach} {b0 : Nat} : ∀ {ts : List Nat} {vs : List Value} {ds : List (DataW H)} {p : List MemPlace} {ks : List Kd}, DataW.TrodAll enc P w 0 (fun _ => true) true ts vs ds p → (∀ (j : Nat) t v, ts[j]? = some t → vs[j]? = some v → Value.okWide P w r b0 t v) → ksAll P ts = some ks → ts.all (topOk P f) = true →
    ∃ (cells : List Value) (xs : List D), splitVal P ts cells vs ∧ wfXs P f ks xs ∧ xs.length = cells.length ∧ ∀ (j : Nat) (d : D), xs[j]? = some d → ∃ v, cells[j]? = some v ∧ gD P (fun b => w.heap[b]?) d v
  | [], vs, ds, p, ks, h, _, hk, _ => by
    obtain ⟨rfl, _, _⟩ := trodAll_nil h
    injection hk with hk; subst hk
    exact ⟨[], [], ⟨rfl, rfl⟩, trivial, rfl, fun j d hj => by simp at hj⟩
  | t :: ts, vs, ds, p, ks, h, hv, hk, ha => by
    obtain ⟨v, vs', d, ds', p', q', rfl, rfl, rfl, ⟨n, h1⟩, h2⟩ := trodAll_cons h
    rw [List.all_cons, Bool.and_eq_true] at ha
    unfold ksAll at hk
    split at hk <;> try (cases hk; done)
    rename_i k1 k2 hk1 hk2
    injection hk with hk; subst hk
    obtain ⟨cells, xs, c1, c2, c3, c4⟩ := open_args (f := f) h2 (fun j t v hj hv' => hv (j + 1) t v (by simpa using hj) (by simpa using hv')) hk2 ha.2
    have ht := ha.1
    unfold topOk at ht
    rw [hk1] at ht
    simp only [Bool.and_eq_true, beq_iff_eq] at ht
    obtain ⟨⟨t1, t2⟩, t3⟩ := ht
    obtain ⟨hkd, et, het, hone⟩ := kinds_of hk1
    have hlv := open_flat 6 t k1 n _ _ hkd t2 h1
    have hval := hv 0 t v rfl rfl
    have hu := (ti_spec het).1
    have key : ∃ cs : List Value, v.cells.toList = cs ∧ cs.length = k1.length ∧ splitVal P (t :: ts) (cs ++ cells) (v :: vs') := by
      by_cases hst : isSt P t = true
      · have hst' := hst
        unfold isSt at hst'
        rw [het] at hst'
        obtain ⟨fs, hfs⟩ := Typ.isStruct_not hst'
        rw [hfs] at hu
        obtain ⟨arr, rfl, hsz⟩ := okWide_struct hu hval
        refine ⟨arr.toList, rfl, by simp [hsz, t1], ?_⟩
        exact splitVal_agg hk1 hst (by rw [hsz, t1]) c1
      · have hst2 : isSt P t = false := by simpa using hst
        have h1len : k1.length = 1 := by
          rcases hone with h9 | h9
          · exfalso; apply hst; unfold isSt; rw [het]; exact h9
          · exact h9
        have hcell : v.cells = #[v] := by
          unfold kinds at hkd
          split at hkd <;> try (cases hkd; done)
          · rename_i hu2; obtain ⟨x, rfl⟩ := okWide_int hu2 hval; rfl
          · rename_i hu2; obtain ⟨x, rfl⟩ := okWide_bool hu2 hval; rfl
          · rename_i hu2; obtain ⟨x, rfl⟩ := okWide_string hu2 hval; rfl
          · rename_i hu2; obtain ⟨x, l, c, rfl⟩ := okWide_slice hu2 hval; rfl
          · rename_i fs hu2
            exfalso; apply hst
            unfold isSt; rw [het]
            rw [hu] at hu2
            injection hu2 with hu2
            simp only; rw [hu2]; rfl
        refine ⟨[v], by rw [hcell], by simp [h1len], ?_⟩
        exact splitVal_one hk1 hst2 c1
    obtain ⟨cs, hcs, hcl, hsp⟩ := key
    rw [hcs] at hlv
    obtain ⟨ys, y1, y2, y3⟩ := leaves_ok k1 cs hcl t3 hlv
    refine ⟨cs ++ cells, ys ++ xs, hsp, wfXs_append y1 c2, by simp [y2, c3], fun j d' hj => ?_⟩
    by_cases hlt : j < ys.length
    · rw [List.getElem?_append_left hlt] at hj
      obtain ⟨u, hu1, hu2⟩ := y3 j d' hj
      exact ⟨u, by rw [List.getElem?_append_left (by omega)]; exact hu1, hu2⟩
    · rw [List.getElem?_append_right (by omega)] at hj
      obtain ⟨u, hu1, hu2⟩ := c4 _ d' hj
      exact ⟨u, by rw [List.getElem?_append_right (by omega), ← y2]; exact hu1, hu2⟩
theorem wfK_fit {f : Nat} {k : Kd} {d : D} (h : wfK P f k d) : fitK d k = true := by
  cases k with
  | int k => have h' : ∃ n : Int, d = .int k n ∧ (Lit.int k n).wf = true := by cases f <;> exact h
             obtain ⟨n, rfl, _⟩ := h'; simp [fitK]
  | bool => have h' : ∃ b, d = .bool b := by cases f <;> exact h
            obtain ⟨n, rfl⟩ := h'; rfl
  | str => have h' : ∃ s : ByteArray, d = .str s ∧ s.size ≤ maxLen := by cases f <;> exact h
           obtain ⟨n, rfl, _⟩ := h'; rfl
  | list t =>
    cases f with
    | zero => exact h.elim
    | succ f => obtain ⟨n, cs, ks, rfl, _⟩ := h; simp [fitK]
theorem wfXs_fits {f : Nat} : ∀ {ks : List Kd} {xs : List D}, wfXs P f ks xs → fits xs ks = true
  | [], [], _ => rfl
  | k :: ks, d :: ds, ⟨h1, h2⟩ => by unfold fits; rw [wfK_fit h1, wfXs_fits h2]; rfl
/-- A law that is told answers 'true'. -/
theorem law_calls {f : Nat} {fn : Func} {tr m : Nat} {pre : List D → Prop} {post : List D → List D → Prop} {r : Reach} {b0 : Nat} {ks : List Kd} (h : FnOk P f ⟨fn.params.toList, fn.resultTypes.toList, pre, post, .own⟩) (hres : fn.resultTypes.toList = [tr]) (hks : ksAll P fn.params.toList = some ks) (hok : fn.params.toList.all (topOk P m) = true)
    (hr : ksOf P tr = some [.bool]) (hrs : isSt P tr = false) (hpre : ∀ xs, wfXs P m ks xs → pre xs) (hpost : ∀ xs ys, post xs ys → ys = [.bool true])
    {args : Array Value} {ds : List (DataW H)} {p : List MemPlace} (hA : DataW.TrodAll enc P w 0 (fun _ => true) true fn.params.toList args.toList ds p) (hv : ∀ (j : Nat) t v, fn.params[j]? = some t → args[j]? = some v → Value.okWide P w r b0 t v) :
    Calls P f args w fun e w' => e = .returned (.bool true) ∧ Below w.heap.size w w' := by
  obtain ⟨cells, xs, c1, c2, c3, c4⟩ := open_args (f := m) (r := r) (b0 := b0) hA (fun j t v hj hv' => hv j t v (by simpa using hj) (by simpa using hv')) hks hok
  obtain ⟨_, _, g⟩ := fits_sels (κ := ⟨fun _ => none, fun b => w.heap[b]?⟩) [] xs ks cells (wfXs_fits c2) c3 c4
  rw [hres] at h
  refine (calls_own h hks c1 (wfXs_fits c2) g (hpre xs c2)).mono ?_
  rintro e w' ⟨v, ys, rfl, hp, hb, hres'⟩
  rw [hpost _ _ hp] at hres'
  exact ⟨by rw [res_true hr hrs hres'], hb⟩
/-- The arguments behind the call, as ahead of it. -/
theorem trodAll_below (hl : laidOutB P = true) {W W' : World} (hb : Below W.heap.size W W') : ∀ {ts : List Nat} {vs : List Value} {ds : List (DataW H)} {p : List MemPlace}, ts.all (fun t => P.readableRec t && decide (t < P.types.size)) = true → DataW.TrodAll enc P W 0 (fun _ => true) true ts vs ds p → DataW.TrodAll enc P W' 0 (fun b => decide (b < W.heap.size)) true ts vs ds p
  | [], vs, ds, p, _, h => by
    obtain ⟨rfl, rfl, rfl⟩ := trodAll_nil h
    exact trodAll_mk0
  | t :: ts, vs, ds, p, ha, h => by
    obtain ⟨v, vs', d, ds', p', q', rfl, rfl, rfl, h1, h2⟩ := trodAll_cons h
    rw [List.all_cons, Bool.and_eq_true, Bool.and_eq_true, decide_eq_true_eq] at ha
    have lt : ∀ x ∈ p', x.block < W.heap.size := by obtain ⟨m, hm⟩ := h1; exact DataW.trod_lt m _ _ _ hm
    exact ⟨p', q', Below.trod hl ha.1.1 ha.1.2 h1 hb lt, trodAll_below hl hb ha.2 h2, rfl⟩
end
theorem trodAll_len {H : Type} {enc : TypeId × Value → H} {P : Program} {w : World} {b : Nat} {sp : Nat → Bool} {he : Bool} : ∀ {ts : List Nat} {vs : List Value} {ds : List (DataW H)} {p : List MemPlace}, DataW.TrodAll enc P w b sp he ts vs ds p → ds.length = ts.length
  | [], vs, ds, p, h => by
    obtain ⟨rfl, rfl, rfl⟩ := trodAll_nil h
    rfl
  | t :: ts, vs, ds, p, h => by
    obtain ⟨v, vs', d, ds', p', q', rfl, rfl, rfl, h1, h2⟩ := trodAll_cons h
    simp [trodAll_len h2]
theorem len1 {α : Type} {l : List α} {n : Nat} (h : l.length = n) (hn : n = 1) : ∃ a, l = [a] := by
  match l, h with
  | [a], _ => exact ⟨a, rfl⟩
  | [], h => simp at h; omega
  | _ :: _ :: _, h => simp at h; omega
theorem len2 {α : Type} {l : List α} {n : Nat} (h : l.length = n) (hn : n = 2) : ∃ a b, l = [a, b] := by
  match l, h with
  | [a, b], _ => exact ⟨a, b, rfl⟩
  | [], h => simp at h; omega
  | [_], h => simp at h; omega
  | _ :: _ :: _ :: _, h => simp at h; omega
theorem len3 {α : Type} {l : List α} {n : Nat} (h : l.length = n) (hn : n = 3) : ∃ a b c, l = [a, b, c] := by
  match l, h with
  | [a, b, c], _ => exact ⟨a, b, c, rfl⟩
  | [], h => simp at h; omega
  | [_], h => simp at h; omega
  | [_, _], h => simp at h; omega
  | _ :: _ :: _ :: _ :: _, h => simp at h; omega
theorem len4 {α : Type} {l : List α} {n : Nat} (h : l.length = n) (hn : n = 4) : ∃ a b c d, l = [a, b, c, d] := by
  match l, h with
  | [a, b, c, d], _ => exact ⟨a, b, c, d, rfl⟩
  | [], h => simp at h; omega
  | [_], h => simp at h; omega
  | [_, _], h => simp at h; omega
  | [_, _, _], h => simp at h; omega
  | _ :: _ :: _ :: _ :: _ :: _, h => simp at h; omega
theorem len5 {α : Type} {l : List α} {n : Nat} (h : l.length = n) (hn : n = 5) : ∃ a b c d e, l = [a, b, c, d, e] := by
  match l, h with
  | [a, b, c, d, e], _ => exact ⟨a, b, c, d, e, rfl⟩
  | [], h => simp at h; omega
  | [_], h => simp at h; omega
  | [_, _], h => simp at h; omega
  | [_, _, _], h => simp at h; omega
  | [_, _, _, _], h => simp at h; omega
  | _ :: _ :: _ :: _ :: _ :: _ :: _, h => simp at h; omega
/-- What is known of a number. -/
theorem wf_i64 {n : Int} (h : (Lit.int .i64 n).wf = true) : -9223372036854775808 ≤ n ∧ n ≤ 9223372036854775807 := by
  simp [Lit.wf, IntKind.min, IntKind.max, IntKind.bits, IntKind.signed] at h
  omega
theorem wf_u8 {n : Int} (h : (Lit.int .u8 n).wf = true) : 0 ≤ n ∧ n ≤ 255 := by
  simp [Lit.wf, IntKind.min, IntKind.max, IntKind.bits, IntKind.signed] at h
  omega
end Go.Proofs.Ytplcdadedpbkpaa.Mini
end
section
/- Exact values: functions of numbers, truths and texts whose contract was proved by a walk. -/
namespace Go.Proofs.Ytplcdadedpbkpaa.Mini
open Go Go.RowKit
set_option linter.unusedVariables false
set_option maxRecDepth 20000

def valD : D → Value
  | .int k n => .int k n
  | .bool b => .bool b
  | .str s => .string s
  | .list _ _ _ => undef
/-- Values of types, of scalar cells. -/
def valsOf (P : Program) : List Nat → List D → List Value
  | [], _ => []
  | t :: ts, ds => match ksOf P t with
    | some ks => if isSt P t = true then .agg ((ds.take ks.length).map valD).toArray :: valsOf P ts (ds.drop ks.length)
      else match ds with
        | d :: ds' => valD d :: valsOf P ts ds'
        | [] => []
    | none => []
section
variable {P : Program} {w : World}
theorem gD_val {z : Nat → Option Obj} {d : D} {v : Value} (hs : d.scalar = true) (h : gD P z d v) : v = valD d := by
  cases d with
  | int k n => unfold gD at h; exact h
  | bool b => unfold gD at h; exact h
  | str s => unfold gD at h; exact h
  | list t n c => cases hs
theorem val_gD {z : Nat → Option Obj} {d : D} (hs : d.scalar = true) : gD P z d (valD d) := by
  cases d with
  | int k n => unfold gD; rfl
  | bool b => unfold gD; rfl
  | str s => unfold gD; rfl
  | list t n c => cases hs
theorem fit_scal {d : D} {k : Kd} (h : fitK d k = true) (hk : scalK k = true) : d.scalar = true := by
  cases d <;> cases k <;> first | rfl | cases h | cases hk
theorem sels_vals {κ : Kr} : ∀ (pre rest : List D) (ks : List Kd) (vs : List Value), fits rest ks = true → ks.all scalK = true → gL P κ (sels (pre ++ rest) pre.length ks) vs → vs = rest.map valD
  | pre, [], [], [], _, _, _ => rfl
  | pre, d :: ds, k :: ks, v :: vs, h, hk, hg => by
    unfold fits at h
    rw [Bool.and_eq_true] at h
    rw [List.all_cons, Bool.and_eq_true] at hk
    obtain ⟨q1, q2⟩ := fitK_sel (ds := pre ++ d :: ds) (j := pre.length) (d := d) (by simp) h.1
    have h1 : gD P κ.z (sel (pre ++ d :: ds) pre.length k) v := hg.1
    rw [q2] at h1
    have h2 := hg.2
    have := sels_vals (pre ++ [d]) ds ks vs h.2 hk.2 (by rw [List.append_assoc, List.length_append]; exact h2)
    rw [gD_val (fit_scal h.1 hk.1) h1, this]
    rfl
  | pre, [], k :: ks, _, h, _, _ => by simp [fits] at h
  | pre, d :: ds, [], _, h, _, _ => by simp [fits] at h
  | pre, [], [], v :: vs, _, _, hg => hg.elim
  | pre, d :: ds, k :: ks, [], _, _, hg => hg.elim
theorem split_vals : ∀ {ts : List Nat} {xs : List D} {vs : List Value}, splitVal P ts (xs.map valD) vs → vs = valsOf P ts xs
  | [], xs, vs, h => h.2
  | t :: ts, xs, [], h => by unfold splitVal at h; exact h.elim
  | t :: ts, xs, v :: vs, h => by
    unfold splitVal at h
    unfold valsOf
    split at h
    · rename_i ks hks
      rw [hks]
      simp only
      split at h
      · rename_i hst
        rw [if_pos hst]
        obtain ⟨arr, rfl, h1, h2, h3⟩ := h
        rw [← List.map_drop] at h3
        rw [← split_vals h3, List.map_take, ← h2]
      · rename_i hst
        rw [if_neg hst]
        obtain ⟨rest, h1, h2⟩ := h
        cases xs with
        | nil => simp at h1
        | cons d ds =>
          simp only [List.map_cons, List.cons.injEq] at h1
          obtain ⟨rfl, rfl⟩ := h1
          show valD d :: vs = valD d :: valsOf P ts ds
          rw [← split_vals h2]
    · exact h.elim
theorem vals_split : ∀ {ts : List Nat} {xs : List D} {ks : List Kd}, ksAll P ts = some ks → xs.length = ks.length → splitVal P ts (xs.map valD) (valsOf P ts xs)
  | [], xs, ks, h, hl => by
    injection h with h; subst h
    have : xs = [] := List.eq_nil_of_length_eq_zero hl
    subst this
    exact ⟨rfl, rfl⟩
  | t :: ts, xs, ks, h, hl => by
    unfold ksAll at h
    split at h <;> try (cases h; done)
    rename_i a b ha hb
    injection h with h; subst h
    rw [List.length_append] at hl
    unfold valsOf
    rw [ha]
    simp only
    by_cases hst : isSt P t = true
    · rw [if_pos hst]
      unfold splitVal
      rw [ha]
      simp only
      rw [if_pos hst]
      refine ⟨_, rfl, by simp; omega, by simp [List.map_take], ?_⟩
      rw [← List.map_drop]
      exact vals_split hb (by rw [List.length_drop]; omega)
    · rw [if_neg hst]
      have h1 : a.length = 1 := by
        have h9 := ha
        unfold ksOf at h9
        split at h9 <;> try (cases h9; done)
        rename_i ks' et g1 g2
        split at h9 <;> try (cases h9; done)
        rename_i hc
        injection h9 with h9; subst h9
        rcases hc.2 with h8 | h8
        · exfalso; apply hst; unfold isSt; rw [g2]; exact h8
        · exact h8
      cases xs with
      | nil => simp at hl; omega
      | cons d ds =>
        unfold splitVal
        rw [ha]
        simp only
        rw [if_neg hst]
        exact ⟨ds.map valD, rfl, vals_split hb (by simp at hl; omega)⟩
theorem fits_len : ∀ {xs : List D} {ks : List Kd}, fits xs ks = true → xs.length = ks.length
  | [], [], _ => rfl
  | _ :: _, _ :: _, h => by unfold fits at h; rw [Bool.and_eq_true] at h; simp [fits_len h.2]
  | [], _ :: _, h => by simp [fits] at h
  | _ :: _, [], h => by simp [fits] at h
theorem resL_scal {base : Nat} {w' : World} : ∀ (pre rest : List D) (ks : List Kd), fits rest ks = true → ks.all scalK = true → all_ (needs (pre ++ rest) pre.length ks) ∧ resL P base w' (pre ++ rest) pre.length ks (rest.map valD) []
  | pre, [], [], _, _ => ⟨trivial, rfl, rfl⟩
  | pre, d :: ds, k :: ks, h, hk => by
    unfold fits at h
    rw [Bool.and_eq_true] at h
    rw [List.all_cons, Bool.and_eq_true] at hk
    obtain ⟨q1, q2⟩ := fitK_sel (ds := pre ++ d :: ds) (j := pre.length) (d := d) (by simp) h.1
    obtain ⟨g1, g2⟩ := resL_scal (base := base) (w' := w') (pre ++ [d]) ds ks h.2 hk.2
    rw [List.append_assoc, List.length_append] at g1 g2
    refine ⟨⟨q1, g1⟩, ?_⟩
    have hv : gD P (fun _ => none) (sel (pre ++ d :: ds) pre.length k) (valD d) := by rw [q2]; exact val_gD (fit_scal h.1 hk.1)
    cases k with
    | list t => cases hk.1
    | int k => exact ⟨hv, g2⟩
    | bool => exact ⟨hv, g2⟩
    | str => exact ⟨hv, g2⟩
  | pre, [], k :: ks, h, _ => by simp [fits] at h
  | pre, d :: ds, [], h, _ => by simp [fits] at h
/-- A function of scalars, by its contract. -/
theorem ok_of_calls {f : Nat} {fn : Func} {pre : List D → Prop} {post : List D → List D → Prop} {ks rk : List Kd} (hf : P.funcs[f]? = some fn) (hn : (fn.name == "runtime.NumGoroutine") = false) (hb : fn.body.isNone = false)
    (hks : ksAll P fn.params.toList = some ks) (hrk : ksAll P fn.resultTypes.toList = some rk) (hs : ks.all scalK = true) (hr : rk.all scalK = true)
    (h : ∀ (w : World) (xs : List D), fits xs ks = true → pre xs → Calls P f (valsOf P fn.params.toList xs).toArray w fun e w' => ∃ ys, e = .returned (wrapVal (valsOf P fn.resultTypes.toList ys)) ∧ post xs ys ∧ fits ys rk = true ∧ Below w.heap.size w w') :
    FnOk P f ⟨fn.params.toList, fn.resultTypes.toList, pre, post, .own⟩ := by
  refine ⟨⟨fn, hf, hn, hb⟩, ?_⟩
  show ∀ (w : World) (zz : Nat → Option Obj) (vs : Array Value) (xs : List D) (ks : List Kd) (cells : List Value), _ → _ → _ → _ → _ → _ → _
  intro w zz vs xs ks' cells hzz hks' hsp hfit hg hpre
  have hks2 : ksAll P fn.params.toList = some ks' := hks'
  rw [hks] at hks2
  injection hks2 with e
  subst e
  have hc := sels_vals [] xs ks cells hfit hs hg
  rw [hc] at hsp
  have hvs : vs = (valsOf P fn.params.toList xs).toArray := by
    have := split_vals hsp
    rw [← this]
  rw [hvs]
  refine (h w xs hfit hpre).mono ?_
  rintro e w' ⟨ys, rfl, hp, hy, hbl⟩
  obtain ⟨g1, g2⟩ := resL_scal (P := P) (base := w.heap.size) (w' := w') [] ys rk hy hr
  refine ⟨_, ys, rfl, hp, hbl, ?_⟩
  exact ⟨rk, ys.map valD, valsOf P fn.resultTypes.toList ys, [], hrk, g1, vals_split hrk (fits_len hy), by simp [blocks], g2, rfl⟩
theorem fits_nil {xs : List D} (h : fits xs [] = true) : xs = [] := by cases xs with | nil => rfl | cons => simp [fits] at h
theorem fits_str {xs : List D} {ks : List Kd} (h : fits xs (.str :: ks) = true) : ∃ s l, xs = .str s :: l ∧ fits l ks = true := by
  cases xs with
  | nil => simp [fits] at h
  | cons d l => cases d <;> simp [fits, fitK] at h; exact ⟨_, _, rfl, h⟩
theorem fits_int {xs : List D} {k : IntKind} {ks : List Kd} (h : fits xs (.int k :: ks) = true) : ∃ n l, xs = .int k n :: l ∧ fits l ks = true := by
  cases xs with
  | nil => simp [fits] at h
  | cons d l => cases d <;> simp [fits, fitK] at h; obtain ⟨rfl, h⟩ := h; exact ⟨_, _, rfl, h⟩
theorem fits_s {xs : List D} (h : fits xs [.str] = true) : ∃ s, xs = [.str s] := by
  obtain ⟨s, l, rfl, h1⟩ := fits_str h
  exact ⟨s, by rw [fits_nil h1]⟩
theorem fits_i {xs : List D} (h : fits xs [.int .i64] = true) : ∃ n, xs = [.int .i64 n] := by
  obtain ⟨s, l, rfl, h1⟩ := fits_int h
  exact ⟨s, by rw [fits_nil h1]⟩
theorem fits_ss {xs : List D} (h : fits xs [.str, .str] = true) : ∃ s r, xs = [.str s, .str r] := by
  obtain ⟨s, l, rfl, h1⟩ := fits_str h
  obtain ⟨r, rfl⟩ := fits_s h1
  exact ⟨s, r, rfl⟩
theorem fits_si {xs : List D} (h : fits xs [.str, .int .i64] = true) : ∃ s n, xs = [.str s, .int .i64 n] := by
  obtain ⟨s, l, rfl, h1⟩ := fits_str h
  obtain ⟨r, rfl⟩ := fits_i h1
  exact ⟨s, r, rfl⟩
end
end Go.Proofs.Ytplcdadedpbkpaa.Mini
end
section
/- Exact values: the laws' helpers for lists of numbers; words alive. -/
namespace Go.Proofs.Ytplcdadedpbkpaa.Mini
open Go Go.RowKit
set_option linter.unusedVariables false
set_option linter.unusedSimpArgs false
set_option maxRecDepth 20000
theorem mixed : Try.prog.follows .mixedOrders = true := by kernel_rfl
theorem fitsL_nil {T : Typ.Tab} {f : Nat} {ys : List D} (h : fitsL T f [] ys) : ys = [] := by
  cases ys with
  | nil => rfl
  | cons d ds => exact h.elim
theorem fitsL_cons {T : Typ.Tab} {f : Nat} {a : Typ.At} {aa : List Typ.At} {ys : List D} (h : fitsL T f (a :: aa) ys) : ∃ d ds, ys = d :: ds ∧ fitsAt T f a d ∧ fitsL T f aa ds := by
  cases ys with
  | nil => exact h.elim
  | cons d ds => exact ⟨d, ds, rfl, h.1, h.2⟩
theorem fitsAt_int {T : Typ.Tab} {f : Nat} {k : IntKind} {lo hi : Int} {d : D} (h : fitsAt T f (.int k lo hi) d) : ∃ n : Int, d = .int k n ∧ lo ≤ n ∧ n ≤ hi := by cases f <;> exact h
theorem fitsAt_bool {T : Typ.Tab} {f : Nat} {o : Option Bool} {d : D} (h : fitsAt T f (.bool o) d) : ∃ b, d = .bool b := by cases f <;> exact h
theorem fitsAt_str {T : Typ.Tab} {f : Nat} {m : Nat} {d : D} (h : fitsAt T f (.str m) d) : ∃ s : ByteArray, d = .str s ∧ s.size ≤ m := by cases f <;> exact h
/-- A number that was drawn. -/
theorem fits_int1 {T : Typ.Tab} {f : Nat} {k : IntKind} {lo hi : Int} {ys : List D} (h : fitsL T f [.int k lo hi] ys) : ∃ n : Int, ys = [.int k n] ∧ lo ≤ n ∧ n ≤ hi := by
  obtain ⟨d, ds, rfl, h1, h2⟩ := fitsL_cons h
  obtain ⟨n, rfl, h3⟩ := fitsAt_int h1
  rw [fitsL_nil h2]
  exact ⟨n, rfl, h3⟩
theorem bytes_wf {xs : List D} (h : wfXs Try.prog 4 [.list 5] xs) : bytesD 5 xs := by
  match xs, h with
  | [d], ⟨⟨n, cs, ks, e, h1, h2, h3, h4⟩, _⟩ =>
    subst e
    refine ⟨n, cs, rfl, fun x hx => ?_⟩
    have hk : ks = [.int .u8] := by
      have : ksOf Try.prog 5 = some [.int .u8] := by kernel_rfl
      rw [this] at h2; injection h2 with h2; exact h2.symm
    subst hk
    obtain ⟨j, hj, rfl⟩ := List.getElem_of_mem hx
    obtain ⟨k, hk1, hk2⟩ := h4 j cs[j] (List.getElem?_eq_getElem hj)
    have : k = .int .u8 := by
      have e : j % 1 = 0 := Nat.mod_one j
      simp [e] at hk1; exact hk1.symm
    subst this
    obtain ⟨z, hz, hw⟩ := hk2
    exact ⟨z, hz, wf_u8 hw⟩
def ints (a : List Int) : List D := a.map (.int .i64)
theorem ints_len (a : List Int) : (ints a).length = a.length := by simp [ints]
theorem ints_at {a : List Int} {i : Nat} {x : Int} (h : a[i]? = some x) : (ints a)[i]? = some (.int .i64 x) := by simp [ints, h]
theorem ints_sel {a : List Int} {i : Nat} {x : Int} (h : a[i]? = some x) : selI (ints a) i = x := selI_of (ints_at h)
theorem ints_get {a : List Int} {i : Nat} (h : i < a.length) : ∃ x, a[i]? = some x ∧ (ints a)[i]? = some (.int .i64 x) ∧ selI (ints a) i = x := ⟨a[i], List.getElem?_eq_getElem h, ints_at (List.getElem?_eq_getElem h), ints_sel (List.getElem?_eq_getElem h)⟩
/-- Marks. -/
def marks (k : Int) (n : Nat) : List Int := (List.range n).map fun (i : Nat) => k + (i : Int)
theorem marks_len (k : Int) (n : Nat) : (marks k n).length = n := by simp [marks]
theorem marks_at {k : Int} {n i : Nat} (h : i < n) : (marks k n)[i]? = some (k + i) := by simp [marks, h]
def inB (a b c : Int) : Bool := decide (b ≤ a) && decide (a ≤ c)
theorem inB_iff {a b c : Int} : inB a b c = true ↔ b ≤ a ∧ a ≤ c := by simp [inB]
theorem inB_no {a b c : Int} : inB a b c = false ↔ ¬ (b ≤ a ∧ a ≤ c) := by rw [← inB_iff]; simp
noncomputable def s_sin : Sig := sig Try.f45 (fun _ => True) (fun xs ys => ys = [.bool (inB (selI xs 0) (selI xs 1) (selI xs 2))])
/-- The numbers of a list. -/
def unI (l : List D) : List Int := l.map fun d => match d with | .int _ n => n | _ => 0
theorem unI_ints (a : List Int) : unI (ints a) = a := by
  unfold unI ints
  rw [List.map_map]
  conv => rhs; rw [← List.map_id a]
  rfl
def eqI (a b : List Int) : Bool := decide (a = b)
theorem eqI_self (a : List Int) : eqI a a = true := by simp [eqI]
theorem eqI_iff {a b : List Int} : eqI a b = true ↔ a = b := by simp [eqI]
noncomputable def F_sin : Tb := tab []
noncomputable def hs_sin : Hds := []
theorem t_sin (a0 : Int) (a1 : Int) (a2 : Int) : fnT' Try.prog F_sin hs_sin .own Try.f45 [.int IntKind.i64 a0, .int IntKind.i64 a1, .int IntKind.i64 a2] = (Tree.ite (leI a1 a0) (Tree.ret [(D.bool (leI a0 a2))]) (Tree.ret [(D.bool false)])) := by kernel_rfl
theorem eq_of_get {a b : List Int} (hl : a.length = b.length) (h : ∀ j, j < a.length → a[j]? = b[j]?) : a = b := by
  apply List.ext_getElem? 
  intro i
  by_cases hi : i < a.length
  · exact h i hi
  · rw [List.getElem?_eq_none (by omega), List.getElem?_eq_none (by omega)]
theorem ok_sin : FnOk Try.prog 45 s_sin := by
  refine fnOk (fn := Try.f45) (F := F_sin) (hs := hs_sin) tab_nil mixed rfl rfl rfl [.int .i64, .int .i64, .int .i64] (by kernel_rfl) (by simp) ?_
  intro a0 a1 a2 _
  refine ⟨fun _ _ => False, fun _ _ => 0, ?_, fun _ _ h => h.elim⟩
  rw [t_sin]
  simp only [Tree.holds, ltI_t, ltI_f, leI_t, leI_f, all_cons, all_nil, and_true, true_and, forall_eq, decide_eq_true_eq, decide_eq_false_iff_not, beq_iff_eq, beq_eq_false_iff_ne, bne_iff_ne, bne_eq_false_iff_eq, ne_eq, Decidable.not_not, selI_z, selB_z, selS_z, selN_z, selL_z, selI_s, selB_s, selS_s, selN_s, selL_s, Int.toNat_natCast, Nat.mul_one, Nat.zero_add, Nat.div_one, List.drop_zero, Nat.zero_mul, Nat.le_refl, Bool.not_eq_true', Bool.not_eq_false', Bool.false_eq_true, Bool.true_eq_false, not_true_eq_false, not_false_eq_true, false_imp_iff, true_imp_iff, if_true, if_false, sig, sigF, sigW, sigR, sigO]
  exact ⟨fun h => ret_bool' (by unfold inB leI; rw [decide_eq_true h]; rfl), fun h => ret_bool' (by unfold inB; rw [decide_eq_false h]; rfl)⟩
theorem marks_succ (k : Int) (n : Nat) : marks k (n + 1) = marks k n ++ [k + n] := by simp [marks, List.range_succ]
theorem ints_append (a b : List Int) : ints (a ++ b) = ints a ++ ints b := by simp [ints]
theorem ints_scal (a : List Int) : scal (ints a) := by
  intro d hd
  obtain ⟨x, _, rfl⟩ := List.mem_map.mp hd
  rfl
theorem marks_set (k : Int) (j : Nat) (a : List Int) (h : j < a.length) : setL (ints (marks k j ++ a.drop j)) j [.int .i64 (k + j)] = ints (marks k (j + 1) ++ a.drop (j + 1)) := by
  unfold setL
  rw [marks_succ, ints_append, ints_append, ints_append]
  have h1 : (ints (marks k j)).length = j := by rw [ints_len, marks_len]
  rw [List.take_append_of_le_length (by omega), List.take_of_length_le (by omega)]
  rw [List.drop_append, List.drop_of_length_le (by simp; omega), h1]
  simp [ints, List.drop_drop]
end Go.Proofs.Ytplcdadedpbkpaa.Mini
end
