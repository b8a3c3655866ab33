/- Exact values: lists of things; from what came in, to what comes out. -/
import Derived.Test.YtgoheolehnahkaaMini15
import Derived.Test.YtgoheolehnahkaaLists
import Derived.Test.YtgoheolehnahkaaAlive
namespace Go.Proofs.Ytgoheolehnahkaa.Mini
open Go Go.RowKit
set_option linter.unusedVariables false
set_option maxRecDepth 20000

/-! ### Lists of things, cell by cell -/
def flatD {α : Type} (C : α → List D) (l : List α) : List D := l.flatMap C
section
variable {α : Type} {C : α → List D} {m : Nat}
theorem flatD_nil : flatD C [] = [] := rfl
theorem flatD_append (a b : List α) : flatD C (a ++ b) = flatD C a ++ flatD C b := by simp [flatD]
theorem flatD_one (a : α) : flatD C [a] = C a := by simp [flatD]
theorem flatD_cons (a : α) (l : List α) : flatD C (a :: l) = C a ++ flatD C l := rfl
theorem flatD_len (hC : ∀ a, (C a).length = m) : ∀ l : List α, (flatD C l).length = l.length * m
  | [] => by simp [flatD]
  | a :: l => by rw [flatD_cons, List.length_append, hC, flatD_len hC l, List.length_cons, Nat.succ_mul, Nat.add_comm]
theorem flatD_at (hC : ∀ a, (C a).length = m) : ∀ {l : List α} {k : Nat} {a : α} (_ : l[k]? = some a) {j : Nat} (_ : j < m), (flatD C l)[k * m + j]? = (C a)[j]?
  | b :: l, 0, a, h, j, hj => by
    simp at h
    subst h
    rw [flatD_cons, Nat.zero_mul, Nat.zero_add, List.getElem?_append_left (by rw [hC]; exact hj)]
  | b :: l, k + 1, a, h, j, hj => by
    rw [flatD_cons, Nat.succ_mul, List.getElem?_append_right (by rw [hC]; omega), hC, show k * m + m + j - m = k * m + j by omega]
    exact flatD_at hC (by simpa using h) hj
  | [], k, a, h, j, hj => by simp at h
theorem flatD_at0 (hC : ∀ a, (C a).length = m) (hm : 0 < m) {l : List α} {k : Nat} {a : α} (h : l[k]? = some a) : (flatD C l)[k * m]? = (C a)[0]? := flatD_at hC h (j := 0) hm
theorem flatD_take (hC : ∀ a, (C a).length = m) : ∀ (l : List α) (k : Nat), (flatD C l).take (k * m) = flatD C (l.take k)
  | [], k => by simp [flatD]
  | a :: l, 0 => by simp [flatD]
  | a :: l, k + 1 => by
    rw [flatD_cons, List.take_succ_cons, flatD_cons, Nat.succ_mul, List.take_append, hC, List.take_of_length_le (by rw [hC]; omega), show k * m + m - m = k * m by omega, flatD_take hC l k]
theorem flatD_drop (hC : ∀ a, (C a).length = m) : ∀ (l : List α) (k : Nat), (flatD C l).drop (k * m) = flatD C (l.drop k)
  | [], k => by simp [flatD]
  | a :: l, 0 => by simp [flatD]
  | a :: l, k + 1 => by
    rw [flatD_cons, List.drop_succ_cons, Nat.succ_mul, List.drop_append, hC, List.drop_of_length_le (by rw [hC]; omega), show k * m + m - m = k * m by omega, flatD_drop hC l k, List.nil_append]
theorem flatD_rep (n : Nat) (a : α) : rep n (C a) = flatD C (List.replicate n a) := by
  induction n with
  | zero => rfl
  | succ n ih => rw [List.replicate_succ, flatD_cons, ← ih]; simp [rep, List.replicate_succ]
theorem set_split : ∀ {l : List α} {k : Nat} {a : α} (b : α) (_ : l[k]? = some a), l.set k b = l.take k ++ [b] ++ l.drop (k + 1)
  | c :: l, 0, a, b, h => by simp
  | c :: l, k + 1, a, b, h => by
    rw [List.set_cons_succ, List.take_succ_cons, List.drop_succ_cons, set_split (l := l) (k := k) (a := a) b (by simpa using h)]
    rfl
  | [], k, a, b, h => by simp at h
/-- One thing is set. -/
theorem flatD_set (hC : ∀ a, (C a).length = m) {l : List α} {k : Nat} {a : α} (b : α) (h : l[k]? = some a) : setL (flatD C l) (k * m) (C b) = flatD C (l.set k b) := by
  rw [set_split b h, flatD_append, flatD_append, flatD_one]
  unfold setL
  rw [flatD_take hC, hC, ← Nat.succ_mul, flatD_drop hC]
theorem split_at : ∀ {l : List α} {k : Nat} {a : α} (_ : l[k]? = some a), l = l.take k ++ [a] ++ l.drop (k + 1)
  | c :: l, 0, a, h => by simp at h; simp [h]
  | c :: l, k + 1, a, h => by
    have := split_at (l := l) (k := k) (a := a) (by simpa using h)
    rw [List.take_succ_cons, List.drop_succ_cons]
    exact congrArg (c :: ·) this
  | [], k, a, h => by simp at h
theorem setL_mid {X Y Z ds : List D} {p j : Nat} (hp : X.length = p) (hj : j + ds.length ≤ Y.length) : setL (X ++ Y ++ Z) (p + j) ds = X ++ setL Y j ds ++ Z := by
  subst hp
  unfold setL
  have h1 : List.take (X.length + j) (X ++ Y ++ Z) = X ++ List.take j Y := by
    rw [List.append_assoc, List.take_length_add_append, List.take_append_of_le_length (by omega)]
  have h2 : List.drop (X.length + j + ds.length) (X ++ Y ++ Z) = List.drop (j + ds.length) Y ++ Z := by
    rw [List.append_assoc, Nat.add_assoc, List.drop_length_add_append, List.drop_append_of_le_length (by omega)]
  rw [h1, h2]
  simp
/-- Some cells of one thing are set. -/
theorem flatD_field (hC : ∀ a, (C a).length = m) {l : List α} {k : Nat} {a b : α} (h : l[k]? = some a) {j : Nat} {ds : List D} (hj : j + ds.length ≤ m) (hb : C b = setL (C a) j ds) : setL (flatD C l) (k * m + j) ds = flatD C (l.set k b) := by
  have hk : k < l.length := (List.getElem?_eq_some_iff.mp h).1
  have h1 : (flatD C (l.take k)).length = k * m := by rw [flatD_len hC, List.length_take, Nat.min_eq_left (by omega)]
  rw [set_split b h]
  conv => lhs; rw [split_at h]
  rw [flatD_append, flatD_append, flatD_append, flatD_append, flatD_one, flatD_one, hb]
  exact setL_mid h1 (by rw [hC]; omega)
end
/-- What is read. -/
theorem need_of {ds : List D} {i : Nat} {d : D} {k : Kd} (h : ds[i]? = some d) (hk : fitK d k = true) : ds[i]? = some (sel ds i k) ∧ sel ds i k = d := by
  have := (fitK_sel h hk).2
  exact ⟨by rw [this]; exact h, this⟩
theorem selI_of {ds : List D} {i : Nat} {k : IntKind} {n : Int} (h : ds[i]? = some (.int k n)) : selI ds i = n := by unfold selI; rw [h]
theorem selB_of {ds : List D} {i : Nat} {b : Bool} (h : ds[i]? = some (.bool b)) : selB ds i = b := by unfold selB; rw [h]
theorem selS_of {ds : List D} {i : Nat} {s : ByteArray} (h : ds[i]? = some (.str s)) : selS ds i = s := by unfold selS; rw [h]
theorem selN_of {ds : List D} {i t n : Nat} {l : List D} (h : ds[i]? = some (.list t n l)) : selN ds i = n := by unfold selN; rw [h]
theorem selL_of {ds : List D} {i t n : Nat} {l : List D} (h : ds[i]? = some (.list t n l)) : selL ds i = l := by unfold selL; rw [h]
theorem sel_int {ds : List D} {i : Nat} {k : IntKind} {n : Int} (h : ds[i]? = some (.int k n)) : sel ds i (.int k) = .int k n := by unfold sel; rw [selI_of h]
theorem sel_bool {ds : List D} {i : Nat} {b : Bool} (h : ds[i]? = some (.bool b)) : sel ds i .bool = .bool b := by unfold sel; rw [selB_of h]
theorem sel_str {ds : List D} {i : Nat} {s : ByteArray} (h : ds[i]? = some (.str s)) : sel ds i .str = .str s := by unfold sel; rw [selS_of h]
theorem sel_list {ds : List D} {i t n : Nat} {l : List D} (h : ds[i]? = some (.list t n l)) : sel ds i (.list t) = .list t n l := by unfold sel; rw [selN_of h, selL_of h]

/-! ### What came in -/
/-- A list that is seen, as a value. -/
theorem gD_of_sees {P : Program} {w : World} {t n c : Nat} {A : Option Addr} {xs : List Value} {ds : List D} (hc : n ≤ c) (hr : Sees w w.heap.size (sz P t) A n xs) (hl : ds.length = xs.length)
    (hd : ∀ (j : Nat) (d : D), ds[j]? = some d → ∃ v, xs[j]? = some v ∧ gD P (fun _ => none) d v) : gD P (fun b => w.heap[b]?) (.list t n ds) (.slice A n c) := by
  unfold gD
  refine ⟨A, c, rfl, hc, by rw [hl, hr.1], ?_⟩
  by_cases h0 : n = 0
  · exact .inl h0
  refine .inr ?_
  obtain ⟨b, off, rfl, hb, hcell⟩ := hr.2 (by omega)
  have hxs : xs.length = n * sz P t := hr.1
  have hpos : 0 < xs.length := by rw [hxs]; exact Nat.mul_pos (by omega) (sz_pos P t)
  have h1 := hcell 0 xs[0] (List.getElem?_eq_getElem hpos)
  have hblk : ∃ arr ty fr, w.heap[b]? = some (.cells arr ty fr) := by
    unfold World.cell? at h1
    simp only at h1
    split at h1
    · exact ⟨_, _, _, by assumption⟩
    · cases h1
  obtain ⟨arr, ty, fr, hblk⟩ := hblk
  refine ⟨b, off, arr, ty, fr, rfl, hblk, gDs.of fun j d hj => ?_⟩
  obtain ⟨v, hv, hg⟩ := hd j d hj
  have h2 := hcell j v hv
  unfold World.cell? at h2
  rw [hblk] at h2
  simp at h2
  refine ⟨v, ?_, gD.mono (fun b x hx => by cases hx) hg⟩
  rw [List.getElem?_drop]
  simpa using h2
/-- Values of a type of one cell, and the cells of a struct, as a function's first arguments. -/
theorem splitVal_one {P : Program} {t : Nat} {ts : List Nat} {ks : List Kd} {v : Value} {cells vs : List Value} (hk : ksOf P t = some ks) (hs : isSt P t = false) (h : splitVal P ts cells vs) : splitVal P (t :: ts) (v :: cells) (v :: vs) := by
  unfold splitVal
  rw [hk]
  simp only
  rw [if_neg (by rw [hs]; simp)]
  exact ⟨cells, rfl, h⟩
theorem splitVal_agg {P : Program} {t : Nat} {ts : List Nat} {ks : List Kd} {arr : Array Value} {cells vs : List Value} (hk : ksOf P t = some ks) (hs : isSt P t = true) (hl : ks.length = arr.size) (h : splitVal P ts cells vs) : splitVal P (t :: ts) (arr.toList ++ cells) (.agg arr :: vs) := by
  unfold splitVal
  rw [hk]
  simp only
  rw [if_pos hs]
  exact ⟨arr, rfl, by simp; omega, by rw [List.take_left' (by simp [hl])], by rw [List.drop_left' (by simp [hl])]; exact h⟩
/-- A function of numbers, truths, texts and lists, called from outside. -/
theorem calls_own {P : Program} {f : Nat} {params results : List Nat} {pre : List D → Prop} {post : List D → List D → Prop} (h : FnOk P f ⟨params, results, pre, post, .own⟩) {w : World} {vs : Array Value} {xs : List D} {ks : List Kd} {cells : List Value}
    (hks : ksAll P params = some ks) (hsp : splitVal P params cells vs.toList) (hfit : fits xs ks = true) (hg : gL P ⟨fun _ => none, fun b => w.heap[b]?⟩ (sels xs 0 ks) cells) (hpre : pre xs) :
    Calls P f vs w fun e w' => ∃ v ys, e = .returned v ∧ post xs ys ∧ Below w.heap.size w w' ∧ ResOk P w w' results ys v := h.2 w (fun b => w.heap[b]?) vs xs ks cells (fun _ _ h => h) hks hsp hfit hg hpre
/-- A law answers 'true'. -/
theorem res_true {P : Program} {w w' : World} {t : Nat} {v : Value} (hk : ksOf P t = some [.bool]) (hs : isSt P t = false) (h : ResOk P w w' [t] [.bool true] v) : v = .bool true := by
  obtain ⟨ks, cells, vs, bs, k1, k2, k3, k4, k5, rfl⟩ := h
  unfold ksAll at k1
  rw [hk] at k1
  simp [ksAll] at k1
  subst k1
  match vs with
  | [] => unfold splitVal at k3; exact k3.elim
  | v :: vs =>
    unfold splitVal at k3
    rw [hk] at k3
    simp only at k3
    rw [if_neg (by rw [hs]; simp)] at k3
    obtain ⟨rest, rfl, k3⟩ := k3
    match vs with
    | [] =>
      unfold splitVal at k3
      unfold resL at k5
      have := k5.1
      unfold sel selB gD at this
      simpa [wrapVal] using this
    | u :: us => unfold splitVal at k3; exact absurd k3.2 (by simp)
/-- A drawn law's walk. -/
theorem walk_law {P : Program} {f tb tr : Nat} {pre : List D → Prop} {post : List D → List D → Prop} (h : FnOk P f ⟨[tb], [tr], pre, post, .own⟩) {el : Nat} (hb : ksOf P tb = some [.list el]) (hbs : isSt P tb = false) (hel : sz P el = 1) (hr : ksOf P tr = some [.bool]) (hrs : isSt P tr = false)
    (hpost : ∀ xs ys, post xs ys → ys = [.bool true]) (hpre : ∀ (n : Nat) (l : List D), n ≤ maxLen → l.length = n → (∀ d ∈ l, ∃ z : Int, d = .int .u8 z ∧ 0 ≤ z ∧ z ≤ 255) → pre [.list el n l])
    {a0 : Option Addr} {len0 cap0 : Nat} {z0 : List Int} {w : World} (w0 : IsBytes w a0 len0 cap0 z0) :
    Calls P f #[.slice a0 len0 cap0] w fun e w' => e = .returned (.bool true) ∧ Below w.heap.size w w' := by
  obtain ⟨hlc, hcm, hB⟩ := bytes_of w0
  -- the bytes
  have hz : ∃ zs : List Int, zs.length = len0 ∧ (∀ z ∈ zs, 0 ≤ z ∧ z ≤ 255) ∧ Sees w w.heap.size 1 a0 len0 (zs.map (fun z => Value.int .u8 z)) := by
    rcases hB with h0 | ⟨b, off, rfl, hb, hc⟩
    · subst h0
      exact ⟨[], rfl, fun z hz => by simp at hz, by simp, fun h => absurd h (by omega)⟩
    · have : ∀ n, n ≤ len0 → ∃ zs : List Int, zs.length = n ∧ (∀ z ∈ zs, 0 ≤ z ∧ z ≤ 255) ∧ ∀ i z, zs[i]? = some z → w.cell? ⟨b, off + i, none⟩ = some (.int .u8 z) := by
        intro n
        induction n with
        | zero => exact fun _ => ⟨[], rfl, fun z hz => by simp at hz, fun i z hz => by simp at hz⟩
        | succ n ih =>
          intro hn
          obtain ⟨zs, h1, h2, h3⟩ := ih (by omega)
          obtain ⟨z, q1, q2, q3⟩ := hc n (by omega)
          refine ⟨zs ++ [z], by simp [h1], fun y hy => ?_, fun i y hy => ?_⟩
          · rcases List.mem_append.mp hy with hy | hy
            · exact h2 y hy
            · simp at hy; subst hy; exact ⟨q1, q2⟩
          · by_cases hi : i < n
            · rw [List.getElem?_append_left (by omega)] at hy; exact h3 i y hy
            · rw [List.getElem?_append_right (by omega)] at hy
              have : i - zs.length = 0 := by
                have := (List.getElem?_eq_some_iff.mp hy).1
                simp at this; omega
              rw [this] at hy
              simp at hy
              subst hy
              have : i = n := by omega
              subst this; exact q3
      obtain ⟨zs, h1, h2, h3⟩ := this len0 (Nat.le_refl _)
      refine ⟨zs, h1, h2, by simp [h1], fun _ => ⟨b, off, rfl, hb, fun j u hu => ?_⟩⟩
      rw [List.getElem?_map] at hu
      obtain ⟨z, hz, rfl⟩ := Option.map_eq_some_iff.mp hu
      exact h3 j z hz
  obtain ⟨zs, z1, z2, z3⟩ := hz
  have hks : ksAll P [tb] = some [.list el] := by simp [ksAll, hb]
  have hg : gD P (fun b => w.heap[b]?) (.list el len0 (zs.map (fun z => D.int .u8 z))) (.slice a0 len0 cap0) := gD_of_sees hlc (by rw [hel]; exact z3) (by simp) (fun j d hj => by
    rw [List.getElem?_map] at hj
    obtain ⟨z, hz, rfl⟩ := Option.map_eq_some_iff.mp hj
    exact ⟨.int .u8 z, by rw [List.getElem?_map, hz]; rfl, by unfold gD; rfl⟩)
  refine (calls_own h (xs := [.list el len0 (zs.map (fun z => D.int .u8 z))]) (cells := [.slice a0 len0 cap0]) hks (splitVal_one hb hbs ⟨rfl, rfl⟩) (by simp [fits, fitK]) ⟨hg, trivial⟩ (hpre _ _ (by omega) (by simp [z1]) (fun d hd => ?_))).mono ?_
  · obtain ⟨z, hz, rfl⟩ := List.mem_map.mp hd
    exact ⟨z, rfl, z2 z hz⟩
  · rintro e w' ⟨v, ys, rfl, hp, hbl, hres⟩
    rw [hpost _ _ hp] at hres
    exact ⟨by rw [res_true hr hrs hres], hbl⟩
end Go.Proofs.Ytgoheolehnahkaa.Mini
