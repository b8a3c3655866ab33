/- Plain facts about slices in memory: what a call may read, and what it made itself. -/
import Derived.Test.YtgoheolehnahkaaWorld
import Derived.Laws.OwnMore
import Derived.Laws.AppendOwn
import Derived.OwnWalk
import Derived.Deep.Draws
import Derived.Deep.AppendLies
import Derived.Laws.MakeOwn
import Derived.Laws.Concat
import Derived.Maps.AppendAt
import Derived.RegionTactic
namespace Go.Proofs.Ytgoheolehnahkaa
open Go.RowKit
set_option linter.unusedVariables false

/-- A slice of n elements of m cells each, as a call may read it: its cells lie in a block below B. -/
def Sees (w : World) (B m : Nat) (A : Option Addr) (n : Nat) (xs : List Value) : Prop :=
  xs.length = n * m ∧ (0 < n → ∃ b off, A = some ⟨b, off, none⟩ ∧ b < B ∧ ∀ j u, xs[j]? = some u → w.cell? ⟨b, off + j, none⟩ = some u)
section
variable {w w' : World} {B B' m n : Nat} {A : Option Addr} {xs : List Value}
theorem Sees.none_ : Sees w B m A 0 [] := ⟨by simp, fun h => absurd h (by omega)⟩
theorem Sees.keep (h : Sees w B m A n xs) (hk : ∀ p : Addr, p.block < B → w'.cell? p = w.cell? p) : Sees w' B m A n xs :=
  ⟨h.1, fun hn => by
    obtain ⟨b, off, e, hb, hc⟩ := h.2 hn
    exact ⟨b, off, e, hb, fun j u hu => (hk ⟨b, off + j, none⟩ hb).trans (hc j u hu)⟩⟩
theorem Sees.more (h : Sees w B m A n xs) (hB : B ≤ B') : Sees w B' m A n xs :=
  ⟨h.1, fun hn => by
    obtain ⟨b, off, e, hb, hc⟩ := h.2 hn
    exact ⟨b, off, e, by omega, hc⟩⟩
theorem Sees.below (h : Sees w B m A n xs) (hb : Below B' w w') (hB : B ≤ B') : Sees w' B m A n xs := h.keep fun _ hp => hb.cell (Nat.lt_of_lt_of_le hp hB)
theorem Sees.drew (h : Sees w B m A n xs) : Sees w.drew B m A n xs := h
theorem Sees.drewN (h : Sees w B m A n xs) (k : Nat) : Sees (w.drewN k) B m A n xs := h
theorem Sees.alloc (h : Sees w B m A n xs) (hB : B ≤ w.heap.size) (o : Obj) : Sees (w.alloc o) B m A n xs := h.below ((Below.refl _ _).alloc hB o) (Nat.le_refl _)
theorem Sees.set (h : Sees w B m A n xs) {p : Addr} (hp : B ≤ p.block) (u : Value) : Sees (w.setCell p u) B m A n xs := h.below ((Below.refl _ _).setCell hp u) (Nat.le_refl _)
theorem Sees.grown (h : Sees w B m A n xs) {row : Option Nat} (hg : w.grownBy w' row) (hB : B ≤ w.heap.size) (hr : ∀ g, row = some g → B ≤ g) : Sees w' B m A n xs :=
  h.keep fun p hp => World.cell?_of_block (hg.block p.block (by omega) (fun e => by have := hr _ e.symm; omega))
theorem Sees.of_own {base e c : Nat} (h : w.ownsRow base e m (.slice A n c) n xs) : Sees w w.heap.size m A n xs := by
  refine ⟨h.1, fun hn => ?_⟩
  rcases h.2 with ⟨_, h0⟩ | ⟨g, cap, cur, hv, _, hh, _, _, _, ht⟩
  · omega
  · have hA : A = some ⟨g, 0, none⟩ := by injection hv
    subst hA
    refine ⟨g, 0, rfl, (Array.getElem?_eq_some_iff.mp hh).1, fun j u hu => ?_⟩
    have hx := h.cells (g := g) rfl j u hu
    have e2 : (⟨g, 0, none⟩ : Addr).add j = ⟨g, 0 + j, none⟩ := by cases j <;> simp [Addr.add]
    rw [e2] at hx
    exact hx
/-- The rest of a slice. -/
theorem Sees.cut {b off : Nat} (h : Sees w B m (some ⟨b, off, none⟩) n xs) {k : Nat} (hk : k ≤ n) : Sees w B m (some ⟨b, off + k * m, none⟩) (n - k) (xs.drop (k * m)) := by
  refine ⟨by rw [List.length_drop, h.1, Nat.sub_mul], fun hn => ?_⟩
  obtain ⟨b', off', e, hb, hc⟩ := h.2 (by omega)
  injection e with e
  injection e with e1 e2 _
  subst e1; subst e2
  refine ⟨b, off + k * m, rfl, hb, fun j u hu => ?_⟩
  rw [List.getElem?_drop] at hu
  rw [Nat.add_assoc]
  exact hc _ u hu
theorem Sees.rest (h : Sees w B m A n xs) {k : Nat} (hk : k ≤ n) : Sees w B m (A.map fun x => x.add (k * m)) (n - k) (xs.drop (k * m)) := by
  by_cases hn : 0 < n
  · obtain ⟨b, off, e, _⟩ := h.2 hn
    subst e
    have e2 : (⟨b, off, none⟩ : Addr).add (k * m) = ⟨b, off + k * m, none⟩ := by
      generalize k * m = x
      cases x <;> simp [Addr.add]
    show Sees w B m (some ((⟨b, off, none⟩ : Addr).add (k * m))) (n - k) (xs.drop (k * m))
    rw [e2]
    exact h.cut hk
  · exact ⟨by rw [List.length_drop, h.1, Nat.sub_mul], fun h2 => absurd h2 (by omega)⟩
theorem Sees.nothing {A' : Option Addr} (h : Sees w B m A 0 xs) : Sees w B m A' 0 [] := ⟨by simp, fun h => absurd h (by omega)⟩
/-- One cell of an element. -/
theorem Sees.at (h : Sees w B m A n xs) {k j : Nat} (hk : k < n) (hj : j < m) : ∃ b off, A = some ⟨b, off, none⟩ ∧ b < B ∧ (∀ j u, xs[j]? = some u → w.cell? ⟨b, off + j, none⟩ = some u) := by
  obtain ⟨b, off, e, hb, hc⟩ := h.2 (by omega)
  exact ⟨b, off, e, hb, hc⟩
end

/-! ### Lists of elements of m cells each -/
def flat {α : Type} (C : α → List Value) (hs : List α) : List Value := hs.flatMap C
section
variable {α : Type} {C : α → List Value} {m : Nat}
theorem flat_nil : flat C [] = [] := rfl
theorem flat_append (xs ys : List α) : flat C (xs ++ ys) = flat C xs ++ flat C ys := by simp [flat]
theorem flat_one (a : α) : flat C [a] = C a := by simp [flat]
theorem flat_len (hm : ∀ a, (C a).length = m) (hs : List α) : (flat C hs).length = hs.length * m := by
  induction hs with
  | nil => simp [flat]
  | cons a t ih => rw [show flat C (a :: t) = C a ++ flat C t from rfl, List.length_append, hm, ih, List.length_cons, Nat.succ_mul]; omega
theorem flat_at (hm : ∀ a, (C a).length = m) (hs : List α) (i j : Nat) (hi : i < hs.length) (hj : j < m) : (flat C hs)[i * m + j]? = (C hs[i])[j]? := by
  induction hs generalizing i with
  | nil => simp at hi
  | cons a t ih =>
    rw [show flat C (a :: t) = C a ++ flat C t from rfl]
    cases i with
    | zero => rw [List.getElem?_append_left (by rw [hm]; omega)]; simp
    | succ i =>
      rw [List.getElem?_append_right (by rw [hm, Nat.succ_mul]; omega), hm, show (i + 1) * m + j - m = i * m + j by rw [Nat.succ_mul]; omega]
      have := ih i (by simpa using hi)
      rw [this]; rfl
theorem flat_get (hm : ∀ a, (C a).length = m) (hs : List α) {i j : Nat} {a : α} {u : Value} (hi : hs[i]? = some a) (hu : (C a)[j]? = some u) : (flat C hs)[i * m + j]? = some u := by
  obtain ⟨h1, h2⟩ := List.getElem?_eq_some_iff.mp hi
  have hj : j < m := by rw [← hm a]; exact (List.getElem?_eq_some_iff.mp hu).1
  rw [flat_at hm hs i j h1 hj, h2]; exact hu
theorem flat_drop (hm : ∀ a, (C a).length = m) (hs : List α) (k : Nat) : flat C (hs.drop k) = (flat C hs).drop (k * m) := by
  induction hs generalizing k with
  | nil => simp [flat]
  | cons b t ih =>
    cases k with
    | zero => simp
    | succ k =>
      rw [List.drop_succ_cons, ih k, show flat C (b :: t) = C b ++ flat C t from rfl, List.drop_append, hm, show (k + 1) * m - m = k * m by rw [Nat.succ_mul]; omega]
      rw [List.drop_of_length_le (l := C b) (by rw [hm, Nat.succ_mul]; omega), List.nil_append]
theorem flat_set (hm : ∀ a, (C a).length = m) (hs : List α) {k j : Nat} {a a' : α} {u : Value} (hk : hs[k]? = some a) (hj : j < m) (hu : (C a).set j u = C a') : (flat C hs).set (k * m + j) u = flat C (hs.set k a') := by
  induction hs generalizing k with
  | nil => simp at hk
  | cons b t ih =>
    rw [show flat C (b :: t) = C b ++ flat C t from rfl]
    cases k with
    | zero =>
      obtain rfl : b = a := by simpa using hk
      rw [List.set_append_left _ _ (by rw [hm]; omega), Nat.zero_mul, Nat.zero_add, hu]
      rfl
    | succ k =>
      rw [List.set_append_right _ _ (by rw [hm, Nat.succ_mul]; omega), hm, show (k + 1) * m + j - m = k * m + j by rw [Nat.succ_mul]; omega]
      rw [ih (k := k) (by simpa using hk)]
      rfl
theorem take_more {hs : List α} {k : Nat} {a : α} (h : hs[k]? = some a) : hs.take (k + 1) = hs.take k ++ [a] := by
  rw [List.take_add_one, h]; rfl
theorem get_of {hs : List α} {k n : Nat} (hn : n = hs.length) (hk : k < n) : ∃ a, hs[k]? = some a :=
  ⟨hs[k]'(by omega), List.getElem?_eq_getElem (by omega)⟩
theorem all_more (p : α → Bool) {hs : List α} {k : Nat} {a : α} (h : hs[k]? = some a) : (hs.take (k + 1)).all p = ((hs.take k).all p && p a) := by
  rw [take_more h]; simp
theorem all_no (p : α → Bool) {hs : List α} {k : Nat} {a : α} (h : hs[k]? = some a) (hp : p a = false) : hs.all p = false := by
  rw [Bool.eq_false_iff]; intro ha
  have := List.all_eq_true.mp ha a (List.mem_of_getElem? h)
  rw [hp] at this; cases this
theorem take_all {hs : List α} {k n : Nat} (hn : n = hs.length) (hk : ¬ k < n) : hs.take k = hs := List.take_of_length_le (by omega)
end

/-! ### A row that is filled from its head on -/
def setAll (ys : List Value) (p : Nat) : List Value → List Value
  | [] => ys
  | u :: t => setAll (ys.set p u) (p + 1) t
theorem setAll_len (us : List Value) : ∀ (ys : List Value) (p : Nat), (setAll ys p us).length = ys.length := by
  induction us with
  | nil => intro ys p; rfl
  | cons u t ih => intro ys p; rw [setAll, ih, List.length_set]
theorem setAll_take (us : List Value) : ∀ (ys : List Value) (p : Nat), p + us.length ≤ ys.length → (setAll ys p us).take (p + us.length) = ys.take p ++ us := by
  induction us with
  | nil => intro ys p _; simp [setAll]
  | cons u t ih =>
    intro ys p h
    rw [List.length_cons] at h
    rw [setAll, List.length_cons, show p + (t.length + 1) = p + 1 + t.length by omega, ih _ _ (by rw [List.length_set]; omega)]
    rw [List.take_set, List.take_add_one, List.getElem?_eq_getElem (by omega)]
    rw [List.set_append_right _ _ (by simp; omega)]
    simp [Nat.min_eq_left (show p ≤ ys.length by omega)]
theorem fill_step {α : Type} {C : α → List Value} {m n k : Nat} (hm : ∀ a, (C a).length = m) {hs : List α} {a : α} {ys : List Value} (hy : ys.length = n * m) (hn : n = hs.length) (ht : ys.take (k * m) = flat C (hs.take k)) (hk : hs[k]? = some a) :
    (setAll ys (k * m) (C a)).length = n * m ∧ (setAll ys (k * m) (C a)).take ((k + 1) * m) = flat C (hs.take (k + 1)) := by
  have hlt : k < hs.length := (List.getElem?_eq_some_iff.mp hk).1
  refine ⟨by rw [setAll_len, hy], ?_⟩
  have h1 : (k + 1) * m ≤ n * m := Nat.mul_le_mul_right m (by omega)
  rw [Nat.succ_mul] at h1 ⊢
  have := setAll_take (C a) ys (k * m) (by rw [hm]; omega)
  rw [hm] at this
  rw [this, ht, take_more hk, flat_append, flat_one]
theorem fill_end {α : Type} {C : α → List Value} {m n k : Nat} {hs : List α} {ys : List Value} (hy : ys.length = n * m) (hn : n = hs.length) (ht : ys.take (k * m) = flat C (hs.take k)) (hk : ¬ k < n) (hk2 : k ≤ n) : ys = flat C hs := by
  obtain rfl : k = n := by omega
  rw [List.take_of_length_le (by omega), take_all hn hk] at ht
  exact ht

/-- make([]T, n), n a variable. -/
theorem make_row {P : Program} (t e : TypeId) (i : TypeInfo) (z : Value) (ht : P.underlying t = some (.slice e)) (hi : P.info? e = some i) (hz : i.zero = some z)
    (n : Nat) (hb : i.bytes * n ≤ 281474976710656) (h63 : n ≤ 9223372036854775807) (w : World) :
    (Instr.makeSlice t (.int .i64 (n : Int)) (.int .i64 (n : Int))).run P w = .ok (.slice (some ⟨w.heap.size, 0, none⟩) n n) (w.alloc (.cells (madeCells z.cells (n * i.size)) e)) := by
  have hb' : (i.bytes : Int) * (n : Int) ≤ 281474976710656 := by
    have h : ((i.bytes * n : Nat) : Int) ≤ 281474976710656 := by omega
    rwa [Int.natCast_mul] at h
  have hr := run_make (P := P) w t e i z ht hi hz .i64 .i64 n n (by omega) (by omega) hb' (by omega)
  simp only [Int.toNat_natCast] at hr
  exact hr

theorem made_row {P : Program} (t e : TypeId) (z : Value) (m bytes : Nat) (ht : P.underlying t = some (.slice e)) (hinfo : (P.info? e).map (fun i => (i.zero, i.size, i.bytes)) = some (some z, m, bytes))
    (n : Nat) (hb : bytes * n ≤ 281474976710656) (h63 : n ≤ 9223372036854775807) :
    ∃ cs : Array Value, cs.size = n * m ∧ ∀ w : World, (Instr.makeSlice t (.int .i64 (n : Int)) (.int .i64 (n : Int))).run P w = .ok (.slice (some ⟨w.heap.size, 0, none⟩) n n) (w.alloc (.cells cs e)) := by
  obtain ⟨i, hi, hz, hs, hby⟩ := info_parts hinfo
  refine ⟨madeCells z.cells (n * i.size), by rw [size_madeCells, hs], fun w => make_row t e i z ht hi hz n (by rw [hby]; exact hb) h63 w⟩

/-- Two texts, one behind the other. -/
theorem add_run (P : Program) (a b : ByteArray) (h : a.size + b.size ≤ 100000000) : ∀ w : World, (Op.stringOp .add a b).run P w = .ok (.string (a ++ b)) w :=
  fun w => run_string_add_sum w a b (by omega)

/-! ### Worlds in which one row may have changed -/
section
variable {w w1 w2 : World} {row : Option Nat}
theorem gtrans (h1 : w.grownBy w1 row) (h2 : w1.grownBy w2 row) : w.grownBy w2 row :=
  ⟨h2.os.trans h1.os, h2.tape.trans h1.tape, h2.output.trans h1.output, Nat.le_trans h1.size h2.size, fun k hk hne => (h2.block k (Nat.lt_of_lt_of_le hk h1.size) hne).trans (h1.block k hk hne)⟩
theorem gbelow (h : w.grownBy w1 row) (hb : Below w1.heap.size w1 w2) : w.grownBy w2 row :=
  ⟨hb.os.trans h.os, hb.tape.trans h.tape, hb.output.trans h.output, Nat.le_trans h.size hb.size, fun i hi hne => (hb.block i (Nat.lt_of_lt_of_le hi h.size)).trans (h.block i hi hne)⟩
theorem gnone (h : w.grownBy w1 none) : Below w.heap.size w w1 := ⟨h.os, h.tape, h.output, h.size, fun k hk => h.block k hk (by simp)⟩
theorem of_below (h : Below w.heap.size w w1) (row : Option Nat) : w.grownBy w1 row := ⟨h.os, h.tape, h.output, h.size, fun i hi _ => h.block i hi⟩
theorem grefl (w : World) (row : Option Nat) : w.grownBy w row := ⟨rfl, rfl, rfl, Nat.le_refl _, fun _ _ _ => rfl⟩
/-- A row behind a call that made memory alone. -/
theorem own_call {base e size n : Nat} {v : Value} {xs : List Value} (h : w.ownsRow base e size v n xs) (hb : Below w.heap.size w w1) : w1.ownsRow base e size v n xs :=
  h.kept (row := none) (of_below hb none) (by cases hv : v.ownBlock with
    | none => exact .inl rfl
    | some g => exact .inr (by simp))
theorem own_more {base base' e size n : Nat} {v : Value} {xs : List Value} (h : w.ownsRow base e size v n xs) (hb : base' ≤ base) : w.ownsRow base' e size v n xs :=
  ⟨h.1, h.2.elim Or.inl (fun ⟨g, cap, cur, hv, hg, r⟩ => Or.inr ⟨g, cap, cur, hv, Nat.le_trans hb hg, r⟩)⟩
theorem own_form {base e size n c : Nat} {A : Option Addr} {xs : List Value} (h : w.ownsRow base e size (.slice A n c) n xs) (hn : 0 < n) : ∃ g, A = some ⟨g, 0, none⟩ ∧ base ≤ g ∧ g < w.heap.size := by
  rcases h.2 with ⟨_, h0⟩ | ⟨g, cap, cur, hv, hb, hh, _⟩
  · omega
  · exact ⟨g, by injection hv, hb, (Array.getElem?_eq_some_iff.mp hh).1⟩
theorem own_cap {base e size n c : Nat} {A : Option Addr} {xs : List Value} (h : w.ownsRow base e size (.slice A n c) n xs) : n ≤ c := by
  rcases h.2 with ⟨hv, h0⟩ | ⟨g, cap, cur, hv, _, _, hc, _⟩
  · omega
  · injection hv with _ _ h3
    subst h3; exact hc
/-- An element of a row. -/
theorem own_at {base e size n c g : Nat} {xs : List Value} (h : w.ownsRow base e size (.slice (some ⟨g, 0, none⟩) n c) n xs) {j : Nat} {u : Value} (hu : xs[j]? = some u) : w.cell? ⟨g, j, none⟩ = some u ∧ w.frozen? ⟨g, j, none⟩ = false := by
  have hj : j < n * size := by rw [← h.1]; exact (List.getElem?_eq_some_iff.mp hu).1
  exact ⟨by rw [h.cellAt j hj, hu], h.frozenAt j⟩
theorem own_some {base e size n c g : Nat} {xs : List Value} (h : w.ownsRow base e size (.slice (some ⟨g, 0, none⟩) n c) n xs) {j : Nat} (hj : j < n * size) : ∃ u, w.cell? ⟨g, j, none⟩ = some u := by
  rw [h.cellAt j hj]
  exact ⟨xs[j]'(by rw [h.1]; exact hj), List.getElem?_eq_getElem (by rw [h.1]; exact hj)⟩
end

/-! ### append of a whole list onto a row of the call's own -/
section
variable {P : Program} {w : World}
theorem append_nothing {base e size n : Nat} {t ty : TypeId} {i : TypeInfo} {v : Value} {xs : List Value} (ht : P.underlying t = some (.slice e)) (hi : P.info? e = some i) (ho : w.ownsRow base e size v n xs) (c : Nat) :
    (Builtin.append_ #[t, t] ty #[v, .slice none 0 c]).run P w = .ok v w := by
  rcases ho.2 with ⟨hv, _⟩ | ⟨g, cap, cur, hv, _, _, hle, _⟩
  · subst hv
    simp [Builtin.append_, run_underlying ht, sizeOf, typeInfo, hi, Builtin.lenOf, Builtin.firstCells]
  · subst hv
    simp [Builtin.append_, run_underlying ht, sizeOf, typeInfo, hi, Builtin.lenOf, Builtin.firstCells, hle, storeCells]
theorem append_list {base e size bytes n m c B : Nat} {t ty : TypeId} {i : TypeInfo} {z v : Value} {xs news : List Value} {A : Option Addr} (ht : P.underlying t = some (.slice e)) (hi : P.info? e = some i) (hz : i.zero = some z)
    (hsize : i.size = size) (hby : i.bytes = bytes) (hzs : z.cells.size = size) (hsz : 0 < size) (ho : w.ownsRow base e size v n xs) (hr : Sees w B size A m news) (h1 : ∀ u ∈ news, u.oneCell' = true)
    (h63 : n + m ≤ maxLen) (hbytes : (n + m) * bytes ≤ 140737488355328) (hbase : base ≤ w.heap.size) :
    ∃ v' w', (Builtin.append_ #[t, t] ty #[v, .slice A m c]).run P w = .ok v' w' ∧ w'.ownsRow base e size v' (n + m) (xs ++ news) ∧ w.grownBy w' v.ownBlock ∧ (v'.ownBlock = v.ownBlock ∨ v'.ownBlock = some w.heap.size) := by
  cases A with
  | none =>
    have hm : m = 0 := by
      rcases Nat.eq_zero_or_pos m with h | h
      · exact h
      · obtain ⟨b, off, e, _⟩ := hr.2 h; cases e
    subst hm
    have hnw : news = [] := List.eq_nil_of_length_eq_zero (by rw [hr.1]; omega)
    subst hnw
    exact ⟨v, w, append_nothing ht hi ho c, by simpa using ho, grefl w _, .inl rfl⟩
  | some ad =>
    have hcell : ∀ j u, news[j]? = some u → w.cell? (ad.add j) = some u := by
      intro j u hu
      rcases Nat.eq_zero_or_pos m with h | h
      · subst h
        have hnw : news = [] := List.eq_nil_of_length_eq_zero (by rw [hr.1]; omega)
        rw [hnw] at hu; simp at hu
      · obtain ⟨b, off, e, _, hc⟩ := hr.2 h
        injection e with e
        subst e
        have e2 : (⟨b, off, none⟩ : Addr).add j = ⟨b, off + j, none⟩ := by cases j <;> simp [Addr.add]
        rw [e2]; exact hc j u hu
    obtain ⟨v', w', hrun, h2, h3, _, h5⟩ := run_append_own_at (P := P) w base t ty e i z size bytes ht hi hz hsize hby hzs hsz v n xs ho ad m c news hr.1 hcell h1 h63 hbytes hbase
    exact ⟨v', w', hrun, h2, h3, h5⟩
theorem wp_append_list {o : Oper} {a : Act} {K : Act → World → Prop} {Q : Exit → Act → World → Prop} (s x : Operand) (t : TypeId)
    (ho : o.op = .call { callee := .builtin .append, args := #[s, x], argTypes := #[t, t] })
    (base e size bytes n m c B : Nat) (i : TypeInfo) (z v : Value) (xs news : List Value) (A : Option Addr) (ht : P.underlying t = some (.slice e)) (hi : P.info? e = some i) (hz : i.zero = some z)
    (hsize : i.size = size) (hby : i.bytes = bytes) (hzs : z.cells.size = size) (hsz : 0 < size) (hs : a.eval s = v) (hx : a.eval x = .slice A m c) (hown : w.ownsRow base e size v n xs) (hr : Sees w B size A m news) (h1 : ∀ u ∈ news, u.oneCell' = true)
    (h63 : n + m ≤ maxLen) (hbytes : (n + m) * bytes ≤ 140737488355328) (hbase : base ≤ w.heap.size)
    (h : ∀ v' w', w'.ownsRow base e size v' (n + m) (xs ++ news) → w.grownBy w' v.ownBlock → (v'.ownBlock = v.ownBlock ∨ v'.ownBlock = some w.heap.size) → K (a.put o.dst v') w') : o.wp P a w K Q := by
  obtain ⟨v', w', hrun, h2, h3, h4⟩ := append_list (P := P) (ty := o.type) (c := c) ht hi hz hsize hby hzs hsz hown hr h1 h63 hbytes hbase
  unfold Oper.wp execOp
  simp only [ho, resolve, invoke, builtin, Sem.run_bind, Sem.run_pure, Result.andThen_ok, List.map_toArray, List.map_cons, List.map_nil, hs, hx, hrun]
  exact h v' w' h2 h3 h4
theorem wpList_append_list {ops : Array Oper} {rest : List Oper} {o : Oper} {a : Act} {Q : Exit → Act → World → Prop} (hgd : o.guard = none) (s x : Operand) (t : TypeId)
    (ho : o.op = .call { callee := .builtin .append, args := #[s, x], argTypes := #[t, t] })
    (base e size bytes n m c B : Nat) (i : TypeInfo) (z v : Value) (xs news : List Value) (A : Option Addr) (ht : P.underlying t = some (.slice e)) (hi : P.info? e = some i) (hz : i.zero = some z)
    (hsize : i.size = size) (hby : i.bytes = bytes) (hzs : z.cells.size = size) (hsz : 0 < size) (hs : a.eval s = v) (hx : a.eval x = .slice A m c) (hown : w.ownsRow base e size v n xs) (hr : Sees w B size A m news) (h1 : ∀ u ∈ news, u.oneCell' = true)
    (h63 : n + m ≤ maxLen) (hbytes : (n + m) * bytes ≤ 140737488355328) (hbase : base ≤ w.heap.size)
    (h : ∀ v' w', w'.ownsRow base e size v' (n + m) (xs ++ news) → w.grownBy w' v.ownBlock → (v'.ownBlock = v.ownBlock ∨ v'.ownBlock = some w.heap.size) → wpList P ops Q rest (a.put o.dst v') w') : wpList P ops Q (o :: rest) a w :=
  wpList_plain hgd fun _ hK => wp_append_list s x t ho base e size bytes n m c B i z v xs news A ht hi hz hsize hby hzs hsz hs hx hown hr h1 h63 hbytes hbase fun v' w' h2 h3 h4 => hK _ _ (h v' w' h2 h3 h4)
end
/-- append of one element that was laid into a block of its own, as one step of a region that draws its order. -/
theorem step_append_one {P : Program} {w : World} {ops : Array Oper} {o : Oper} {a : Act} {K : Act → World → Prop} {Q : Exit → Act → World → Prop} {E : Prop} (hgd : o.guard = none) (s x : Operand) (t : TypeId)
    (ho : o.op = .call { callee := .builtin .append, args := #[s, x], argTypes := #[t, t] })
    (base : Nat) (e : TypeId) (i : TypeInfo) (z : Value) (size bytes : Nat) (ht : P.underlying t = some (.slice e)) (hi : P.info? e = some i) (hz : i.zero = some z)
    (hsize : i.size = size) (hby : i.bytes = bytes) (hzs : z.cells.size = size) (hsz : 0 < size)
    (v : Value) (n : Nat) (xs : List Value) (hs : a.eval s = v) (g : Nat) (news : List Value) (hx : a.eval x = .slice (some ⟨g, 0, none⟩) 1 1)
    (hown : w.ownsRow base e size v n xs) (hnew : w.heap[g]? = some (.cells news.toArray e (0, 0))) (hl : news.length = size) (h1 : ∀ u ∈ news, u.oneCell' = true)
    (h63 : n + 1 ≤ maxLen) (hbytes : (n + 1) * bytes ≤ 140737488355328) (hbase : base ≤ w.heap.size)
    (h : ∀ g' cap w', w'.ownsRow base e size (.slice (some ⟨g', 0, none⟩) (n + 1) cap) (n + 1) (xs ++ news) → w.grownBy w' v.ownBlock → K (a.put o.dst (.slice (some ⟨g', 0, none⟩) (n + 1) cap)) w') :
    if Region.wanted o (yielded ops a.tmps) = true then Oper.wp P o a w K Q else E :=
  step_append_lies w hgd s x t ho base e i z size bytes ht hi hz hsize hby hzs hsz v n xs hs hown ⟨g, 0, none⟩ 1 1 news hx (by rw [hl]; omega) (World.news_of_block (cs := news.toArray) hnew) h1 (by omega) h63 hbytes hbase w.heap.size rfl
    (fun g' cap w' h2 h3 _ _ => h g' cap w' h2 h3)
theorem heap_new_at (w : World) (o : Obj) (n : Nat) (h : n = w.heap.size) : (w.alloc o).heap[n]? = some o := by subst h; exact heap_alloc_new w o
/-- What a row's value looks like. -/
theorem own_slice {w : World} {base e size n : Nat} {v : Value} {xs : List Value} (h : w.ownsRow base e size v n xs) : ∃ A c, v = .slice A n c := by
  rcases h.2 with ⟨hv, h0⟩ | ⟨g, cap, cur, hv, _⟩
  · exact ⟨none, 0, by rw [hv, h0]⟩
  · exact ⟨_, _, hv⟩
end Go.Proofs.Ytgoheolehnahkaa
