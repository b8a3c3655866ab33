/- Parts of the proof: World, Lists, Plain. -/
import Derived.WalkKit
import Derived.Below
import Derived.OwnWalk
import Derived.Deep.Draws
import Derived.Laws.OwnMore
import Derived.Laws.AppendOwn
import Derived.Deep.AppendLies
import Derived.Laws.MakeOwn
import Derived.Laws.Concat
import Derived.Maps.AppendAt
import Derived.RegionTactic
section
namespace Go.Proofs.Ytjleempapphlhab
open Go.RowKit
set_option linter.unusedVariables false
/-- A block of memory, known whole: its cells, none frozen. -/
def Holds (w : World) (g : Nat) (t : TypeId) (cs : Array Value) : Prop := w.heap[g]? = some (.cells cs t (0, 0))
section
variable {w w' : World} {g : Nat} {t : TypeId} {cs : Array Value}
theorem Holds.lt (h : Holds w g t cs) : g < w.heap.size := (Array.getElem?_eq_some_iff.mp h).1
theorem Holds.cell (h : Holds w g t cs) (i : Nat) (v : Value) (hv : cs[i]? = some v) : w.cell? ⟨g, i, none⟩ = some v := by
  unfold Holds at h
  simp [World.cell?, h, hv]
theorem Holds.free (h : Holds w g t cs) (i : Nat) : w.frozen? ⟨g, i, none⟩ = false := by
  unfold Holds at h
  simp [World.frozen?, h]
theorem Holds.new (w : World) (t : TypeId) (cs : Array Value) : Holds (w.alloc (.cells cs t)) w.heap.size t cs := by
  show (w.heap.push _)[_]? = _
  simp
theorem Holds.alloc (h : Holds w g t cs) (o : Obj) : Holds (w.alloc o) g t cs := (Below.heap_alloc w o g h.lt).trans h
theorem Holds.below {B : Nat} (h : Holds w g t cs) (hb : Below B w w') (hg : g < B) : Holds w' g t cs := (hb.block g hg).trans h
/-- Behind a call that leaves all that was. -/
theorem Holds.call (h : Holds w g t cs) (hb : Below w.heap.size w w') : Holds w' g t cs := h.below hb h.lt
theorem Holds.grown {r : Nat} (h : Holds w g t cs) (hb : w.grownBy w' (some r)) (hg : g ≠ r) : Holds w' g t cs :=
  (hb.block g h.lt (by intro e; injection e with e; exact hg e)).trans h
theorem Holds.drew (h : Holds w g t cs) : Holds w.drew g t cs := h
theorem Holds.far (h : Holds w g t cs) {p : Addr} (hp : g ≠ p.block) (u : Value) : Holds (w.setCell p u) g t cs := (Below.heap_setCell w p u g hp).trans h
theorem Holds.set (h : Holds w g t cs) (i : Nat) (u : Value) : Holds (w.setCell ⟨g, i, none⟩ u) g t (cs.setIfInBounds i u) := by
  unfold Holds at h ⊢
  simp [World.setCell, Array.getElem?_modify, h]
end
end Go.Proofs.Ytjleempapphlhab
end
section
namespace Go.Proofs.Ytjleempapphlhab
open Go.RowKit
set_option linter.unusedVariables false
/-- A slice of n elements of m cells each, as a call may read it: its cells lie in a block below B. -/
def Sees (w : World) (B m : Nat) (A : Option Addr) (n : Nat) (xs : List Value) : Prop :=
  xs.length = n * m ∧ (0 < n → ∃ b off, A = some ⟨b, off, none⟩ ∧ b < B ∧ ∀ j u, xs[j]? = some u → w.cell? ⟨b, off + j, none⟩ = some u)
section
variable {w w' : World} {B B' m n : Nat} {A : Option Addr} {xs : List Value}
theorem Sees.keep (h : Sees w B m A n xs) (hk : ∀ p : Addr, p.block < B → w'.cell? p = w.cell? p) : Sees w' B m A n xs :=
  ⟨h.1, fun hn => by
    obtain ⟨b, off, e, hb, hc⟩ := h.2 hn
    exact ⟨b, off, e, hb, fun j u hu => (hk ⟨b, off + j, none⟩ hb).trans (hc j u hu)⟩⟩
theorem Sees.more (h : Sees w B m A n xs) (hB : B ≤ B') : Sees w B' m A n xs :=
  ⟨h.1, fun hn => by
    obtain ⟨b, off, e, hb, hc⟩ := h.2 hn
    exact ⟨b, off, e, by omega, hc⟩⟩
theorem Sees.below (h : Sees w B m A n xs) (hb : Below B' w w') (hB : B ≤ B') : Sees w' B m A n xs := h.keep fun _ hp => hb.cell (Nat.lt_of_lt_of_le hp hB)
theorem Sees.drew (h : Sees w B m A n xs) : Sees w.drew B m A n xs := h
theorem Sees.alloc (h : Sees w B m A n xs) (hB : B ≤ w.heap.size) (o : Obj) : Sees (w.alloc o) B m A n xs := h.below ((Below.refl _ _).alloc hB o) (Nat.le_refl _)
theorem Sees.set (h : Sees w B m A n xs) {p : Addr} (hp : B ≤ p.block) (u : Value) : Sees (w.setCell p u) B m A n xs := h.below ((Below.refl _ _).setCell hp u) (Nat.le_refl _)
theorem Sees.grown (h : Sees w B m A n xs) {row : Option Nat} (hg : w.grownBy w' row) (hB : B ≤ w.heap.size) (hr : ∀ g, row = some g → B ≤ g) : Sees w' B m A n xs :=
  h.keep fun p hp => World.cell?_of_block (hg.block p.block (by omega) (fun e => by have := hr _ e.symm; omega))
/-- The rest of a slice. -/
theorem Sees.cut {b off : Nat} (h : Sees w B m (some ⟨b, off, none⟩) n xs) {k : Nat} (hk : k ≤ n) : Sees w B m (some ⟨b, off + k * m, none⟩) (n - k) (xs.drop (k * m)) := by
  refine ⟨by rw [List.length_drop, h.1, Nat.sub_mul], fun hn => ?_⟩
  obtain ⟨b', off', e, hb, hc⟩ := h.2 (by omega)
  injection e with e
  injection e with e1 e2 _
  subst e1; subst e2
  refine ⟨b, off + k * m, rfl, hb, fun j u hu => ?_⟩
  rw [List.getElem?_drop] at hu
  rw [Nat.add_assoc]
  exact hc _ u hu
theorem Sees.rest (h : Sees w B m A n xs) {k : Nat} (hk : k ≤ n) : Sees w B m (A.map fun x => x.add (k * m)) (n - k) (xs.drop (k * m)) := by
  by_cases hn : 0 < n
  · obtain ⟨b, off, e, _⟩ := h.2 hn
    subst e
    have e2 : (⟨b, off, none⟩ : Addr).add (k * m) = ⟨b, off + k * m, none⟩ := by
      generalize k * m = x
      cases x <;> simp [Addr.add]
    show Sees w B m (some ((⟨b, off, none⟩ : Addr).add (k * m))) (n - k) (xs.drop (k * m))
    rw [e2]
    exact h.cut hk
  · exact ⟨by rw [List.length_drop, h.1, Nat.sub_mul], fun h2 => absurd h2 (by omega)⟩
theorem Sees.nothing {A' : Option Addr} (h : Sees w B m A 0 xs) : Sees w B m A' 0 [] := ⟨by simp, fun h => absurd h (by omega)⟩
/-- One cell of an element. -/
theorem Sees.at (h : Sees w B m A n xs) {k j : Nat} (hk : k < n) (hj : j < m) : ∃ b off, A = some ⟨b, off, none⟩ ∧ b < B ∧ (∀ j u, xs[j]? = some u → w.cell? ⟨b, off + j, none⟩ = some u) := by
  obtain ⟨b, off, e, hb, hc⟩ := h.2 (by omega)
  exact ⟨b, off, e, hb, hc⟩
end
def flat {α : Type} (C : α → List Value) (hs : List α) : List Value := hs.flatMap C
section
variable {α : Type} {C : α → List Value} {m : Nat}
end
section
variable {w w1 w2 : World} {row : Option Nat}
end
section
variable {P : Program} {w : World}
end
end Go.Proofs.Ytjleempapphlhab
end
section
namespace Go.Proofs.Ytjleempapphlhab
open Go.RowKit
set_option linter.unusedVariables false
/-- The kind of a byte, as the program's table of bytes has it. -/
def kind (c : Int) : Int :=
  if 97 ≤ c ∧ c ≤ 122 then 4 else if 48 ≤ c ∧ c ≤ 57 then 3 else if c = 32 then 1 else if 32 < c ∧ c ≤ 126 then 2 else 0
def isLo (c : UInt8) : Bool := decide (97 ≤ (c.toNat : Int) ∧ (c.toNat : Int) ≤ 122)
def isDi (c : UInt8) : Bool := decide (48 ≤ (c.toNat : Int) ∧ (c.toNat : Int) ≤ 57)
def isLd (c : UInt8) : Bool := isLo c || isDi c
/-- A valid word. -/
def wordB (l : List UInt8) : Bool := decide (1 ≤ l.length) && decide (l.length ≤ 10) && isLo (l.headD 0) && l.all isLd
theorem ret_int {k : IntKind} {a b : Int} (h : a = b) : Ending.returned (.int k a) = .returned (.int k b) := by rw [h]
theorem ret_bool {a b : Bool} (h : a = b) : Ending.returned (.bool a) = .returned (.bool b) := by rw [h]
theorem take_snoc (s : ByteArray) (k : Nat) (h : k < s.size) : s.data.toList.take (k + 1) = s.data.toList.take k ++ [s[k]] := by
  rw [List.take_succ_eq_append_getElem (by simpa using h)]; rfl
theorem all_snoc (p : UInt8 → Bool) (s : ByteArray) (k : Nat) (h : k < s.size) : (s.data.toList.take (k + 1)).all p = ((s.data.toList.take k).all p && p s[k]) := by
  rw [take_snoc s k h]; simp
theorem all_not (p : UInt8 → Bool) (s : ByteArray) (k : Nat) (h : k < s.size) (hp : p s[k] = false) : s.data.toList.all p = false := by
  have : s[k] ∈ s.data.toList := by
    have : s[k] = s.data.toList[k]'(by simpa using h) := rfl
    rw [this]; exact List.getElem_mem _
  rw [Bool.eq_false_iff]; intro ha
  rw [List.all_eq_true] at ha
  rw [ha _ this] at hp; cases hp
theorem head_get (l : List UInt8) (h : 0 < l.length) : l.headD 0 = l[0] := by
  cases l with
  | nil => simp at h
  | cons c t => rfl
theorem head_at (s : ByteArray) (h : 0 < s.size) : s.data.toList.headD 0 = s[0] :=
  head_get s.data.toList (by simpa using h)
def vstep (a : Int) (c : UInt8) : Int := 10 * a + ((c.toNat : Int) - 48)
def val (l : List UInt8) : Int := l.foldl vstep 0
end Go.Proofs.Ytjleempapphlhab
end
