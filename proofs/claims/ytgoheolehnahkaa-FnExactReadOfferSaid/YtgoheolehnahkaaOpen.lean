/- Slices that came in as arguments of a law: what is read of them. -/
import Derived.Test.YtgoheolehnahkaaLists
import Derived.Deep.Slices
import Derived.Deep.Fields
import Derived.Deep.Strs
import Derived.ChangeSame
import Derived.OpenShut
import Derived.Lib.SmallJoins
namespace Go.Proofs.Ytgoheolehnahkaa
open Go.RowKit Go.ChangeShapes Go.WideShapes Go.Deep
set_option linter.unusedVariables false

section
variable {H : Type} {enc : TypeId × Value → H} {P : Program} {w : World} {α : Type} {C : α → List Value} {m : Nat} {ok : α → Prop}

theorem rows_upto (ad : Addr) (len : Nat) (hi : ∀ i, i < len → ∃ q : α, ok q ∧ ∀ r, r < m → w.cell? ((ad.add (i * m)).add r) = (C q)[r]?) :
    ∀ k, k ≤ len → ∃ hs : List α, hs.length = k ∧ ∀ i q, hs[i]? = some q → ok q ∧ ∀ r, r < m → w.cell? ((ad.add (i * m)).add r) = (C q)[r]? := by
  intro k
  induction k with
  | zero => intro _; exact ⟨[], rfl, fun i q h => by simp at h⟩
  | succ k ih =>
    intro hk
    obtain ⟨hs, hl, hh⟩ := ih (by omega)
    obtain ⟨q, hq⟩ := hi k (by omega)
    refine ⟨hs ++ [q], by simp [hl], fun i r h => ?_⟩
    rcases Nat.lt_or_ge i hs.length with h1 | h1
    · rw [List.getElem?_append_left h1] at h
      exact hh i r h
    · have h2 : i < (hs ++ [q]).length := (List.getElem?_eq_some_iff.mp h).1
      rw [List.length_append, List.length_singleton] at h2
      obtain rfl : i = k := by omega
      rw [List.getElem?_append_right h1, show i - hs.length = 0 by omega] at h
      obtain rfl : q = r := by simpa using h
      exact hq

theorem add_at (b off : Nat) (i j : Nat) : ((⟨b, off, none⟩ : Addr).add i).add j = ⟨b, off + (i + j), none⟩ := by
  cases i <;> cases j <;> simp [Addr.add] <;> omega

/-- A struct whose fields are one cell each: its cells, each with its own reading. -/
theorem open_fields {t : TypeId} {fs : Array Field} {n : Nat} {cs : List Value} {x : DataW H × List MemPlace} (hs : P.underlying t = some (.struct fs)) (hone : oneCellFields P fs = true) (hC : P.cellsOf t = fs.size)
    (h : DataW.trod enc P w 0 (fun _ => true) true n t cs = some x) :
    cs.length = fs.size ∧ ∃ n', ∀ (j : Nat) (f : Field), fs[j]? = some f → ∃ c y, cs[j]? = some c ∧ DataW.trod enc P w 0 (fun _ => true) true n' f.type [c] = some y := by
  obtain ⟨xs, n', _, _, hl, hlen, hf⟩ := DataW.trod_struct hs h
  refine ⟨by rw [hl, hC], n', fun j f hj => ?_⟩
  obtain ⟨ho, hk⟩ := hone_of hone j f hj
  have hj1 : j < fs.size := (Array.getElem?_eq_some_iff.mp hj).1
  have h1 := hf j f hj
  rw [ho, hk, List.drop_eq_getElem_cons (by omega), List.getElem?_eq_getElem (by omega)] at h1
  exact ⟨_, _, List.getElem?_eq_getElem (by omega), h1⟩

/-- A list of elements of m cells each. -/
theorem open_rows {t e : TypeId} {a : Option Addr} {len cap : Nat} {d : DataW H} {p : List MemPlace} (ht : P.underlying t = some (.slice e)) (hC : P.cellsOf e = m) (hm : ∀ a, (C a).length = m) (hpos : 0 < m)
    (helem : ∀ (n : Nat) (cs : List Value) (x : DataW H × List MemPlace), DataW.trod enc P w 0 (fun _ => true) true n e cs = some x → ∃ q, cs = C q ∧ ok q)
    (h : DataW.Trod enc P w 0 (fun _ => true) true t (.slice a len cap) d p) :
    ∃ hs : List α, len = hs.length ∧ len ≤ maxLen ∧ Sees w w.heap.size m a len (flat C hs) ∧ ∀ q ∈ hs, ok q := by
  obtain ⟨fuel, hf⟩ := h
  rcases open_slice ht hf with ⟨hcs, _⟩ | ⟨ad, l, c, k, n, D, Pl, hcs, hb, hl, hm', hk, hx, hi⟩
  · simp [Value.cells] at hcs
    obtain ⟨rfl, rfl, rfl⟩ := hcs
    exact ⟨[], rfl, Nat.zero_le _, Sees.none_, fun q hq => by simp at hq⟩
  · simp [Value.cells] at hcs
    obtain ⟨rfl, rfl, rfl⟩ := hcs
    have hkl : len ≤ k := by rw [hk]; simp; exact hl
    rw [hC] at hi
    have hi' : ∀ i, i < len → ∃ q : α, ok q ∧ ∀ r, r < m → w.cell? ((ad.add (i * m)).add r) = (C q)[r]? := by
      intro i hil
      obtain ⟨cs', h1, h2⟩ := hi i (by omega)
      obtain ⟨q, rfl, hq⟩ := helem n cs' _ h2
      obtain ⟨_, _, h3⟩ := World.cells?_some h1
      exact ⟨q, hq, h3⟩
    obtain ⟨hs, hlen, hh⟩ := rows_upto ad len hi' len (Nat.le_refl _)
    have hok : ∀ q ∈ hs, ok q := by
      intro q hq
      obtain ⟨i, hi1, hi2⟩ := List.getElem_of_mem hq
      exact (hh i q (by rw [List.getElem?_eq_getElem hi1, hi2])).1
    refine ⟨hs, hlen.symm, by omega, ⟨by rw [flat_len hm, hlen], fun hn => ?_⟩, hok⟩
    obtain ⟨b, off, spot⟩ := ad
    have h0 := (hh 0 (hs[0]'(by omega)) (List.getElem?_eq_getElem (by omega))).2 0 hpos
    rw [List.getElem?_eq_getElem (by rw [hm]; exact hpos)] at h0
    have hspot : spot = none := by simpa [Addr.add] using World.cell?_spot h0
    subst hspot
    have hblk : b < w.heap.size := by
      have := block_lt_of_cell h0
      simpa [Addr.add] using this
    refine ⟨b, off, rfl, hblk, fun j u hu => ?_⟩
    have hj : j < hs.length * m := by rw [← flat_len hm]; exact (List.getElem?_eq_some_iff.mp hu).1
    have hjd : j / m < hs.length := Nat.div_lt_of_lt_mul (by rw [Nat.mul_comm]; exact hj)
    have hje : j / m * m + j % m = j := by rw [Nat.mul_comm]; exact Nat.div_add_mod j m
    have h1 := flat_at hm hs (j / m) (j % m) hjd (Nat.mod_lt _ hpos)
    rw [hje, hu] at h1
    have h2 := (hh (j / m) hs[j / m] (List.getElem?_eq_getElem hjd)).2 (j % m) (Nat.mod_lt _ hpos)
    rw [add_at, hje, ← h1] at h2
    exact h2

theorem open_texts {t e : TypeId} {a : Option Addr} {len cap : Nat} {d : DataW H} {p : List MemPlace} (ht : P.underlying t = some (.slice e)) (he : P.underlying e = some .string) (hC : P.cellsOf e = 1)
    (h : DataW.Trod enc P w 0 (fun _ => true) true t (.slice a len cap) d p) :
    ∃ hs : List ByteArray, len = hs.length ∧ len ≤ maxLen ∧ Sees w w.heap.size 1 a len (flat (fun s => [.string s]) hs) ∧ ∀ s ∈ hs, s.size ≤ maxLen :=
  open_rows (ok := fun s : ByteArray => s.size ≤ maxLen) ht hC (fun _ => rfl) (by omega) (fun n cs x hx => by
    obtain ⟨s, rfl, _, hs⟩ := DataW.trod_string he hx
    exact ⟨s, rfl, hs⟩) h
end
end Go.Proofs.Ytgoheolehnahkaa
