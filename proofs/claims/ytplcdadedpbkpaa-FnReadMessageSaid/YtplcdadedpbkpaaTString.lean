/- The contracts of the laws' helpers for lists of texts. -/
import Derived.Test.YtplcdadedpbkpaaGa
import Derived.Deep.RegionWith
import Derived.Deep.RegionHeld3
import Derived.Deep.QuietTactic
import Derived.BigQuiet
namespace Go.Proofs.Ytplcdadedpbkpaa
open Go.RowKit
set_option linter.unusedVariables false

def strC (s : ByteArray) : List Value := [.string s]
theorem strC_len (s : ByteArray) : (strC s).length = 1 := rfl
theorem info_string : (Try.prog.info? 9).map (fun i => (i.zero, i.size, i.bytes)) = some (some (.string ⟨#[]⟩), 1, 16) := by kernel_rfl
theorem str_cell {w : World} {b off : Nat} {hs : List ByteArray} (hc : ∀ j u, (flat strC hs)[j]? = some u → w.cell? ⟨b, off + j, none⟩ = some u) {k : Nat} {p : ByteArray} (hk : hs[k]? = some p) : w.cell? ⟨b, off + k, none⟩ = some (.string p) := by
  have := hc (k * 1 + 0) _ (flat_get strC_len hs hk rfl)
  simpa using this

/-- What is left behind a list was measured: nothing, or enough for it. -/
def SzP (left : Int) (ok : Prop) (w : World) (e : Ending) (w' : World) : Prop := ∃ v : Int, e = .returned (.int .i64 v) ∧ (v < 0 ∨ (0 ≤ v ∧ v ≤ left ∧ ok)) ∧ Below w.heap.size w w'
def strsOk (M : Int) (hs : List ByteArray) : Prop := (hs.length : Int) ≤ M ∧ ∀ s ∈ hs, (s.size : Int) ≤ M
theorem strsOk_mono {M M' : Int} {hs : List ByteArray} (h : M ≤ M') (ho : strsOk M hs) : strsOk M' hs := ⟨by have := ho.1; omega, fun s hs => by have := ho.2 s hs; omega⟩
def strsMax (hs : List ByteArray) : Prop := ∀ s ∈ hs, s.size ≤ maxLen
theorem mem_more {α : Type} {p : α → Prop} {hs : List α} {k : Nat} {a : α} (h : hs[k]? = some a) (h1 : ∀ s ∈ hs.take k, p s) (h2 : p a) : ∀ s ∈ hs.take (k + 1), p s := by
  rw [take_more h]
  intro s hs
  rw [List.mem_append, List.mem_singleton] at hs
  rcases hs with hs | rfl
  · exact h1 s hs
  · exact h2

/-- The marks of a list of texts. -/
def strMk (k i : Nat) : List Value := [.string (mtxt (k + i))]
theorem strMk_len (k i : Nat) : (strMk k i).length = 1 := rfl

end Go.Proofs.Ytplcdadedpbkpaa
