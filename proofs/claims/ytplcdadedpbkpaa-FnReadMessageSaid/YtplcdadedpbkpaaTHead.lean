/- The contracts of the laws' helpers for Head and lists of it. Written by gen_t.py. -/
import Derived.Test.YtplcdadedpbkpaaTString
import Derived.Test.YtplcdadedpbkpaaOpen
namespace Go.Proofs.Ytplcdadedpbkpaa
open Go.RowKit
set_option linter.unusedVariables false

structure HeadM where
  x0 : ByteArray
  x1 : ByteArray

def headC (p : HeadM) : List Value := [.string p.x0, .string p.x1]
def headV (p : HeadM) : Value := .agg #[.string p.x0, .string p.x1]
theorem headC_len (p : HeadM) : (headC p).length = 2 := rfl
theorem info_head : (Try.prog.info? 68).map (fun i => (i.zero, i.size, i.bytes)) = some (some (.agg #[.string ⟨#[]⟩, .string ⟨#[]⟩]), 2, 32) := by kernel_rfl
theorem head_cells {w : World} {b off : Nat} {hs : List HeadM} (hc : ∀ j u, (flat headC hs)[j]? = some u → w.cell? ⟨b, off + j, none⟩ = some u) {k : Nat} {p : HeadM} (hk : hs[k]? = some p) :
    w.cell? ⟨b, off + k * 2, none⟩ = some (.string p.x0) ∧ w.cell? ⟨b, off + k * 2 + 1, none⟩ = some (.string p.x1) :=
  ⟨hc (k * 2 + 0) _ (flat_get headC_len hs hk rfl), hc (k * 2 + 1) _ (flat_get headC_len hs hk rfl)⟩
/-- The texts of an element. -/
def headOk (M : Int) (p : HeadM) : Prop := (p.x0.size : Int) ≤ M ∧ (p.x1.size : Int) ≤ M
def headsOk (M : Int) (hs : List HeadM) : Prop := (hs.length : Int) ≤ M ∧ ∀ p ∈ hs, headOk M p
def headMax (hs : List HeadM) : Prop := ∀ p ∈ hs, headOk maxLen p

theorem headOk_mono {M M' : Int} {p : HeadM} (h : M ≤ M') (ho : headOk M p) : headOk M' p := by
  unfold headOk at ho ⊢
  exact ⟨by omega, by omega⟩
theorem headsOk_mono {M M' : Int} {hs : List HeadM} (h : M ≤ M') (ho : headsOk M hs) : headsOk M' hs := ⟨by have := ho.1; omega, fun p hp => headOk_mono h (ho.2 p hp)⟩
/-- The marks of a list. -/
def headMk (q i : Nat) : List Value := [.string (mtxt (q + i * 2)), .string (mtxt (q + i * 2 + 1))]
theorem headMk_len (q i : Nat) : (headMk q i).length = 2 := rfl
end Go.Proofs.Ytplcdadedpbkpaa
