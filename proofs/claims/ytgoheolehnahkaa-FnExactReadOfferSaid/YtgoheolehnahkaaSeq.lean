/- The contracts of the functions of chapter 5: valid sequences, their texts, what fits. -/
import Derived.Test.YtgoheolehnahkaaWords
import Derived.Test.YtgoheolehnahkaaNums
import Derived.Test.YtgoheolehnahkaaWorld
import Derived.Test.YtgoheolehnahkaaLists
import Derived.RegionTactic
import Derived.BigRegion
import Derived.Deep.RegionLaw
import Derived.Deep.RegionHeld3
import Derived.StillTailTactics
import Derived.Deep.QuietTactic
import Derived.BigQuiet
import Derived.Outline
namespace Go.Proofs.Ytgoheolehnahkaa
open Go.RowKit
set_option linter.unusedVariables false
set_option maxRecDepth 20000

/-- A valid sequence. -/
def seqB (a : ByteArray) (n : Int) : Bool := wordB a.data.toList && (decide (1 ≤ n) && decide (n ≤ 1000000))
theorem seq_word {a : ByteArray} {n : Int} (h : seqB a n = true) : wordB a.data.toList = true ∧ 1 ≤ n ∧ n ≤ 1000000 := by
  unfold seqB at h
  simp only [Bool.and_eq_true, decide_eq_true_eq] at h
  exact h
theorem seq_size {a : ByteArray} {n : Int} (h : seqB a n = true) : a.size ≤ 10 := by
  have := word_len (seq_word h).1
  have e : a.data.toList.length = a.size := by simp
  omega
/-- The text of a sequence. -/
def seqT (a : ByteArray) (n : Int) : ByteArray := textS n ++ ⟨#[32]⟩ ++ a
def textQ (a : ByteArray) (n : Int) : ByteArray := if seqB a n = true then seqT a n else ByteArray.empty
theorem textS_size (n : Int) : (textS n).size ≤ 7 := by
  unfold textS textN
  split
  · have := numT_len7 n.toNat (by omega)
    show (numT n.toNat).toArray.size ≤ 7
    simpa using this
  · decide
end Go.Proofs.Ytgoheolehnahkaa
