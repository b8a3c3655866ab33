/- The texts of addresses, and what is read of texts: both answers. -/
import Derived.Test.YtplcdadedpbkpaaAddrS
namespace Go.Proofs.Ytplcdadedpbkpaa
open Go.RowKit
set_option linter.unusedVariables false

/-- The text of an address, valid or not. -/
def textA (u h : ByteArray) : ByteArray := if (wordB u.data.toList && wordB h.data.toList) = true then ⟨(addrT u.data.toList h.data.toList).toArray⟩ else ByteArray.empty
theorem iat_all (u h : ByteArray) (w : World) (hu : u.size ≤ maxLen) (hh : h.size ≤ maxLen) :
    Calls Try.prog 52 #[.agg #[.string u, .string h]] w fun e w' => e = .returned (.string (textA u h)) ∧ Below w.heap.size w w' := by
  unfold textA
  by_cases hv : (wordB u.data.toList && wordB h.data.toList) = true
  · rw [if_pos hv]
    rw [Bool.and_eq_true] at hv
    exact iat_t u h w hv.1 hv.2
  · rw [if_neg hv]
    exact iat_f u h w hu hh (by simpa using hv)
theorem sat_all (u h : ByteArray) (w : World) (hu : u.size ≤ maxLen) (hh : h.size ≤ maxLen) :
    Calls Try.prog 33 #[.agg #[.string u, .string h]] w fun e w' => e = .returned (.string (textA u h)) ∧ Below w.heap.size w w' := by
  unfold textA
  by_cases hv : (wordB u.data.toList && wordB h.data.toList) = true
  · rw [if_pos hv]
    rw [Bool.and_eq_true] at hv
    exact sat_t u h w hv.1 hv.2
  · rw [if_neg hv]
    exact sat_f u h w hu hh (by simpa using hv)
/-- What is read of a text. -/
def readU (s : ByteArray) : ByteArray := if addrB s.data.toList = true then userS s else ⟨#[]⟩
def readH (s : ByteArray) : ByteArray := if addrB s.data.toList = true then hostS s else ⟨#[]⟩
theorem ira_any (s : ByteArray) (w : World) (hs : s.size ≤ maxLen) :
    Calls Try.prog 56 #[.string s] w fun e w' => e = .returned (.tuple #[.agg #[.string (readU s), .string (readH s)], .bool (addrB s.data.toList)]) ∧ Below w.heap.size w w' := by
  unfold readU readH
  by_cases hv : addrB s.data.toList = true
  · rw [if_pos hv, if_pos hv, hv]
    exact ira_t s w hs hv
  · rw [if_neg hv, if_neg hv, show addrB s.data.toList = false by simpa using hv]
    exact ira_f s w hs (by simpa using hv)
theorem sra_any (s : ByteArray) (w : World) (hs : s.size ≤ maxLen) :
    Calls Try.prog 25 #[.string s] w fun e w' => e = .returned (.tuple #[.agg #[.string (readU s), .string (readH s)], .bool (addrB s.data.toList)]) ∧ Below w.heap.size w w' := by
  unfold readU readH
  by_cases hv : addrB s.data.toList = true
  · rw [if_pos hv, if_pos hv, hv]
    exact sra_t s w hs hv
  · rw [if_neg hv, if_neg hv, show addrB s.data.toList = false by simpa using hv]
    exact sra_f s w hs (by simpa using hv)

end Go.Proofs.Ytplcdadedpbkpaa
