/- Parts of the proof: AnsT. -/
import Derived.Test.YtbdmhdobdpcpaaaZeSAnsP
section
namespace Go.Proofs.Ytbdmhdobdpcpaaa.Mini
open Go Go.RowKit
set_option linter.unusedVariables false
set_option linter.unusedSimpArgs false
set_option maxRecDepth 20000
theorem sm_ref {o : Med} (h : smM o) : smM (refM o) := ⟨h.1, h.2.1, h.2.2⟩
theorem sm_zero : smM zeroMd := ⟨by decide, by simp [zeroMd], by simp [zeroMd]⟩
theorem sm_ans {o w : Med} (h : smM o) : smM (ansM o w) := by
  unfold ansM
  split
  · split
    · have := comS_len o.c w.c
      exact ⟨h.1, by show (comS o.c w.c).length ≤ _; have := h.2.1; omega, fun x hx => h.2.2 x (List.mem_filter.mp hx).1⟩
    · exact sm_ref h
  · exact sm_zero
end Go.Proofs.Ytbdmhdobdpcpaaa.Mini
end
