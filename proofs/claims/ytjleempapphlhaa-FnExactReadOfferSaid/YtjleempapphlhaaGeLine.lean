/- Parts of the proof: Line. -/
import Derived.OwnWalk
import Derived.Lib.SlBytesConst
import Derived.Outline
import Derived.Test.YtjleempapphlhaaGeTexts
section
namespace Go.Proofs.Ytjleempapphlhaa
open Go.RowKit
set_option maxRecDepth 20000
set_option linter.unusedVariables false
theorem bk_d (c : UInt8) (w : World) (h : isDi c = true) :
    Calls Try.prog 56 #[.int .u8 (c.toNat : Int)] w fun e w' => e = .returned (.int .i64 3) ∧ w = w' :=
  bk_3 c w (by unfold isDi at h; have := of_decide_eq_true h; unfold isLo; exact decide_eq_false (by omega)) h
end Go.Proofs.Ytjleempapphlhaa
end
