/- The contracts of LineValid. -/
import Derived.Test.YtdofjbolhgoidaaTexts
import Derived.OwnWalk
import Derived.Lib.SlBytesConst
import Derived.Outline
namespace Go.Proofs.Ytdofjbolhgoidaa
open Go.RowKit
set_option linter.unusedVariables false

/-! ### Lines -/
/-! ### Numbers that are read -/
theorem bk_d (c : UInt8) (w : World) (h : isDi c = true) :
    Calls Try.prog 47 #[.int .u8 (c.toNat : Int)] w fun e w' => e = .returned (.int .i64 3) ∧ w = w' :=
  bk_3 c w (by unfold isDi at h; have := of_decide_eq_true h; unfold isLo; exact decide_eq_false (by omega)) h
end Go.Proofs.Ytdofjbolhgoidaa
