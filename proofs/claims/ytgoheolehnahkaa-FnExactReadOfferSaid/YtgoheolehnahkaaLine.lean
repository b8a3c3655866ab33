/- The contracts of LineValid. -/
import Derived.Test.YtgoheolehnahkaaTexts
import Derived.OwnWalk
import Derived.Lib.SlBytesConst
import Derived.Outline
namespace Go.Proofs.Ytgoheolehnahkaa
open Go.RowKit
set_option maxRecDepth 20000
set_option linter.unusedVariables false

/-! ### Lines -/
/-! ### Numbers that are read -/
theorem bk_d (c : UInt8) (w : World) (h : isDi c = true) :
    Calls Try.prog 56 #[.int .u8 (c.toNat : Int)] w fun e w' => e = .returned (.int .i64 3) ∧ w = w' :=
  bk_3 c w (by unfold isDi at h; have := of_decide_eq_true h; unfold isLo; exact decide_eq_false (by omega)) h
end Go.Proofs.Ytgoheolehnahkaa
