/- Parts of the proof: Alive. -/
import Derived.OpenShut
import Derived.Test.YtcnmpghenfbflaaGdTexts
import Derived.Test.YtcnmpghenfbflaaGdDraw
section
namespace Go.Proofs.Ytcnmpghenfbflaa
open Go.RowKit
set_option maxRecDepth 20000
set_option linter.unusedVariables false
theorem alive_any (w : World) : Calls Try.prog 14 #[] w fun e w' => e = .returned (.bool true) ∧ w = w' := by
  have h1 : ∀ W : World, Calls Try.prog 36 #[.string ⟨#[97, 49]⟩] W fun e w' => e = .returned (.bool true) ∧ W = w' := fun W => iword_any ⟨#[97, 49]⟩ W (by decide)
  have h2 : ∀ W : World, Calls Try.prog 36 #[.string ⟨#[49, 97]⟩] W fun e w' => e = .returned (.bool false) ∧ W = w' := fun W => iword_any ⟨#[49, 97]⟩ W (by decide)
  have H1 := Lib.hid h1
  have H2 := Lib.hid h2
  clear h1 h2
  go_enter Try.func14, Try.ntmps14
  go_wp2_with fail
  refine (H1.out _).mono ?_
  rintro e w1 ⟨rfl, rfl⟩
  go_wp2_with fail
  refine (H2.out _).mono ?_
  rintro e w1 ⟨rfl, rfl⟩
  go_wp2
  go_ret
  exact ⟨rfl, rfl⟩
end Go.Proofs.Ytcnmpghenfbflaa
end
