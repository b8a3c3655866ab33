/- Parts of the proof: Base. -/
import Derived.OwnWalk
import Derived.Lib.SlBytesConst
import Derived.Outline
import Derived.Deep.QuietTactic
import Derived.BigQuiet
import Derived.RegionTactic
import Derived.BigRegion
import Derived.Deep.RegionLaw
import Derived.Deep.RegionHeld3
import Derived.StillTailTactics
import Derived.OpenShut
import Derived.Test.YtdhjfbnlkecggaaGeHelp
import Derived.Test.YtdhjfbnlkecggaaGeMini19
import Derived.Test.YtdhjfbnlkecggaaGeTexts
import Derived.Test.YtdhjfbnlkecggaaGeConv
import Derived.Test.YtdhjfbnlkecggaaGePlain
import Derived.Test.YtdhjfbnlkecggaaGeWorld
import Derived.Test.YtdhjfbnlkecggaaGeLists
import Derived.Test.YtdhjfbnlkecggaaGeDraw
section
namespace Go.Proofs.Ytdhjfbnlkecggaa.Mini
open Go Go.RowKit
set_option linter.unusedVariables false
set_option linter.unusedSimpArgs false
set_option maxRecDepth 20000
noncomputable def s_iword : Sig := sig Try.f35 (fun xs => (selS xs 0).size ≤ maxLen) (fun xs ys => ys = [.bool (wordB (selS xs 0).data.toList)])
noncomputable def s_sword : Sig := sig Try.f49 (fun xs => (selS xs 0).size ≤ maxLen) (fun xs ys => ys = [.bool (wordB (selS xs 0).data.toList)])
theorem va_iword (s0 : ByteArray) : (valsOf Try.prog Try.f35.params.toList [.str s0]).toArray = #[.string s0] := by kernel_rfl
theorem vr_iword (r : Bool) : wrapVal (valsOf Try.prog Try.f35.resultTypes.toList [.bool r]) = .bool r := by kernel_rfl
theorem ok_iword : FnOk Try.prog 35 s_iword := by
  refine ok_of_calls (fn := Try.f35) (ks := [.str]) (rk := [.bool]) rfl rfl rfl (by kernel_rfl) (by kernel_rfl) rfl rfl ?_
  intro w xs hf hp
  obtain ⟨s0, rfl⟩ := fits_s hf
  rw [va_iword]
  refine (iword_any s0 w hp).mono ?_
  rintro e w' ⟨rfl, rfl⟩
  exact ⟨[.bool (wordB s0.data.toList)], by rw [vr_iword], rfl, rfl, Below.refl _ _⟩
theorem va_sword (s0 : ByteArray) : (valsOf Try.prog Try.f49.params.toList [.str s0]).toArray = #[.string s0] := by kernel_rfl
theorem vr_sword (r : Bool) : wrapVal (valsOf Try.prog Try.f49.resultTypes.toList [.bool r]) = .bool r := by kernel_rfl
theorem ok_sword : FnOk Try.prog 49 s_sword := by
  refine ok_of_calls (fn := Try.f49) (ks := [.str]) (rk := [.bool]) rfl rfl rfl (by kernel_rfl) (by kernel_rfl) rfl rfl ?_
  intro w xs hf hp
  obtain ⟨s0, rfl⟩ := fits_s hf
  rw [va_sword]
  refine (sword_any s0 w hp).mono ?_
  rintro e w' ⟨rfl, rfl⟩
  exact ⟨[.bool (wordB s0.data.toList)], by rw [vr_sword], rfl, rfl, Below.refl _ _⟩
end Go.Proofs.Ytdhjfbnlkecggaa.Mini
end
