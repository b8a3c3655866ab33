/- Exact values: functions of the first chapters, by their contracts. -/
import Derived.Test.YtcgaflnegjakdaaHelp
import Derived.Test.YtcgaflnegjakdaaMini19
import Derived.Test.YtcgaflnegjakdaaTexts
import Derived.Test.YtcgaflnegjakdaaLine
import Derived.Test.YtcgaflnegjakdaaNums
import Derived.Test.YtcgaflnegjakdaaAddr
import Derived.Test.YtcgaflnegjakdaaSeq
import Derived.Test.YtcgaflnegjakdaaAlive
namespace Go.Proofs.Ytcgaflnegjakdaa.Mini
open Go Go.RowKit
set_option linter.unusedVariables false
set_option linter.unusedSimpArgs false
set_option maxRecDepth 20000
noncomputable def s_iword : Sig := sig Try.f25 (fun xs => (selS xs 0).size ≤ maxLen) (fun xs ys => ys = [.bool (wordB (selS xs 0).data.toList)])
noncomputable def s_alive : Sig := sig Try.f12 (fun xs => True) (fun xs ys => ys = [.bool true])
theorem va_iword (s0 : ByteArray) : (valsOf Try.prog Try.f25.params.toList [.str s0]).toArray = #[.string s0] := by kernel_rfl
theorem vr_iword (r : Bool) : wrapVal (valsOf Try.prog Try.f25.resultTypes.toList [.bool r]) = .bool r := by kernel_rfl
theorem ok_iword : FnOk Try.prog 25 s_iword := by
  refine ok_of_calls (fn := Try.f25) (ks := [.str]) (rk := [.bool]) rfl rfl rfl (by kernel_rfl) (by kernel_rfl) rfl rfl ?_
  intro w xs hf hp
  obtain ⟨s0, rfl⟩ := fits_s hf
  rw [va_iword]
  refine (iword_any s0 w hp).mono ?_
  rintro e w' ⟨rfl, rfl⟩
  exact ⟨[.bool (wordB s0.data.toList)], by rw [vr_iword], rfl, rfl, Below.refl _ _⟩
theorem va_alive  : (valsOf Try.prog Try.f12.params.toList []).toArray = #[] := by kernel_rfl
theorem vr_alive (r : Bool) : wrapVal (valsOf Try.prog Try.f12.resultTypes.toList [.bool r]) = .bool r := by kernel_rfl
theorem ok_alive : FnOk Try.prog 12 s_alive := by
  refine ok_of_calls (fn := Try.f12) (ks := []) (rk := [.bool]) rfl rfl rfl (by kernel_rfl) (by kernel_rfl) rfl rfl ?_
  intro w xs hf hp
  obtain rfl := fits_nil hf
  rw [va_alive]
  refine (alive_any w).mono ?_
  rintro e w' ⟨rfl, rfl⟩
  exact ⟨[.bool true], by rw [vr_alive], rfl, rfl, Below.refl _ _⟩
end Go.Proofs.Ytcgaflnegjakdaa.Mini
