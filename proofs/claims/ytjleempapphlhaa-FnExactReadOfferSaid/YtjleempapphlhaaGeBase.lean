/- Parts of the proof: Base. -/
import Derived.OpenShut
import Derived.Test.YtjleempapphlhaaGeHelp
import Derived.Test.YtjleempapphlhaaGeMini19
import Derived.Test.YtjleempapphlhaaGeTexts
import Derived.Test.YtjleempapphlhaaGeLine
import Derived.Test.YtjleempapphlhaaGeNums
import Derived.Test.YtjleempapphlhaaGeAddr
import Derived.Test.YtjleempapphlhaaGeSeq
import Derived.Test.YtjleempapphlhaaGeDraw
section
namespace Go.Proofs.Ytjleempapphlhaa.Mini
open Go Go.RowKit
set_option linter.unusedVariables false
set_option linter.unusedSimpArgs false
set_option maxRecDepth 20000
noncomputable def s_iword : Sig := sig Try.f41 (fun xs => (selS xs 0).size ≤ maxLen) (fun xs ys => ys = [.bool (wordB (selS xs 0).data.toList)])
noncomputable def s_sword : Sig := sig Try.f43 (fun xs => (selS xs 0).size ≤ maxLen) (fun xs ys => ys = [.bool (wordB (selS xs 0).data.toList)])
noncomputable def s_inum : Sig := sig Try.f58 (fun xs => True) (fun xs ys => ys = [.str (textS (selI xs 0))])
noncomputable def s_snum : Sig := sig Try.f47 (fun xs => True) (fun xs ys => ys = [.str (textS (selI xs 0))])
noncomputable def s_iread : Sig := sig Try.f62 (fun xs => (selS xs 0).size ≤ maxLen) (fun xs ys => ys = [.int .i64 (readN (selS xs 0).data.toList)])
noncomputable def s_sread : Sig := sig Try.f55 (fun xs => (selS xs 0).size ≤ maxLen) (fun xs ys => ys = [.int .i64 (readN (selS xs 0).data.toList)])
theorem va_iword (s0 : ByteArray) : (valsOf Try.prog Try.f41.params.toList [.str s0]).toArray = #[.string s0] := by kernel_rfl
theorem vr_iword (r : Bool) : wrapVal (valsOf Try.prog Try.f41.resultTypes.toList [.bool r]) = .bool r := by kernel_rfl
theorem ok_iword : FnOk Try.prog 41 s_iword := by
  refine ok_of_calls (fn := Try.f41) (ks := [.str]) (rk := [.bool]) rfl rfl rfl (by kernel_rfl) (by kernel_rfl) rfl rfl ?_
  intro w xs hf hp
  obtain ⟨s0, rfl⟩ := fits_s hf
  rw [va_iword]
  refine (iword_any s0 w hp).mono ?_
  rintro e w' ⟨rfl, rfl⟩
  exact ⟨[.bool (wordB s0.data.toList)], by rw [vr_iword], rfl, rfl, Below.refl _ _⟩
theorem va_sword (s0 : ByteArray) : (valsOf Try.prog Try.f43.params.toList [.str s0]).toArray = #[.string s0] := by kernel_rfl
theorem vr_sword (r : Bool) : wrapVal (valsOf Try.prog Try.f43.resultTypes.toList [.bool r]) = .bool r := by kernel_rfl
theorem ok_sword : FnOk Try.prog 43 s_sword := by
  refine ok_of_calls (fn := Try.f43) (ks := [.str]) (rk := [.bool]) rfl rfl rfl (by kernel_rfl) (by kernel_rfl) rfl rfl ?_
  intro w xs hf hp
  obtain ⟨s0, rfl⟩ := fits_s hf
  rw [va_sword]
  refine (sword_any s0 w hp).mono ?_
  rintro e w' ⟨rfl, rfl⟩
  exact ⟨[.bool (wordB s0.data.toList)], by rw [vr_sword], rfl, rfl, Below.refl _ _⟩
theorem va_inum (n0 : Int) : (valsOf Try.prog Try.f58.params.toList [.int .i64 n0]).toArray = #[.int .i64 n0] := by kernel_rfl
theorem vr_inum (r : ByteArray) : wrapVal (valsOf Try.prog Try.f58.resultTypes.toList [.str r]) = .string r := by kernel_rfl
theorem ok_inum : FnOk Try.prog 58 s_inum := by
  refine ok_of_calls (fn := Try.f58) (ks := [.int .i64]) (rk := [.str]) rfl rfl rfl (by kernel_rfl) (by kernel_rfl) rfl rfl ?_
  intro w xs hf hp
  obtain ⟨n0, rfl⟩ := fits_i hf
  rw [va_inum]
  refine (inum_any n0 w).mono ?_
  rintro e w' ⟨rfl, rfl⟩
  exact ⟨[.str (textS n0)], by rw [vr_inum], rfl, rfl, Below.refl _ _⟩
theorem va_snum (n0 : Int) : (valsOf Try.prog Try.f47.params.toList [.int .i64 n0]).toArray = #[.int .i64 n0] := by kernel_rfl
theorem vr_snum (r : ByteArray) : wrapVal (valsOf Try.prog Try.f47.resultTypes.toList [.str r]) = .string r := by kernel_rfl
theorem ok_snum : FnOk Try.prog 47 s_snum := by
  refine ok_of_calls (fn := Try.f47) (ks := [.int .i64]) (rk := [.str]) rfl rfl rfl (by kernel_rfl) (by kernel_rfl) rfl rfl ?_
  intro w xs hf hp
  obtain ⟨n0, rfl⟩ := fits_i hf
  rw [va_snum]
  refine (snum_any n0 w).mono ?_
  rintro e w' ⟨rfl, hb⟩
  exact ⟨[.str (textS n0)], by rw [vr_snum], rfl, rfl, hb⟩
theorem va_iread (s0 : ByteArray) : (valsOf Try.prog Try.f62.params.toList [.str s0]).toArray = #[.string s0] := by kernel_rfl
theorem vr_iread (r : Int) : wrapVal (valsOf Try.prog Try.f62.resultTypes.toList [.int .i64 r]) = .int .i64 r := by kernel_rfl
theorem ok_iread : FnOk Try.prog 62 s_iread := by
  refine ok_of_calls (fn := Try.f62) (ks := [.str]) (rk := [.int .i64]) rfl rfl rfl (by kernel_rfl) (by kernel_rfl) rfl rfl ?_
  intro w xs hf hp
  obtain ⟨s0, rfl⟩ := fits_s hf
  rw [va_iread]
  refine (iread_any s0 w hp).mono ?_
  rintro e w' ⟨rfl, rfl⟩
  exact ⟨[.int .i64 (readN s0.data.toList)], by rw [vr_iread], rfl, rfl, Below.refl _ _⟩
theorem va_sread (s0 : ByteArray) : (valsOf Try.prog Try.f55.params.toList [.str s0]).toArray = #[.string s0] := by kernel_rfl
theorem vr_sread (r : Int) : wrapVal (valsOf Try.prog Try.f55.resultTypes.toList [.int .i64 r]) = .int .i64 r := by kernel_rfl
theorem ok_sread : FnOk Try.prog 55 s_sread := by
  refine ok_of_calls (fn := Try.f55) (ks := [.str]) (rk := [.int .i64]) rfl rfl rfl (by kernel_rfl) (by kernel_rfl) rfl rfl ?_
  intro w xs hf hp
  obtain ⟨s0, rfl⟩ := fits_s hf
  rw [va_sread]
  refine (sread_any s0 w hp).mono ?_
  rintro e w' ⟨rfl, hb⟩
  exact ⟨[.int .i64 (readN s0.data.toList)], by rw [vr_sread], rfl, rfl, hb⟩
end Go.Proofs.Ytjleempapphlhaa.Mini
end
