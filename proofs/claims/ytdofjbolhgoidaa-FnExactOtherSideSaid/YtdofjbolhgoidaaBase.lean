/- Exact values: functions of the first chapters, by their contracts. -/
import Derived.Test.YtdofjbolhgoidaaHelp
import Derived.Test.YtdofjbolhgoidaaMini19
import Derived.Test.YtdofjbolhgoidaaTexts
import Derived.Test.YtdofjbolhgoidaaLine
import Derived.Test.YtdofjbolhgoidaaNums
import Derived.Test.YtdofjbolhgoidaaAddr
import Derived.Test.YtdofjbolhgoidaaSeq
import Derived.Test.YtdofjbolhgoidaaAlive
namespace Go.Proofs.Ytdofjbolhgoidaa.Mini
open Go Go.RowKit
set_option linter.unusedVariables false
set_option linter.unusedSimpArgs false
set_option maxRecDepth 20000
noncomputable def s_iword : Sig := sig Try.f32 (fun xs => (selS xs 0).size ≤ maxLen) (fun xs ys => ys = [.bool (wordB (selS xs 0).data.toList)])
noncomputable def s_sword : Sig := sig Try.f35 (fun xs => (selS xs 0).size ≤ maxLen) (fun xs ys => ys = [.bool (wordB (selS xs 0).data.toList)])
noncomputable def s_iaddr : Sig := sig Try.f33 (fun xs => (selS xs 0).size ≤ maxLen ∧ (selS xs 1).size ≤ maxLen) (fun xs ys => ys = [.bool (wordB (selS xs 0).data.toList && wordB (selS xs 1).data.toList)])
noncomputable def s_saddr : Sig := sig Try.f36 (fun xs => (selS xs 0).size ≤ maxLen ∧ (selS xs 1).size ≤ maxLen) (fun xs ys => ys = [.bool (wordB (selS xs 0).data.toList && wordB (selS xs 1).data.toList)])
noncomputable def s_iseq : Sig := sig Try.f39 (fun xs => (selS xs 0).size ≤ maxLen) (fun xs ys => ys = [.bool (seqB (selS xs 0) (selI xs 1))])
noncomputable def s_sseq : Sig := sig Try.f41 (fun xs => (selS xs 0).size ≤ maxLen) (fun xs ys => ys = [.bool (seqB (selS xs 0) (selI xs 1))])
noncomputable def s_alive : Sig := sig Try.f14 (fun xs => True) (fun xs ys => ys = [.bool true])
theorem va_iword (s0 : ByteArray) : (valsOf Try.prog Try.f32.params.toList [.str s0]).toArray = #[.string s0] := by kernel_rfl
theorem vr_iword (r : Bool) : wrapVal (valsOf Try.prog Try.f32.resultTypes.toList [.bool r]) = .bool r := by kernel_rfl
theorem ok_iword : FnOk Try.prog 32 s_iword := by
  refine ok_of_calls (fn := Try.f32) (ks := [.str]) (rk := [.bool]) rfl rfl rfl (by kernel_rfl) (by kernel_rfl) rfl rfl ?_
  intro w xs hf hp
  obtain ⟨s0, rfl⟩ := fits_s hf
  rw [va_iword]
  refine (iword_any s0 w hp).mono ?_
  rintro e w' ⟨rfl, rfl⟩
  exact ⟨[.bool (wordB s0.data.toList)], by rw [vr_iword], rfl, rfl, Below.refl _ _⟩
theorem va_sword (s0 : ByteArray) : (valsOf Try.prog Try.f35.params.toList [.str s0]).toArray = #[.string s0] := by kernel_rfl
theorem vr_sword (r : Bool) : wrapVal (valsOf Try.prog Try.f35.resultTypes.toList [.bool r]) = .bool r := by kernel_rfl
theorem ok_sword : FnOk Try.prog 35 s_sword := by
  refine ok_of_calls (fn := Try.f35) (ks := [.str]) (rk := [.bool]) rfl rfl rfl (by kernel_rfl) (by kernel_rfl) rfl rfl ?_
  intro w xs hf hp
  obtain ⟨s0, rfl⟩ := fits_s hf
  rw [va_sword]
  refine (sword_any s0 w hp).mono ?_
  rintro e w' ⟨rfl, rfl⟩
  exact ⟨[.bool (wordB s0.data.toList)], by rw [vr_sword], rfl, rfl, Below.refl _ _⟩
theorem va_iaddr (s0 : ByteArray) (s1 : ByteArray) : (valsOf Try.prog Try.f33.params.toList [.str s0, .str s1]).toArray = #[.agg #[.string s0, .string s1]] := by kernel_rfl
theorem vr_iaddr (r : Bool) : wrapVal (valsOf Try.prog Try.f33.resultTypes.toList [.bool r]) = .bool r := by kernel_rfl
theorem ok_iaddr : FnOk Try.prog 33 s_iaddr := by
  refine ok_of_calls (fn := Try.f33) (ks := [.str, .str]) (rk := [.bool]) rfl rfl rfl (by kernel_rfl) (by kernel_rfl) rfl rfl ?_
  intro w xs hf hp
  obtain ⟨s0, s1, rfl⟩ := fits_ss hf
  rw [va_iaddr]
  refine (iav_any s0 s1 w hp.1 hp.2).mono ?_
  rintro e w' ⟨rfl, hb⟩
  exact ⟨[.bool (wordB s0.data.toList && wordB s1.data.toList)], by rw [vr_iaddr], rfl, rfl, hb⟩
theorem va_saddr (s0 : ByteArray) (s1 : ByteArray) : (valsOf Try.prog Try.f36.params.toList [.str s0, .str s1]).toArray = #[.agg #[.string s0, .string s1]] := by kernel_rfl
theorem vr_saddr (r : Bool) : wrapVal (valsOf Try.prog Try.f36.resultTypes.toList [.bool r]) = .bool r := by kernel_rfl
theorem ok_saddr : FnOk Try.prog 36 s_saddr := by
  refine ok_of_calls (fn := Try.f36) (ks := [.str, .str]) (rk := [.bool]) rfl rfl rfl (by kernel_rfl) (by kernel_rfl) rfl rfl ?_
  intro w xs hf hp
  obtain ⟨s0, s1, rfl⟩ := fits_ss hf
  rw [va_saddr]
  refine (sav_any s0 s1 w hp.1 hp.2).mono ?_
  rintro e w' ⟨rfl, hb⟩
  exact ⟨[.bool (wordB s0.data.toList && wordB s1.data.toList)], by rw [vr_saddr], rfl, rfl, hb⟩
theorem va_iseq (s0 : ByteArray) (n1 : Int) : (valsOf Try.prog Try.f39.params.toList [.str s0, .int .i64 n1]).toArray = #[.agg #[.string s0, .int .i64 n1]] := by kernel_rfl
theorem vr_iseq (r : Bool) : wrapVal (valsOf Try.prog Try.f39.resultTypes.toList [.bool r]) = .bool r := by kernel_rfl
theorem ok_iseq : FnOk Try.prog 39 s_iseq := by
  refine ok_of_calls (fn := Try.f39) (ks := [.str, .int .i64]) (rk := [.bool]) rfl rfl rfl (by kernel_rfl) (by kernel_rfl) rfl rfl ?_
  intro w xs hf hp
  obtain ⟨s0, n1, rfl⟩ := fits_si hf
  rw [va_iseq]
  refine (isq_any s0 n1 w hp).mono ?_
  rintro e w' ⟨rfl, hb⟩
  exact ⟨[.bool (seqB s0 n1)], by rw [vr_iseq], rfl, rfl, hb⟩
theorem va_sseq (s0 : ByteArray) (n1 : Int) : (valsOf Try.prog Try.f41.params.toList [.str s0, .int .i64 n1]).toArray = #[.agg #[.string s0, .int .i64 n1]] := by kernel_rfl
theorem vr_sseq (r : Bool) : wrapVal (valsOf Try.prog Try.f41.resultTypes.toList [.bool r]) = .bool r := by kernel_rfl
theorem ok_sseq : FnOk Try.prog 41 s_sseq := by
  refine ok_of_calls (fn := Try.f41) (ks := [.str, .int .i64]) (rk := [.bool]) rfl rfl rfl (by kernel_rfl) (by kernel_rfl) rfl rfl ?_
  intro w xs hf hp
  obtain ⟨s0, n1, rfl⟩ := fits_si hf
  rw [va_sseq]
  refine (ssq_any s0 n1 w hp).mono ?_
  rintro e w' ⟨rfl, hb⟩
  exact ⟨[.bool (seqB s0 n1)], by rw [vr_sseq], rfl, rfl, hb⟩
theorem va_alive  : (valsOf Try.prog Try.f14.params.toList []).toArray = #[] := by kernel_rfl
theorem vr_alive (r : Bool) : wrapVal (valsOf Try.prog Try.f14.resultTypes.toList [.bool r]) = .bool r := by kernel_rfl
theorem ok_alive : FnOk Try.prog 14 s_alive := by
  refine ok_of_calls (fn := Try.f14) (ks := []) (rk := [.bool]) rfl rfl rfl (by kernel_rfl) (by kernel_rfl) rfl rfl ?_
  intro w xs hf hp
  obtain rfl := fits_nil hf
  rw [va_alive]
  refine (alive_any w).mono ?_
  rintro e w' ⟨rfl, rfl⟩
  exact ⟨[.bool true], by rw [vr_alive], rfl, rfl, Below.refl _ _⟩
end Go.Proofs.Ytdofjbolhgoidaa.Mini
