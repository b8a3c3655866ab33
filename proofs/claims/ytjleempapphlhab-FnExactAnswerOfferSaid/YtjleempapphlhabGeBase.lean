/- Parts of the proof: Conv, Base. -/
import Derived.Test.YtjleempapphlhabChecked
import Derived.OwnWalk
import Derived.Lib.SlBytesConst
import Derived.Outline
import Derived.Deep.QuietTactic
import Derived.BigQuiet
import Derived.RegionTactic
import Derived.BigRegion
import Derived.Deep.RegionLaw
import Derived.Deep.RegionHeld3
import Derived.StillTailTactics
import Derived.OpenShut
import Derived.Test.YtjleempapphlhabGePlain
import Derived.Test.YtjleempapphlhabGeHelp
import Derived.Test.YtjleempapphlhabGeMini19
import Derived.Test.YtjleempapphlhabGeTexts
import Derived.Test.YtjleempapphlhabGeWorld
import Derived.Test.YtjleempapphlhabGeLists
import Derived.Test.YtjleempapphlhabGeDraw
section
namespace Go.Proofs.Ytjleempapphlhab
open Go.RowKit
set_option linter.unusedVariables false
theorem rest_step (r : Nat) (hr : 0 < r) (t : List UInt8) : preT (r / 10) ++ ([dg (r % 10)] ++ t) = preT r ++ t := by
  rw [preT_pos hr, numT_eq r, List.append_assoc]
/-- The byte of a number. -/
def byteOf (x : Int) : UInt8 := UInt8.ofNat x.toNat
/-- string([]byte{x}) of one byte. -/
theorem run_one (w : World) (x : Int) :
    (convert 22 9 (.slice (some ⟨w.heap.size, 0, none⟩) 1 1)).run Try.prog (w.alloc (.cells #[.int .u8 x] 5)) = .ok (.string ⟨#[byteOf x]⟩) (w.alloc (.cells #[.int .u8 x] 5)) := by
  rw [run_convert_bytes_string _ 22 9 5 (some ⟨w.heap.size, 0, none⟩) 1 1 Try.underlying22 Try.underlying5 Try.underlying9]
  have hl := run_loadCells_list (P := Try.prog) (w.alloc (.cells #[.int .u8 x] 5)) ⟨w.heap.size, 0, none⟩ ([x].map (Value.int .u8)) (fun j v hj => by
    match j, hj with
    | 0, hj => simp at hj; subst hj; simp [Addr.add])
  simp only [List.length_map, List.length_singleton] at hl
  rw [run_bytesToString _ _ 1 1 _ hl]
  rfl
theorem dg_int (r : Nat) : byteOf (48 + (r : Int) % 10) = dg (r % 10) := by
  unfold byteOf dg; congr 1
end Go.Proofs.Ytjleempapphlhab
end
section
namespace Go.Proofs.Ytjleempapphlhab.Mini
open Go Go.RowKit
set_option linter.unusedVariables false
set_option linter.unusedSimpArgs false
set_option maxRecDepth 20000
noncomputable def s_iword : Sig := sig Try.f41 (fun xs => (selS xs 0).size ≤ maxLen) (fun xs ys => ys = [.bool (wordB (selS xs 0).data.toList)])
noncomputable def s_sword : Sig := sig Try.f57 (fun xs => (selS xs 0).size ≤ maxLen) (fun xs ys => ys = [.bool (wordB (selS xs 0).data.toList)])
theorem va_iword (s0 : ByteArray) : (valsOf Try.prog Try.f41.params.toList [.str s0]).toArray = #[.string s0] := by kernel_rfl
theorem vr_iword (r : Bool) : wrapVal (valsOf Try.prog Try.f41.resultTypes.toList [.bool r]) = .bool r := by kernel_rfl
theorem ok_iword : FnOk Try.prog 41 s_iword := by
  refine ok_of_calls (fn := Try.f41) (ks := [.str]) (rk := [.bool]) rfl rfl rfl (by kernel_rfl) (by kernel_rfl) rfl rfl ?_
  intro w xs hf hp
  obtain ⟨s0, rfl⟩ := fits_s hf
  rw [va_iword]
  refine (iword_any s0 w hp).mono ?_
  rintro e w' ⟨rfl, rfl⟩
  exact ⟨[.bool (wordB s0.data.toList)], by rw [vr_iword], rfl, rfl, Below.refl _ _⟩
theorem va_sword (s0 : ByteArray) : (valsOf Try.prog Try.f57.params.toList [.str s0]).toArray = #[.string s0] := by kernel_rfl
theorem vr_sword (r : Bool) : wrapVal (valsOf Try.prog Try.f57.resultTypes.toList [.bool r]) = .bool r := by kernel_rfl
theorem ok_sword : FnOk Try.prog 57 s_sword := by
  refine ok_of_calls (fn := Try.f57) (ks := [.str]) (rk := [.bool]) rfl rfl rfl (by kernel_rfl) (by kernel_rfl) rfl rfl ?_
  intro w xs hf hp
  obtain ⟨s0, rfl⟩ := fits_s hf
  rw [va_sword]
  refine (sword_any s0 w hp).mono ?_
  rintro e w' ⟨rfl, rfl⟩
  exact ⟨[.bool (wordB s0.data.toList)], by rw [vr_sword], rfl, rfl, Below.refl _ _⟩
end Go.Proofs.Ytjleempapphlhab.Mini
end
