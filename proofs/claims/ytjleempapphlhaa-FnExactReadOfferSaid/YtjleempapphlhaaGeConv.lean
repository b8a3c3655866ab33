/- Parts of the proof: Conv. -/
import Derived.Test.YtjleempapphlhaaChecked
import Derived.OwnWalk
import Derived.Lib.SlBytesConst
import Derived.Outline
import Derived.Test.YtjleempapphlhaaGePlain
section
namespace Go.Proofs.Ytjleempapphlhaa
open Go.RowKit
set_option linter.unusedVariables false
theorem rest_step (r : Nat) (hr : 0 < r) (t : List UInt8) : preT (r / 10) ++ ([dg (r % 10)] ++ t) = preT r ++ t := by
  rw [preT_pos hr, numT_eq r, List.append_assoc]
theorem tod (r : Nat) : ((r : Int) % 10).toNat = r % 10 := by omega
/-- The byte of a number. -/
def byteOf (x : Int) : UInt8 := UInt8.ofNat x.toNat
/-- string([]byte{x}) of one byte. -/
theorem run_one (w : World) (x : Int) :
    (convert 22 9 (.slice (some ⟨w.heap.size, 0, none⟩) 1 1)).run Try.prog (w.alloc (.cells #[.int .u8 x] 5)) = .ok (.string ⟨#[byteOf x]⟩) (w.alloc (.cells #[.int .u8 x] 5)) := by
  rw [run_convert_bytes_string _ 22 9 5 (some ⟨w.heap.size, 0, none⟩) 1 1 Try.underlying22 Try.underlying5 Try.underlying9]
  have hl := run_loadCells_list (P := Try.prog) (w.alloc (.cells #[.int .u8 x] 5)) ⟨w.heap.size, 0, none⟩ ([x].map (Value.int .u8)) (fun j v hj => by
    match j, hj with
    | 0, hj => simp at hj; subst hj; simp [Addr.add])
  simp only [List.length_map, List.length_singleton] at hl
  rw [run_bytesToString _ _ 1 1 _ hl]
  rfl
theorem dg_int (r : Nat) : byteOf (48 + (r : Int) % 10) = dg (r % 10) := by
  unfold byteOf dg; congr 1
end Go.Proofs.Ytjleempapphlhaa
end
