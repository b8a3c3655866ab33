/- Parts of the proof: Typ3. -/
import Derived.Test.YtjleempapphlhabGeTyp2
import Derived.Test.YtjleempapphlhabGeDraw
import Derived.Test.YtjleempapphlhabGeLists
section
namespace Go.Proofs.Ytjleempapphlhab.Typ
open Go Go.RowKit
set_option maxRecDepth 20000
set_option linter.unusedVariables false
/-- What numbers and texts in rows may be. -/
structure Bd where
  lo : Int
  hi : Int
  m : Nat
def cellsOf (P : Program) (β : Bd) : Nat → Nat → Option (List At)
  | 0, _ => none
  | f + 1, t => match P.underlying t with
    | some (.int .i64) => some [.int .i64 β.lo β.hi]
    | some (.int .u8) => some [.int .u8 0 255]
    | some .bool => some [.bool none]
    | some .string => some [.str β.m]
    | some (.slice el) => some [.sliceQ el 0]
    | some (.struct fs) => fs.toList.foldr (fun fd acc => match cellsOf P β f fd.type, acc with | some a, some b => some (a ++ b) | _, _ => none) (some [])
    | _ => none
section
variable {w : World} {top g q : Nat}
theorem RdT.lt (h : RdT top w g q) : g < w.heap.size := by
  obtain ⟨ao, len, cap, p, hg, _⟩ := h
  exact (Array.getElem?_eq_some_iff.mp hg).1
theorem cell_same {w w' : World} {b i : Nat} (h : w'.heap[b]? = w.heap[b]?) : w'.cell? ⟨b, i, none⟩ = w.cell? ⟨b, i, none⟩ := by simp only [World.cell?, h]
theorem Bytes.same {w w' : World} {ao : Option Addr} {len : Nat} (hb : Bytes w ao len top) (h : ∀ b, b < top → w'.heap[b]? = w.heap[b]?) : Bytes w' ao len top := by
  rcases hb with hb | ⟨b, off, h1, h2, h3⟩
  · exact .inl hb
  · refine .inr ⟨b, off, h1, h2, fun i hi => ?_⟩
    obtain ⟨z, z0, z1, hz⟩ := h3 i hi
    exact ⟨z, z0, z1, (cell_same (h b h2)).trans hz⟩
theorem RdT.keep {w' : World} (h : RdT top w g q) (hg : w'.heap[g]? = w.heap[g]?) (hb : ∀ b, b < top → w'.heap[b]? = w.heap[b]?) : RdT top w' g q := by
  obtain ⟨ao, len, cap, p, h1, h2, h3, h4⟩ := h
  exact ⟨ao, len, cap, p, hg.trans h1, h2, h3, Bytes.same h4 hb⟩
end
end Go.Proofs.Ytjleempapphlhab.Typ
namespace Go.Proofs.Ytjleempapphlhab.Typ
open Go Go.RowKit
set_option linter.unusedVariables false
section
variable {E : Env} {κ : Kr} {q : Nat} {w : World}
theorem str_of {m : Nat} {v : Value} (h : gAt E κ (.str m) v) : ∃ s : ByteArray, v = .string s ∧ s.size ≤ m := h
end
section
variable {E : Env} {κ : Kr} {q : Nat} {w w' : World}
/-- Calls that leave all that was. -/
theorem Inv.below (hE : EnvOk E) (h : Inv E κ q w) (hb : Below w.heap.size w w') : Inv E κ q w' := by
  refine ⟨hb.os.trans h.os, hb.tape.trans h.tape, hb.output.trans h.output, Nat.le_trans h.size hb.size, fun b hb0 => ?_, fun b t N hbt => ?_, h.c, fun g hg => ?_⟩
  · have := h.size
    exact (hb.block b (by omega)).trans (h.base b hb0)
  · obtain ⟨r1, r2, cc, r3, r4⟩ := h.rows b t N hbt
    exact ⟨r1, r2, cc, (hb.block b (Array.getElem?_eq_some_iff.mp r3).1).trans r3, r4⟩
  · obtain ⟨r1, r2⟩ := h.rd g hg
    have := h.size
    exact ⟨r1, hE.rdKeep w w' g q r2 (hb.block g (hE.rdLt _ _ _ r2)) (fun b hb0 => hb.block b (by omega))⟩
/-- One function more, whose answer holds no memory. -/
def Fns.put (F : Fns) (f : Nat) (g : List AV → Option AV) : Fns := fun k args => if k = f then (match g args with | some av => some (av, 0) | none => none) else F k args
end
end Go.Proofs.Ytjleempapphlhab.Typ
end
