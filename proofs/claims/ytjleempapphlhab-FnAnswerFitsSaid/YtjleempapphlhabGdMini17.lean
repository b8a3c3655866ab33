/- Parts of the proof: Mini16, Typ3, Mini17. -/
import Derived.Test.YtjleempapphlhabGdMini15
import Derived.Test.YtjleempapphlhabGdPlain
import Derived.Test.YtjleempapphlhabGdAlive
import Derived.Test.YtjleempapphlhabGdTyp2
section
namespace Go.Proofs.Ytjleempapphlhab.Mini
open Go Go.RowKit
set_option linter.unusedVariables false
set_option maxRecDepth 20000
def flatD {α : Type} (C : α → List D) (l : List α) : List D := l.flatMap C
section
variable {α : Type} {C : α → List D} {m : Nat}
theorem flatD_append (a b : List α) : flatD C (a ++ b) = flatD C a ++ flatD C b := by simp [flatD]
theorem flatD_one (a : α) : flatD C [a] = C a := by simp [flatD]
theorem flatD_cons (a : α) (l : List α) : flatD C (a :: l) = C a ++ flatD C l := rfl
theorem flatD_len (hC : ∀ a, (C a).length = m) : ∀ l : List α, (flatD C l).length = l.length * m
  | [] => by simp [flatD]
  | a :: l => by rw [flatD_cons, List.length_append, hC, flatD_len hC l, List.length_cons, Nat.succ_mul, Nat.add_comm]
theorem flatD_at (hC : ∀ a, (C a).length = m) : ∀ {l : List α} {k : Nat} {a : α} (_ : l[k]? = some a) {j : Nat} (_ : j < m), (flatD C l)[k * m + j]? = (C a)[j]?
  | b :: l, 0, a, h, j, hj => by
    simp at h
    subst h
    rw [flatD_cons, Nat.zero_mul, Nat.zero_add, List.getElem?_append_left (by rw [hC]; exact hj)]
  | b :: l, k + 1, a, h, j, hj => by
    rw [flatD_cons, Nat.succ_mul, List.getElem?_append_right (by rw [hC]; omega), hC, show k * m + m + j - m = k * m + j by omega]
    exact flatD_at hC (by simpa using h) hj
  | [], k, a, h, j, hj => by simp at h
end
theorem selI_of {ds : List D} {i : Nat} {k : IntKind} {n : Int} (h : ds[i]? = some (.int k n)) : selI ds i = n := by unfold selI; rw [h]
theorem selB_of {ds : List D} {i : Nat} {b : Bool} (h : ds[i]? = some (.bool b)) : selB ds i = b := by unfold selB; rw [h]
theorem selS_of {ds : List D} {i : Nat} {s : ByteArray} (h : ds[i]? = some (.str s)) : selS ds i = s := by unfold selS; rw [h]
theorem selN_of {ds : List D} {i t n : Nat} {l : List D} (h : ds[i]? = some (.list t n l)) : selN ds i = n := by unfold selN; rw [h]
theorem selL_of {ds : List D} {i t n : Nat} {l : List D} (h : ds[i]? = some (.list t n l)) : selL ds i = l := by unfold selL; rw [h]
theorem sel_int {ds : List D} {i : Nat} {k : IntKind} {n : Int} (h : ds[i]? = some (.int k n)) : sel ds i (.int k) = .int k n := by unfold sel; rw [selI_of h]
theorem sel_str {ds : List D} {i : Nat} {s : ByteArray} (h : ds[i]? = some (.str s)) : sel ds i .str = .str s := by unfold sel; rw [selS_of h]
/-- Values of a type of one cell, and the cells of a struct, as a function's first arguments. -/
theorem splitVal_one {P : Program} {t : Nat} {ts : List Nat} {ks : List Kd} {v : Value} {cells vs : List Value} (hk : ksOf P t = some ks) (hs : isSt P t = false) (h : splitVal P ts cells vs) : splitVal P (t :: ts) (v :: cells) (v :: vs) := by
  unfold splitVal
  rw [hk]
  simp only
  rw [if_neg (by rw [hs]; simp)]
  exact ⟨cells, rfl, h⟩
theorem splitVal_agg {P : Program} {t : Nat} {ts : List Nat} {ks : List Kd} {arr : Array Value} {cells vs : List Value} (hk : ksOf P t = some ks) (hs : isSt P t = true) (hl : ks.length = arr.size) (h : splitVal P ts cells vs) : splitVal P (t :: ts) (arr.toList ++ cells) (.agg arr :: vs) := by
  unfold splitVal
  rw [hk]
  simp only
  rw [if_pos hs]
  exact ⟨arr, rfl, by simp; omega, by rw [List.take_left' (by simp [hl])], by rw [List.drop_left' (by simp [hl])]; exact h⟩
/-- A function of numbers, truths, texts and lists, called from outside. -/
theorem calls_own {P : Program} {f : Nat} {params results : List Nat} {pre : List D → Prop} {post : List D → List D → Prop} (h : FnOk P f ⟨params, results, pre, post, .own⟩) {w : World} {vs : Array Value} {xs : List D} {ks : List Kd} {cells : List Value}
    (hks : ksAll P params = some ks) (hsp : splitVal P params cells vs.toList) (hfit : fits xs ks = true) (hg : gL P ⟨fun _ => none, fun b => w.heap[b]?⟩ (sels xs 0 ks) cells) (hpre : pre xs) :
    Calls P f vs w fun e w' => ∃ v ys, e = .returned v ∧ post xs ys ∧ Below w.heap.size w w' ∧ ResOk P w w' results ys v := h.2 w (fun b => w.heap[b]?) vs xs ks cells (fun _ _ h => h) hks hsp hfit hg hpre
/-- A law answers 'true'. -/
theorem res_true {P : Program} {w w' : World} {t : Nat} {v : Value} (hk : ksOf P t = some [.bool]) (hs : isSt P t = false) (h : ResOk P w w' [t] [.bool true] v) : v = .bool true := by
  obtain ⟨ks, cells, vs, bs, k1, k2, k3, k4, k5, rfl⟩ := h
  unfold ksAll at k1
  rw [hk] at k1
  simp [ksAll] at k1
  subst k1
  match vs with
  | [] => unfold splitVal at k3; exact k3.elim
  | v :: vs =>
    unfold splitVal at k3
    rw [hk] at k3
    simp only at k3
    rw [if_neg (by rw [hs]; simp)] at k3
    obtain ⟨rest, rfl, k3⟩ := k3
    match vs with
    | [] =>
      unfold splitVal at k3
      unfold resL at k5
      have := k5.1
      unfold sel selB gD at this
      simpa [wrapVal] using this
    | u :: us => unfold splitVal at k3; exact absurd k3.2 (by simp)
end Go.Proofs.Ytjleempapphlhab.Mini
end
section
namespace Go.Proofs.Ytjleempapphlhab.Typ
open Go Go.RowKit
set_option maxRecDepth 20000
set_option linter.unusedVariables false
/-- What numbers and texts in rows may be. -/
structure Bd where
  lo : Int
  hi : Int
  m : Nat
def cellsOf (P : Program) (β : Bd) : Nat → Nat → Option (List At)
  | 0, _ => none
  | f + 1, t => match P.underlying t with
    | some (.int .i64) => some [.int .i64 β.lo β.hi]
    | some (.int .u8) => some [.int .u8 0 255]
    | some .bool => some [.bool none]
    | some .string => some [.str β.m]
    | some (.slice el) => some [.sliceQ el 0]
    | some (.struct fs) => fs.toList.foldr (fun fd acc => match cellsOf P β f fd.type, acc with | some a, some b => some (a ++ b) | _, _ => none) (some [])
    | _ => none
section
variable {w : World} {top g q : Nat}
theorem RdT.lt (h : RdT top w g q) : g < w.heap.size := by
  obtain ⟨ao, len, cap, p, hg, _⟩ := h
  exact (Array.getElem?_eq_some_iff.mp hg).1
theorem cell_same {w w' : World} {b i : Nat} (h : w'.heap[b]? = w.heap[b]?) : w'.cell? ⟨b, i, none⟩ = w.cell? ⟨b, i, none⟩ := by simp only [World.cell?, h]
theorem Bytes.same {w w' : World} {ao : Option Addr} {len : Nat} (hb : Bytes w ao len top) (h : ∀ b, b < top → w'.heap[b]? = w.heap[b]?) : Bytes w' ao len top := by
  rcases hb with hb | ⟨b, off, h1, h2, h3⟩
  · exact .inl hb
  · refine .inr ⟨b, off, h1, h2, fun i hi => ?_⟩
    obtain ⟨z, z0, z1, hz⟩ := h3 i hi
    exact ⟨z, z0, z1, (cell_same (h b h2)).trans hz⟩
theorem RdT.keep {w' : World} (h : RdT top w g q) (hg : w'.heap[g]? = w.heap[g]?) (hb : ∀ b, b < top → w'.heap[b]? = w.heap[b]?) : RdT top w' g q := by
  obtain ⟨ao, len, cap, p, h1, h2, h3, h4⟩ := h
  exact ⟨ao, len, cap, p, hg.trans h1, h2, h3, Bytes.same h4 hb⟩
end
end Go.Proofs.Ytjleempapphlhab.Typ
namespace Go.Proofs.Ytjleempapphlhab.Typ
open Go Go.RowKit
set_option linter.unusedVariables false
section
variable {E : Env} {κ : Kr} {q : Nat} {w : World}
end
section
variable {E : Env} {κ : Kr} {q : Nat} {w w' : World}
/-- Calls that leave all that was. -/
theorem Inv.below (hE : EnvOk E) (h : Inv E κ q w) (hb : Below w.heap.size w w') : Inv E κ q w' := by
  refine ⟨hb.os.trans h.os, hb.tape.trans h.tape, hb.output.trans h.output, Nat.le_trans h.size hb.size, fun b hb0 => ?_, fun b t N hbt => ?_, h.c, fun g hg => ?_⟩
  · have := h.size
    exact (hb.block b (by omega)).trans (h.base b hb0)
  · obtain ⟨r1, r2, cc, r3, r4⟩ := h.rows b t N hbt
    exact ⟨r1, r2, cc, (hb.block b (Array.getElem?_eq_some_iff.mp r3).1).trans r3, r4⟩
  · obtain ⟨r1, r2⟩ := h.rd g hg
    have := h.size
    exact ⟨r1, hE.rdKeep w w' g q r2 (hb.block g (hE.rdLt _ _ _ r2)) (fun b hb0 => hb.block b (by omega))⟩
/-- One function more, whose answer holds no memory. -/
def Fns.put (F : Fns) (f : Nat) (g : List AV → Option AV) : Fns := fun k args => if k = f then (match g args with | some av => some (av, 0) | none => none) else F k args
end
end Go.Proofs.Ytjleempapphlhab.Typ
end
section
namespace Go.Proofs.Ytjleempapphlhab.Mini
open Go Go.RowKit
set_option linter.unusedVariables false
set_option maxRecDepth 20000
section
variable {E : Typ.Env} {κ : Typ.Kr} {q : Nat} {w : World}
end
section
variable {E : Typ.Env} {κ : Typ.Kr} {q : Nat} {w : World}
end
/-- Bytes. -/
def bytesD (el : Nat) (xs : List D) : Prop := ∃ n l, xs = [.list el n l] ∧ ∀ d ∈ l, ∃ z : Int, d = .int .u8 z ∧ 0 ≤ z ∧ z ≤ 255
end Go.Proofs.Ytjleempapphlhab.Mini
end
