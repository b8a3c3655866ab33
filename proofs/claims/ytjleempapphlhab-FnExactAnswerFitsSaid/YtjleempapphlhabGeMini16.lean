/- Parts of the proof: Mini16. -/
import Derived.OpenShut
import Derived.Test.YtjleempapphlhabGeMini15
import Derived.Test.YtjleempapphlhabGeLists
import Derived.Test.YtjleempapphlhabGeTexts
import Derived.Test.YtjleempapphlhabGeDraw
section
namespace Go.Proofs.Ytjleempapphlhab.Mini
open Go Go.RowKit
set_option linter.unusedVariables false
set_option maxRecDepth 20000
def flatD {α : Type} (C : α → List D) (l : List α) : List D := l.flatMap C
section
variable {α : Type} {C : α → List D} {m : Nat}
theorem flatD_append (a b : List α) : flatD C (a ++ b) = flatD C a ++ flatD C b := by simp [flatD]
theorem flatD_one (a : α) : flatD C [a] = C a := by simp [flatD]
theorem flatD_cons (a : α) (l : List α) : flatD C (a :: l) = C a ++ flatD C l := rfl
theorem flatD_len (hC : ∀ a, (C a).length = m) : ∀ l : List α, (flatD C l).length = l.length * m
  | [] => by simp [flatD]
  | a :: l => by rw [flatD_cons, List.length_append, hC, flatD_len hC l, List.length_cons, Nat.succ_mul, Nat.add_comm]
theorem flatD_at (hC : ∀ a, (C a).length = m) : ∀ {l : List α} {k : Nat} {a : α} (_ : l[k]? = some a) {j : Nat} (_ : j < m), (flatD C l)[k * m + j]? = (C a)[j]?
  | b :: l, 0, a, h, j, hj => by
    simp at h
    subst h
    rw [flatD_cons, Nat.zero_mul, Nat.zero_add, List.getElem?_append_left (by rw [hC]; exact hj)]
  | b :: l, k + 1, a, h, j, hj => by
    rw [flatD_cons, Nat.succ_mul, List.getElem?_append_right (by rw [hC]; omega), hC, show k * m + m + j - m = k * m + j by omega]
    exact flatD_at hC (by simpa using h) hj
  | [], k, a, h, j, hj => by simp at h
end
theorem selI_of {ds : List D} {i : Nat} {k : IntKind} {n : Int} (h : ds[i]? = some (.int k n)) : selI ds i = n := by unfold selI; rw [h]
theorem selB_of {ds : List D} {i : Nat} {b : Bool} (h : ds[i]? = some (.bool b)) : selB ds i = b := by unfold selB; rw [h]
theorem selS_of {ds : List D} {i : Nat} {s : ByteArray} (h : ds[i]? = some (.str s)) : selS ds i = s := by unfold selS; rw [h]
theorem selN_of {ds : List D} {i t n : Nat} {l : List D} (h : ds[i]? = some (.list t n l)) : selN ds i = n := by unfold selN; rw [h]
theorem selL_of {ds : List D} {i t n : Nat} {l : List D} (h : ds[i]? = some (.list t n l)) : selL ds i = l := by unfold selL; rw [h]
/-- Values of a type of one cell, and the cells of a struct, as a function's first arguments. -/
theorem splitVal_one {P : Program} {t : Nat} {ts : List Nat} {ks : List Kd} {v : Value} {cells vs : List Value} (hk : ksOf P t = some ks) (hs : isSt P t = false) (h : splitVal P ts cells vs) : splitVal P (t :: ts) (v :: cells) (v :: vs) := by
  unfold splitVal
  rw [hk]
  simp only
  rw [if_neg (by rw [hs]; simp)]
  exact ⟨cells, rfl, h⟩
theorem splitVal_agg {P : Program} {t : Nat} {ts : List Nat} {ks : List Kd} {arr : Array Value} {cells vs : List Value} (hk : ksOf P t = some ks) (hs : isSt P t = true) (hl : ks.length = arr.size) (h : splitVal P ts cells vs) : splitVal P (t :: ts) (arr.toList ++ cells) (.agg arr :: vs) := by
  unfold splitVal
  rw [hk]
  simp only
  rw [if_pos hs]
  exact ⟨arr, rfl, by simp; omega, by rw [List.take_left' (by simp [hl])], by rw [List.drop_left' (by simp [hl])]; exact h⟩
/-- A function of numbers, truths, texts and lists, called from outside. -/
theorem calls_own {P : Program} {f : Nat} {params results : List Nat} {pre : List D → Prop} {post : List D → List D → Prop} (h : FnOk P f ⟨params, results, pre, post, .own⟩) {w : World} {vs : Array Value} {xs : List D} {ks : List Kd} {cells : List Value}
    (hks : ksAll P params = some ks) (hsp : splitVal P params cells vs.toList) (hfit : fits xs ks = true) (hg : gL P ⟨fun _ => none, fun b => w.heap[b]?⟩ (sels xs 0 ks) cells) (hpre : pre xs) :
    Calls P f vs w fun e w' => ∃ v ys, e = .returned v ∧ post xs ys ∧ Below w.heap.size w w' ∧ ResOk P w w' results ys v := h.2 w (fun b => w.heap[b]?) vs xs ks cells (fun _ _ h => h) hks hsp hfit hg hpre
/-- A law answers 'true'. -/
theorem res_true {P : Program} {w w' : World} {t : Nat} {v : Value} (hk : ksOf P t = some [.bool]) (hs : isSt P t = false) (h : ResOk P w w' [t] [.bool true] v) : v = .bool true := by
  obtain ⟨ks, cells, vs, bs, k1, k2, k3, k4, k5, rfl⟩ := h
  unfold ksAll at k1
  rw [hk] at k1
  simp [ksAll] at k1
  subst k1
  match vs with
  | [] => unfold splitVal at k3; exact k3.elim
  | v :: vs =>
    unfold splitVal at k3
    rw [hk] at k3
    simp only at k3
    rw [if_neg (by rw [hs]; simp)] at k3
    obtain ⟨rest, rfl, k3⟩ := k3
    match vs with
    | [] =>
      unfold splitVal at k3
      unfold resL at k5
      have := k5.1
      unfold sel selB gD at this
      simpa [wrapVal] using this
    | u :: us => unfold splitVal at k3; exact absurd k3.2 (by simp)
end Go.Proofs.Ytjleempapphlhab.Mini
end
