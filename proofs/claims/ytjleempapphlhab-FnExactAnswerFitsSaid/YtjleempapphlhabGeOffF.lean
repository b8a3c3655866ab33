/- Parts of the proof: OffF. -/
import Derived.Test.YtjleempapphlhabGeIOffP
section
namespace Go.Proofs.Ytjleempapphlhab.Mini
open Go Go.RowKit
set_option linter.unusedVariables false
set_option linter.unusedSimpArgs false
set_option maxRecDepth 20000
theorem sz_str : sz Try.prog 9 = 1 := by kernel_rfl
theorem noOwn_rep {l : List D} (h : noOwn l) (n : Nat) : noOwn (rep n l) := fun d hd => by
  obtain ⟨j, hj, rfl⟩ := List.getElem_of_mem hd
  have := (rep_at l n j _ (List.getElem?_eq_getElem hj)).2
  exact h _ (List.mem_of_getElem? this)
theorem flatDs_append {a b : List D} (ha : flatDs Try.prog a) (hb : flatDs Try.prog b) : flatDs Try.prog (a ++ b) := fun d hd => (List.mem_append.mp hd).elim (ha d) (hb d)
theorem flat_med (m : Med) : flatDs Try.prog (medD m) := by
  intro d hd
  simp only [medD, List.mem_cons, List.not_mem_nil, or_false] at hd
  rcases hd with rfl | rfl | rfl | rfl | rfl
  · trivial
  · trivial
  · trivial
  · trivial
  · exact ⟨by rw [textsD_len, sz_str, Nat.mul_one], textsD_scal _⟩
theorem flat_off : ∀ l : List Med, flatDs Try.prog (offD l)
  | [] => fun d hd => by simp [offD, flatD] at hd
  | m :: l => flatDs_append (flat_med m) (flat_off l)
theorem zero_no : noOwn [D.str ⟨#[]⟩, .int .i64 0, .bool false, .bool false, .list 0 0 []] := by
  intro d hd
  simp only [List.mem_cons, List.not_mem_nil, or_false] at hd
  rcases hd with rfl | rfl | rfl | rfl | rfl <;> rfl
theorem medsK_free {n : Nat} {l : List Med} : freeD (medsK n l) (l.length * 5) 5 := by
  intro q d hq hd
  unfold medsK at hd
  rw [List.getElem?_append_right (by rw [offD_len]; omega), offD_len, List.getElem?_drop] at hd
  exact noOwn_rep zero_no n d (List.mem_of_getElem? hd)
end Go.Proofs.Ytjleempapphlhab.Mini
end
