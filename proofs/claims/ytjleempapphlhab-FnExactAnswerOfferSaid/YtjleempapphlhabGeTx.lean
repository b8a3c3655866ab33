/- Parts of the proof: Tx. -/
import Derived.Test.YtjleempapphlhabGeHx
import Derived.Test.YtjleempapphlhabGePlain
import Derived.Test.YtjleempapphlhabGeBase
import Derived.Test.YtjleempapphlhabGeDraw
import Derived.Test.YtjleempapphlhabGeHelp
section
namespace Go.Proofs.Ytjleempapphlhab.Mini
open Go Go.RowKit
set_option linter.unusedVariables false
set_option linter.unusedSimpArgs false
set_option maxRecDepth 20000
def textsD (ls : List ByteArray) : List D := ls.map .str
def unS (l : List D) : List ByteArray := l.map fun d => match d with | .str s => s | _ => ⟨#[]⟩
def wordS (s : ByteArray) : Bool := wordB s.data.toList
def distB (l : List ByteArray) : Bool := decide (l.map fun x => x.data.toList).Nodup
def hasT (l : List ByteArray) (w : ByteArray) : Bool := l.any fun x => x.data.toList == w.data.toList
/-- How far a loop within a loop still is from its end. -/
def mu2 (n h i j : Nat) : Nat := if h = 0 then (n - i) * 10000000 else (n - i) * 10000000 - 1 - j
theorem m20 {s : ByteArray} (h : s.size ≤ 1048576) : s.size ≤ maxLen := by unfold maxLen; omega
theorem textsD_len (ls : List ByteArray) : (textsD ls).length = ls.length := by simp [textsD]
theorem textsD_take (ls : List ByteArray) : List.take ls.length (textsD ls) = textsD ls := List.take_of_length_le (by rw [textsD_len]; omega)
theorem textsD_push (ls : List ByteArray) (s : ByteArray) : textsD (ls ++ [s]) = textsD ls ++ [.str s] := by simp [textsD]
theorem textsD_scal (ls : List ByteArray) : scal (textsD ls) := by
  intro d hd
  obtain ⟨x, _, rfl⟩ := List.mem_map.mp hd
  rfl
theorem textsD_at {ls : List ByteArray} {i : Nat} {s : ByteArray} (h : ls[i]? = some s) : (textsD ls)[i]? = some (.str s) := by simp [textsD, h]
theorem textsD_get {ls : List ByteArray} {i : Nat} (h : i < ls.length) : ∃ s, ls[i]? = some s ∧ (textsD ls)[i]? = some (.str s) ∧ s ∈ ls := ⟨ls[i], List.getElem?_eq_getElem h, textsD_at (List.getElem?_eq_getElem h), List.getElem_mem h⟩
theorem unS_texts (ls : List ByteArray) : unS (textsD ls) = ls := by
  unfold unS textsD
  rw [List.map_map]
  conv => rhs; rw [← List.map_id ls]
  rfl
theorem dist_no {l : List ByteArray} {i j : Nat} {a b : ByteArray} (hi : l[i]? = some a) (hj : l[j]? = some b) (hij : i < j) (h : a.data.toList = b.data.toList) : distB l = false := by
  unfold distB
  apply decide_eq_false
  intro hn
  have hi' := (List.getElem?_eq_some_iff.mp hi)
  have hj' := (List.getElem?_eq_some_iff.mp hj)
  have h1 := List.pairwise_iff_getElem.mp hn i j (by simp; exact hi'.1) (by simp; exact hj'.1) hij
  apply h1
  simp [hi'.2, hj'.2, h]
theorem dist_yes {l : List ByteArray} (h : ∀ (i j : Nat) (a b : ByteArray), l[i]? = some a → l[j]? = some b → i < j → a.data.toList ≠ b.data.toList) : distB l = true := by
  unfold distB
  apply decide_eq_true
  refine List.pairwise_iff_getElem.mpr (fun i j hi hj hij => ?_)
  simp at hi hj
  simpa using h i j l[i] l[j] (List.getElem?_eq_getElem hi) (List.getElem?_eq_getElem hj) hij
theorem word_no {l : List ByteArray} {s : ByteArray} (hs : s ∈ l) (h : wordS s = false) : l.all wordS = false := by
  rw [List.all_eq_false]
  exact ⟨s, hs, by rw [h]; simp⟩
theorem text_eq {a b : ByteArray} (h : a.data.toList = b.data.toList) : a = b := ByteArray.ext (Array.ext' h)
theorem texts_of : ∀ (cs : List D), (∀ x ∈ cs, ∃ s : ByteArray, x = .str s ∧ s.size ≤ maxLen) → ∃ ls, cs = textsD ls ∧ ls.length = cs.length ∧ ∀ x ∈ ls, x.size ≤ maxLen
  | [], _ => ⟨[], rfl, rfl, by simp⟩
  | c :: cs, h => by
    obtain ⟨s, rfl, hs⟩ := h c (by simp)
    obtain ⟨ls, rfl, h1, h2⟩ := texts_of cs (fun x hx => h x (by simp [hx]))
    refine ⟨s :: ls, rfl, by simp [h1], fun x hx => ?_⟩
    rcases List.mem_cons.mp hx with rfl | hx
    · exact hs
    · exact h2 x hx
theorem wf_texts {f : Nat} {d : D} (h : wfK Try.prog (f + 1) (.list 9) d) : ∃ ls, d = .list 9 ls.length (textsD ls) ∧ ls.length ≤ maxLen ∧ ∀ x ∈ ls, x.size ≤ maxLen := by
  obtain ⟨n, cs, ks, e, h1, h2, h3, h4⟩ := h
  have hk : ks = [.str] := by
    have : ksOf Try.prog 9 = some [.str] := by kernel_rfl
    rw [this] at h2; injection h2 with h2; exact h2.symm
  subst hk
  obtain ⟨ls, e1, e2, e3⟩ := texts_of cs (fun x hx => by
    obtain ⟨j, hj, rfl⟩ := List.getElem_of_mem hx
    obtain ⟨k, hk1, hk2⟩ := h4 j cs[j] (List.getElem?_eq_getElem hj)
    have : k = .str := by
      have e : j % 1 = 0 := Nat.mod_one j
      simp [e] at hk1; exact hk1.symm
    subst this
    obtain ⟨s, hs, hl⟩ : ∃ s : ByteArray, cs[j] = .str s ∧ s.size ≤ maxLen := by cases f <;> exact hk2
    exact ⟨s, hs, hl⟩)
  have hn : n = ls.length := by rw [e2, h3]; simp
  exact ⟨ls, by rw [e, e1, hn], by omega, e3⟩
theorem okC_texts {ls : List ByteArray} (h : ∀ x ∈ ls, x.size ≤ maxLen) : okC [.str] ls.length (textsD ls) := by
  refine ⟨by rw [textsD_len]; simp, fun j x hx => ⟨.str, by simp [Nat.mod_one], ?_⟩⟩
  have hj := (List.getElem?_eq_some_iff.mp hx).1
  rw [textsD_len] at hj
  rw [textsD_at (List.getElem?_eq_getElem hj)] at hx
  injection hx with hx
  exact ⟨_, hx.symm, h _ (List.getElem_mem hj)⟩
end Go.Proofs.Ytjleempapphlhab.Mini
end
