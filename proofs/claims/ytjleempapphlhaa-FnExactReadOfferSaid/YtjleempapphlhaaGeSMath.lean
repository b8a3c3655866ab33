/- Parts of the proof: SMath. -/
import Derived.Test.YtjleempapphlhaaGeSRead
section
namespace Go.Proofs.Ytjleempapphlhaa.Mini
open Go Go.RowKit
set_option linter.unusedVariables false
set_option linter.unusedSimpArgs false
set_option maxRecDepth 20000
def flatW (cs : List (List UInt8)) : List UInt8 := cs.flatMap fun c => 32 :: c
theorem joinS_list : ∀ (cs : List ByteArray) (a : ByteArray), (joinS cs a).data.toList = a.data.toList ++ flatW (cs.map fun c => c.data.toList)
  | [], a => by show a.data.toList = a.data.toList ++ []; rw [List.append_nil]
  | c :: cs, a => by
    show (joinS cs (a ++ " ".toUTF8 ++ c)).data.toList = _
    rw [joinS_list cs, cat_list, cat_list]
    show a.data.toList ++ [32] ++ c.data.toList ++ flatW _ = a.data.toList ++ (32 :: c.data.toList ++ flatW _)
    simp
theorem line_list (m : Med) : (lineM m).data.toList = m.k.data.toList ++ flatW ((textS m.p).data.toList :: (wayS m.s m.h).data.toList :: m.c.map fun c => c.data.toList) := by
  unfold lineM
  rw [joinS_list, cat_list, cat_list, cat_list, cat_list]
  show m.k.data.toList ++ [32] ++ (textS m.p).data.toList ++ [32] ++ (wayS m.s m.h).data.toList ++ flatW _ = m.k.data.toList ++ (32 :: (textS m.p).data.toList ++ (32 :: (wayS m.s m.h).data.toList ++ flatW _))
  simp
theorem med_parts {m : Med} (h : medB m = true) : (∀ x ∈ m.c, wordS x = true) ∧ distB m.c = true ∧ wordS m.k = true ∧ 0 ≤ m.p ∧ m.p ≤ 65535 ∧ 1 ≤ m.c.length ∧ m.c.length ≤ 4 := by
  unfold medB at h
  simp only [Bool.and_eq_true, List.all_eq_true, inB_iff] at h
  exact ⟨h.1.1, h.1.2, h.2.1, h.2.2.1.1, h.2.2.1.2, by omega, by omega⟩
theorem off_parts {l : List Med} (h : offB l = true) : (∀ m ∈ l, medB m = true) ∧ l.length ≤ 4 := by
  unfold offB at h
  simp only [Bool.and_eq_true, List.all_eq_true, decide_eq_true_eq] at h
  exact h
theorem wordsL_join : ∀ (l : List UInt8) (a : List UInt8) (r : List (List UInt8)), wordsL l = a :: r → l = a ++ flatW r
  | [], a, r, h => by
    have h' : [[]] = a :: r := h
    injection h' with h1 h2
    subst h1; subst h2; rfl
  | c :: l, a, r, h => by
    unfold wordsL at h
    obtain ⟨a', r', e⟩ : ∃ a' r', wordsL l = a' :: r' := by
      cases hw : wordsL l with
      | nil => exact absurd hw (wordsL_ne l)
      | cons a' r' => exact ⟨a', r', rfl⟩
    have ih := wordsL_join l a' r' e
    split at h
    · rename_i hc
      injection h with h1 h2
      subst h1
      rw [← h2, e, hc, ih]
      simp [flatW]
    · rw [e] at h
      injection h with h1 h2
      rw [← h1, ← h2, ih]
      rfl
theorem rdW_of {s : ByteArray} {m : Med} (h : rdW (wordsS s) = some m) : lineM m = s ∧ medB m = true := by
  unfold wordsS at h
  cases hw : wordsL s.data.toList with
  | nil => exact absurd hw (wordsL_ne _)
  | cons w0 ws =>
    rw [hw] at h
    match ws, hw, h with
    | [], _, h => cases h
    | [_], _, h => cases h
    | [_, _], _, h => cases h
    | w1 :: w2 :: w3 :: wr, hw, h =>
      unfold rdW at h
      simp only [List.map_cons] at h
      split at h <;> try (cases h; done)
      rename_i hc
      injection h with h
      obtain ⟨c1, c2⟩ := hc
      refine ⟨text_eq ?_, by rw [← h]; exact c2⟩
      rw [line_list, wordsL_join _ _ _ hw, ← h]
      simp only at c1 ⊢
      obtain ⟨_, _, _, h4, h5, _⟩ := med_parts c2
      have h4 : 0 ≤ readN (bytesOf w1).data.toList := h4
      have e1 : (textS (readN (bytesOf w1).data.toList)).data.toList = w1 := textN_readN w1 h4
      rw [e1, c1]
      show w0 ++ flatW (w1 :: w2 :: w3 :: (List.map bytesOf wr).map fun c => c.data.toList) = w0 ++ flatW (w1 :: w2 :: w3 :: wr)
      rw [List.map_map]
      have e2 : wr.map ((fun c : ByteArray => c.data.toList) ∘ bytesOf) = wr := by
        conv => rhs; rw [← List.map_id wr]
        rfl
      rw [e2]
theorem rdLs_of : ∀ {ls : List ByteArray} {l : List Med}, rdLs ls = some l → l.map lineM = ls ∧ ∀ m ∈ l, medB m = true
  | [], l, h => by injection h with h; subst h; exact ⟨rfl, fun m hm => by simp at hm⟩
  | s :: r, l, h => by
    unfold rdLs at h
    split at h <;> try (cases h; done)
    rename_i m l' h1 h2
    injection h with h; subst h
    obtain ⟨g1, g2⟩ := rdLs_of h2
    obtain ⟨g3, g4⟩ := rdW_of h1
    refine ⟨by rw [List.map_cons, g1, g3], fun x hx => ?_⟩
    rcases List.mem_cons.mp hx with rfl | hx
    · exact g4
    · exact g2 x hx
/-- Accepted offers are canonical. -/
theorem lines_rdOf {ls : List ByteArray} {l : List Med} (h : rdOf ls = some l) : offB l = true ∧ linesO l = ls := by
  unfold rdOf at h
  split at h <;> try (cases h; done)
  rename_i h4
  obtain ⟨g1, g2⟩ := rdLs_of h
  have h3 : offB l = true := by
    unfold offB
    rw [Bool.and_eq_true, List.all_eq_true]
    exact ⟨g2, by rw [decide_eq_true_eq, rdLs_len h]; exact h4⟩
  refine ⟨h3, ?_⟩
  unfold linesO
  rw [h3]
  exact g1
theorem offD_push (l : List Med) (m : Med) : offD (l ++ [m]) = offD l ++ medD m := by unfold offD; rw [flatD_append, flatD_one]
theorem offD_take (l : List Med) : List.take (l.length * 5) (offD l) = offD l := List.take_of_length_le (by rw [offD_len]; omega)
theorem linesO_size (l : List Med) : ∀ s ∈ linesO l, s.size ≤ 68 := by
  intro s hs
  unfold linesO at hs
  split at hs
  · rename_i ho
    obtain ⟨m, hm, rfl⟩ := List.mem_map.mp hs
    have hb := (off_parts ho).1 m hm
    have h1 := lineK_size hb m.c.length (Nat.le_refl _)
    rw [lineK_all] at h1
    have h2 := (med_parts hb).2.2.2.2.2.2
    omega
  · simp at hs
theorem linesO_len (l : List Med) : (linesO l).length ≤ 4 := by
  unfold linesO
  split
  · rename_i ho
    rw [List.length_map]
    exact (off_parts ho).2
  · simp
end Go.Proofs.Ytjleempapphlhaa.Mini
end
