/- Plain facts about heads: lines that are read, lines that are set. -/
import Derived.Test.YtplcdadedpbkpaaHeadsR
namespace Go.Proofs.Ytplcdadedpbkpaa
open Go.RowKit
set_option linter.unusedVariables false

theorem headL_list (p : HeadM) : (headL p).data.toList = p.x0.data.toList ++ ([58, 32] ++ p.x1.data.toList) := by
  unfold headL; rw [cat_list, cat_list, List.append_assoc]
theorem isLd_col : isLd 58 = false := rfl
theorem col_headL {p : HeadM} (h : wordB p.x0.data.toList = true) : colL (headL p).data.toList = p.x0.data.toList.length := by
  rw [headL_list]
  unfold colL
  rw [List.findIdx_eq (by simp)]
  refine ⟨by simp, fun j hj => ?_⟩
  rw [List.getElem_append_left hj]
  unfold wordB at h
  simp only [Bool.and_eq_true] at h
  have := List.all_eq_true.mp h.2 _ (List.getElem_mem hj)
  rw [beq_eq_false_iff_ne]
  intro e
  rw [e, isLd_col] at this
  cases this
theorem colB_headL {p : HeadM} (h : wordB p.x0.data.toList = true) : colB (headL p) = true := by
  have hc := col_headL h
  have hs : (headL p).size = (headL p).data.toList.length := by simp
  unfold colB
  rw [hc, hs, headL_list]
  simp
theorem readL_headL {p : HeadM} (h : wordB p.x0.data.toList = true) : readL (headL p) = p := by
  have hc := col_headL h
  have hs : (headL p).size = (headL p).data.toList.length := by simp
  have e0 : (headL p).extract 0 (colL (headL p).data.toList) = p.x0 := by
    apply str_of
    simp only [ByteArray.data_extract, Array.toList_extract, List.extract_eq_take_drop]
    rw [hc, headL_list]; simp
  have e1 : (headL p).extract (colL (headL p).data.toList + 2) (headL p).size = p.x1 := by
    apply str_of
    simp only [ByteArray.data_extract, Array.toList_extract, List.extract_eq_take_drop]
    rw [List.take_of_length_le (by rw [List.length_drop, hs]; omega), hc, headL_list, ← List.append_assoc]
    rw [show p.x0.data.toList.length + 2 = (p.x0.data.toList ++ [58, 32]).length by simp]
    exact List.drop_left
  unfold readL
  rw [e0, e1]
theorem headL_readL {s : ByteArray} (h : colB s = true) : headL (readL s) = s := by
  have hl : s.data.toList.length = s.size := by simp
  unfold colB at h
  rw [Bool.and_eq_true, decide_eq_true_eq, beq_iff_eq] at h
  obtain ⟨h1, h2⟩ := h
  have h3 : s.data.toList[colL s.data.toList]? = some 58 := by
    rw [List.getElem?_eq_getElem (by omega)]
    have := List.findIdx_getElem (p := (· == (58 : UInt8))) (xs := s.data.toList) (w := by unfold colL at h1; omega)
    unfold colL
    rw [eq_of_beq this]
  have e : (headL (readL s)).data.toList = s.data.toList := by
    rw [headL_list]
    unfold readL
    simp only [ByteArray.data_extract, Array.toList_extract, List.extract_eq_take_drop]
    rw [← hl, List.take_of_length_le (l := s.data.toList.drop (colL s.data.toList + 2)) (by simp)]
    have e2 : s.data.toList.drop (colL s.data.toList) = 58 :: 32 :: s.data.toList.drop (colL s.data.toList + 2) := by
      rw [List.drop_eq_getElem_cons (by omega), List.drop_eq_getElem_cons (by omega)]
      rw [List.getElem?_eq_getElem (by omega)] at h2 h3
      injection h2 with h2
      injection h3 with h3
      rw [h2, h3]
    conv => rhs; rw [← List.take_append_drop (colL s.data.toList) s.data.toList, e2]
    simp
  exact (str_of e).trans rfl
theorem map_id_of {α β : Type} {f : α → β} {g : β → α} {l : List α} (h : ∀ a ∈ l, g (f a) = a) : (l.map f).map g = l := by
  rw [List.map_map]
  conv => rhs; rw [← List.map_id l]
  exact List.map_congr_left (fun a ha => by simpa using h a ha)
theorem headsB_mem {hs : List HeadM} (h : headsB hs = true) {p : HeadM} (hp : p ∈ hs) : wordB p.x0.data.toList = true := by
  unfold headsB at h
  rw [Bool.and_eq_true] at h
  have := List.all_eq_true.mp h.2 p hp
  unfold headB at this
  rw [Bool.and_eq_true] at this
  exact this.1
/-- Lines of valid heads are read as these. -/
theorem read_lines {hs : List HeadM} (h : headsB hs = true) : readB (hs.map headL) = true ∧ readR (hs.map headL) = hs := by
  have e : (hs.map headL).map readL = hs := map_id_of (fun p hp => readL_headL (headsB_mem h hp))
  have hb : readB (hs.map headL) = true := by
    unfold readB
    rw [e, h, Bool.and_true, List.all_eq_true]
    intro s hs'
    rw [List.mem_map] at hs'
    obtain ⟨p, hp, rfl⟩ := hs'
    exact colB_headL (headsB_mem h hp)
  refine ⟨hb, ?_⟩
  unfold readR
  rw [if_pos hb, e]
/-- Lines that are read are those of the heads. -/
theorem lines_read {ls : List ByteArray} (h : readB ls = true) : linesOf (readR ls) = ls := by
  have hr : readR ls = ls.map readL := by unfold readR; rw [if_pos h]
  unfold readB at h
  rw [Bool.and_eq_true] at h
  rw [hr]
  unfold linesOf
  rw [if_pos h.2]
  exact map_id_of (fun s hs => headL_readL (List.all_eq_true.mp h.1 s hs))
theorem read_empty (ls : List ByteArray) : readB (ls ++ [⟨#[]⟩]) = false := by
  unfold readB
  rw [List.all_append]
  simp [show colB ⟨#[]⟩ = false from rfl]

/-! ### Set heads -/
theorem nameB_self (nm ln : ByteArray) : nameB nm ⟨nm, ln⟩ = true := by unfold nameB; simp
theorem setH_ne {hs : List HeadM} {nm : ByteArray} {k : Nat} (h : hs.findIdx (nameB nm) = k) (hk : k < hs.length) : ∀ j, j < k → ∀ q, hs[j]? = some q → nameB nm q = false := by
  intro j hj q hq
  have := List.not_of_lt_findIdx (p := nameB nm) (xs := hs) (i := j) (by omega)
  rw [List.getElem?_eq_getElem (by omega)] at hq
  injection hq with hq
  rw [hq] at this
  simpa using this
theorem find_setH (hs : List HeadM) (nm ln : ByteArray) : (setH hs nm ln).find? (nameB nm) = some ⟨nm, ln⟩ := by
  unfold setH
  by_cases hk : hs.findIdx (nameB nm) < hs.length
  · rw [if_pos hk]
    refine take_none (k := hs.findIdx (nameB nm)) (by rw [List.getElem?_set_self hk]) ?_ (nameB_self nm ln)
    intro s hs'
    obtain ⟨j, hj, he⟩ := List.getElem_of_mem hs'
    rw [List.length_take, List.length_set] at hj
    rw [List.getElem_take, List.getElem_set_ne (by omega)] at he
    exact setH_ne rfl hk j (by omega) s (by rw [List.getElem?_eq_getElem (by omega), he])
  · rw [if_neg hk]
    rw [List.find?_append]
    have : hs.find? (nameB nm) = none := by
      rw [List.find?_eq_none]
      intro x hx
      obtain ⟨j, hj, he⟩ := List.getElem_of_mem hx
      have := List.not_of_lt_findIdx (p := nameB nm) (xs := hs) (i := j) (by omega)
      rw [he] at this
      rw [this]; simp
    rw [this]
    simp [nameB_self]
theorem idx_setH (hs : List HeadM) (nm ln : ByteArray) : (setH hs nm ln).findIdx (nameB nm) = hs.findIdx (nameB nm) ∧ hs.findIdx (nameB nm) < (setH hs nm ln).length := by
  have hle : hs.findIdx (nameB nm) ≤ hs.length := List.findIdx_le_length
  by_cases hk : hs.findIdx (nameB nm) < hs.length
  · have e : setH hs nm ln = hs.set (hs.findIdx (nameB nm)) ⟨nm, ln⟩ := by unfold setH; rw [if_pos hk]
    have hl : hs.findIdx (nameB nm) < (setH hs nm ln).length := by rw [e, List.length_set]; exact hk
    refine ⟨?_, hl⟩
    rw [List.findIdx_eq hl]
    constructor
    · simp only [e, List.getElem_set_self]; exact nameB_self nm ln
    · intro j hj
      simp only [e]
      rw [List.getElem_set_ne (by omega)]
      exact setH_ne rfl hk j hj _ (List.getElem?_eq_getElem (by omega))
  · have e : setH hs nm ln = hs ++ [⟨nm, ln⟩] := by unfold setH; rw [if_neg hk]
    have hn : hs.findIdx (nameB nm) = hs.length := by omega
    have hl : hs.findIdx (nameB nm) < (setH hs nm ln).length := by rw [e, List.length_append, hn]; simp
    refine ⟨?_, hl⟩
    rw [List.findIdx_eq hl]
    constructor
    · simp only [e, hn]; simp [nameB_self]
    · intro j hj
      simp only [e]
      rw [List.getElem_append_left (by omega)]
      have := List.not_of_lt_findIdx (p := nameB nm) (xs := hs) (i := j) (by omega)
      simpa using this
theorem setH_yes {hs : List HeadM} {nm ln : ByteArray} (hk : hs.findIdx (nameB nm) < hs.length) : setH hs nm ln = hs.set (hs.findIdx (nameB nm)) ⟨nm, ln⟩ := by
  unfold setH; rw [if_pos hk]
theorem setH_again (hs : List HeadM) (nm ln : ByteArray) : setH (setH hs nm ln) nm ln = setH hs nm ln := by
  have h := idx_setH hs nm ln
  rw [setH_yes (by rw [h.1]; exact h.2), h.1]
  by_cases hk : hs.findIdx (nameB nm) < hs.length
  · have e : setH hs nm ln = hs.set (hs.findIdx (nameB nm)) ⟨nm, ln⟩ := by unfold setH; rw [if_pos hk]
    rw [e, List.set_set]
  · have e : setH hs nm ln = hs ++ [⟨nm, ln⟩] := by unfold setH; rw [if_neg hk]
    have hn : hs.findIdx (nameB nm) = hs.length := by have : hs.findIdx (nameB nm) ≤ hs.length := List.findIdx_le_length; omega
    rw [e, hn]
    simp
theorem setH_len (hs : List HeadM) (nm ln : ByteArray) : (setH hs nm ln).length = if (hs.find? (nameB nm)).isSome = true then hs.length else hs.length + 1 := by
  unfold setH
  by_cases hk : hs.findIdx (nameB nm) < hs.length
  · rw [if_pos hk, List.length_set]
    have : (hs.find? (nameB nm)).isSome = true := by
      rw [List.find?_isSome]
      exact ⟨_, List.getElem_mem hk, List.findIdx_getElem (w := hk)⟩
    rw [if_pos this]
  · rw [if_neg hk, List.length_append]
    have : ¬ (hs.find? (nameB nm)).isSome = true := by
      intro h
      rw [List.find?_isSome] at h
      obtain ⟨x, hx, hp⟩ := h
      exact hk (List.findIdx_lt_length_of_exists ⟨x, hx, hp⟩)
    rw [if_neg this]; rfl
end Go.Proofs.Ytplcdadedpbkpaa
