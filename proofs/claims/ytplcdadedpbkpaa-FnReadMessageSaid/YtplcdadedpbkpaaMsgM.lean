/- Messages and their lines: mathematics. -/
import Derived.Test.YtplcdadedpbkpaaMsgA
import Derived.Test.YtplcdadedpbkpaaHeadsM
namespace Go.Proofs.Ytplcdadedpbkpaa
open Go.RowKit
set_option linter.unusedVariables false
set_option maxRecDepth 20000

theorem nilB : ((⟨#[]⟩ : ByteArray).toList == []) = true := by rw [ByteArray.toList_eq]; rfl
theorem ansB0 : ((⟨#[97, 110, 115, 119, 101, 114]⟩ : ByteArray).toList == ansL) = true := by rw [ByteArray.toList_eq]; rfl
theorem em_cut (ls : List ByteArray) (h : emI ls < ls.length) : ls = ls.take (emI ls) ++ ⟨#[]⟩ :: ls.drop (emI ls + 1) ∧ ∀ s ∈ ls.take (emI ls), (s.toList == []) = false := by
  have e := List.findIdx_getElem (w := h)
  refine ⟨?_, ?_⟩
  · conv => lhs; rw [← List.take_append_drop (emI ls) ls]
    rw [List.drop_eq_getElem_cons h]
    congr 2
    have := eq_of_beq e
    rw [ByteArray.toList_eq] at this
    exact str_of this
  · intro s hs
    obtain ⟨j, hj, he⟩ := List.getElem_of_mem hs
    rw [List.length_take] at hj
    rw [List.getElem_take] at he
    have := List.not_of_lt_findIdx (show j < ls.findIdx (fun s => s.toList == []) by unfold emI at hj; omega)
    rw [he] at this
    simpa using this
theorem em_app {a b : List ByteArray} (h : ∀ s ∈ a, (s.toList == []) = false) : emI (a ++ ⟨#[]⟩ :: b) = a.length := by
  unfold emI
  rw [List.findIdx_eq (by simp)]
  refine ⟨by rw [List.getElem_append_right (Nat.le_refl _)]; simp, fun j hj => ?_⟩
  rw [List.getElem_append_left hj]
  exact h _ (List.getElem_mem hj)
theorem ne_of_size {s : ByteArray} (h : 0 < s.size) : (s.toList == []) = false := by
  rw [ByteArray.toList_eq, beq_eq_false_iff_ne]
  intro e
  have : s.data.toList.length = s.size := by simp
  rw [e] at this
  simp at this
  omega
theorem headL_ne (p : HeadM) : ((headL p).toList == []) = false := by
  apply ne_of_size
  unfold headL
  rw [size_cat, size_cat]
  show 0 < _ + 2 + _
  omega
theorem firstL_ne (p : MsgM) : ((firstL p).toList == []) = false := by
  apply ne_of_size
  unfold firstL
  split
  · rw [size_cat]; show 0 < 7 + _; omega
  · rw [size_cat, size_cat]; show 0 < _ + 1 + _; omega
/-- What a line with one space says, read apart. -/
theorem sp_of (a b : ByteArray) (h : ∀ c ∈ a.data.toList, c ≠ 32) : spL (a ++ ⟨#[32]⟩ ++ b).data.toList = a.size ∧ wordA (a ++ ⟨#[32]⟩ ++ b) = a ∧ wordZ (a ++ ⟨#[32]⟩ ++ b) = b := by
  have hl : (a ++ ⟨#[32]⟩ ++ b).data.toList = a.data.toList ++ 32 :: b.data.toList := by
    rw [cat_list, cat_list]; simp
  have hs : spL (a ++ ⟨#[32]⟩ ++ b).data.toList = a.data.toList.length := by rw [hl]; exact sp_app h
  refine ⟨by rw [hs]; simp, ?_, ?_⟩
  · have := wordA_list (a ++ ⟨#[32]⟩ ++ b)
    rw [hs, hl, List.take_left'  rfl] at this
    have := str_of this
    rw [this]
  · have := wordZ_list (a ++ ⟨#[32]⟩ ++ b)
    rw [hs, hl] at this
    have e : (a.data.toList ++ 32 :: b.data.toList).drop (a.data.toList.length + 1) = b.data.toList := by
      rw [List.drop_append]; simp
    rw [e] at this
    have := str_of this
    rw [this]
theorem sp_join (s : ByteArray) (h : spL s.data.toList < s.size) : wordA s ++ ⟨#[32]⟩ ++ wordZ s = s := by
  have h1 := (sp_split s.data.toList (by simpa using h)).1
  have : (wordA s ++ ⟨#[32]⟩ ++ wordZ s).data.toList = s.data.toList := by
    rw [cat_list, cat_list, wordA_list, wordZ_list]
    conv => rhs; rw [h1]
    simp
  rw [str_of this]
theorem textS_readN {s : ByteArray} (h : 0 ≤ readN s.data.toList) : textS (readN s.data.toList) = s := by
  unfold textS
  rw [textN_readN _ h]
theorem textA_read {s : ByteArray} (h : addrB s.data.toList = true) : textA (readU s) (readH s) = s := by
  have h0 := h
  unfold addrB at h
  simp only [Bool.and_eq_true, decide_eq_true_eq] at h
  obtain ⟨⟨⟨h1, h2⟩, h3⟩, h4⟩ := h
  unfold textA readU readH
  rw [if_pos h0, if_pos h0, if_pos (by rw [userS_list, hostS_list, h3, h4]; rfl), userS_list, hostS_list, addrT_of h1 h2]
theorem saidM_h (s : ByteArray) (hs bs : List ByteArray) : (saidM s hs bs).h = readR hs ∧ (saidM s hs bs).b = bs := by
  unfold saidM; split <;> exact ⟨rfl, rfl⟩
theorem first_said {s : ByteArray} {hs bs : List ByteArray} (h : saidB s hs bs = true) : firstL (saidM s hs bs) = s := by
  unfold saidB at h
  simp only [Bool.and_eq_true, decide_eq_true_eq] at h
  obtain ⟨⟨⟨h1, _⟩, h3⟩, h4⟩ := h
  have h5 := (msgB_parts h4).1
  rw [Bool.or_eq_true] at h5
  by_cases ha : ((wordA s).toList == ansL) = true
  · unfold saidM at h5 ⊢
    rw [if_pos ha] at h5 ⊢
    have h6 : 0 ≤ readN (wordZ s).data.toList := by
      rcases h5 with h5 | h5
      · exact absurd h5 (by unfold reqB; simp [wordB_nil])
      · unfold ansB at h5
        simp only [Bool.and_eq_true, decide_eq_true_eq] at h5
        have := h5.1.2.1
        show 0 ≤ readN _
        omega
    unfold firstL
    rw [if_pos nilB]
    show (⟨#[97, 110, 115, 119, 101, 114, 32]⟩ : ByteArray) ++ textS (readN (wordZ s).data.toList) = s
    rw [textS_readN h6]
    have ha2 := eq_of_beq ha
    rw [ByteArray.toList_eq] at ha2
    have ha3 := str_of ha2
    have hj := sp_join s h1
    rw [ha3] at hj
    exact hj
  · have h6 := (Bool.or_eq_true _ _ ▸ h3 : ((wordA s).toList == ansL) = true ∨ addrB (wordZ s).data.toList = true).resolve_left ha
    unfold saidM at h5 ⊢
    rw [if_neg ha] at h5 ⊢
    have h7 : wordB (wordA s).data.toList = true := by
      rcases h5 with h5 | h5
      · unfold reqB at h5
        simp only [Bool.and_eq_true] at h5
        exact h5.1.1.1
      · unfold ansB at h5
        simp only [Bool.and_eq_true, decide_eq_true_eq] at h5
        have := h5.1.2.1
        exact absurd this (by show ¬ (100 : Int) ≤ 0; omega)
    unfold firstL
    rw [if_neg (by rw [word_ne h7]; simp)]
    show wordA s ++ ⟨#[32]⟩ ++ textA (readU (wordZ s)) (readH (wordZ s)) = s
    rw [textA_read h6]
    exact sp_join s h1
/-- Lines that say a message are its lines. -/
theorem lines_said {ls : List ByteArray} (h : rmB ls = true) : msgB (rmM ls) = true ∧ msgL (rmM ls) = ls := by
  have hb := h
  unfold rmB at h
  simp only [Bool.and_eq_true, decide_eq_true_eq] at h
  obtain ⟨⟨h1, h2⟩, h3⟩ := h
  obtain ⟨h4, _⟩ := em_cut ls h2
  unfold rmM
  rw [if_pos hb]
  have h5 : msgB (saidM (ls.headD ⟨#[]⟩) ((ls.take (emI ls)).drop 1) (ls.drop (emI ls + 1))) = true := by
    unfold saidB at h3
    simp only [Bool.and_eq_true] at h3
    exact h3.2
  have h6 : readB ((ls.take (emI ls)).drop 1) = true := by
    unfold saidB at h3
    simp only [Bool.and_eq_true] at h3
    exact h3.1.1.2
  refine ⟨h5, ?_⟩
  unfold msgL
  rw [if_pos h5, first_said h3, (saidM_h _ _ _).1, (saidM_h _ _ _).2]
  have h7 := lines_read h6
  unfold linesOf at h7
  rw [if_pos (headsB_read h6)] at h7
  rw [h7]
  conv => rhs; rw [h4]
  cases ls with
  | nil => simp at h2
  | cons x y =>
    obtain ⟨e, he⟩ : ∃ e, emI (x :: y) = e + 1 := ⟨emI (x :: y) - 1, by omega⟩
    rw [he]
    simp
/-- The lines of a message say it. -/
theorem said_lines {p : MsgM} (h : msgB p = true) : rmB (msgL p) = true ∧ rmM (msgL p) = p := by
  obtain ⟨x0, x1, x2, x3, hh, bb⟩ := p
  obtain ⟨h1, h2, h3, h4⟩ := msgB_parts h
  obtain ⟨h5, h6⟩ := read_lines h2
  have hL : msgL ⟨x0, x1, x2, x3, hh, bb⟩ = firstL ⟨x0, x1, x2, x3, hh, bb⟩ :: (hh.map headL ++ ⟨#[]⟩ :: bb) := by unfold msgL; rw [if_pos h]
  obtain ⟨F, hF⟩ : ∃ F, F = firstL ⟨x0, x1, x2, x3, hh, bb⟩ := ⟨_, rfl⟩
  rw [← hF] at hL
  have he : emI (F :: (hh.map headL ++ ⟨#[]⟩ :: bb)) = 1 + hh.length := by
    have := em_app (a := F :: hh.map headL) (b := bb) (by
      intro s hs
      rcases List.mem_cons.mp hs with rfl | hs
      · rw [hF]; exact firstL_ne _
      · rw [List.mem_map] at hs
        obtain ⟨q, _, rfl⟩ := hs
        exact headL_ne q)
    rw [List.cons_append] at this
    rw [this]; simp; omega
  have ht : ((F :: (hh.map headL ++ ⟨#[]⟩ :: bb)).take (1 + hh.length)).drop 1 = hh.map headL := by
    rw [Nat.add_comm, List.take_succ_cons, List.drop_succ_cons, List.drop_zero]
    exact List.take_left' (by simp)
  have hd : (F :: (hh.map headL ++ ⟨#[]⟩ :: bb)).drop (1 + hh.length + 1) = bb := by
    rw [show 1 + hh.length + 1 = (hh.length + 1) + 1 by omega, List.drop_succ_cons, List.drop_append]
    simp
  have hs : saidB F (hh.map headL) bb = true ∧ saidM F (hh.map headL) bb = ⟨x0, x1, x2, x3, hh, bb⟩ := by
    rw [Bool.or_eq_true] at h1
    rcases h1 with h1 | h1
    · have hr := h1
      unfold reqB at h1
      simp only [Bool.and_eq_true, Bool.not_eq_true', decide_eq_true_eq] at h1
      obtain ⟨⟨⟨w0, w1⟩, w3⟩, w4, w5⟩ := h1
      have hx3 : x3 = 0 := w3
      have hFF : F = x0 ++ ⟨#[32]⟩ ++ textA x1 x2 := by rw [hF]; unfold firstL; rw [if_neg (by rw [word_ne w0]; simp)]
      obtain ⟨s1, s2, s3⟩ := sp_of x0 (textA x1 x2) (word_no_sp w0)
      have hta : (textA x1 x2).data.toList = addrT x1.data.toList x2.data.toList := by unfold textA; rw [if_pos (by rw [Bool.and_eq_true]; exact ⟨w4, w5⟩)]
      have hab : addrB (textA x1 x2).data.toList = true := by rw [hta]; exact addrB_addrT w4 w5
      have hru : readU (textA x1 x2) = x1 ∧ readH (textA x1 x2) = x2 := by
        unfold readU readH
        rw [if_pos hab, if_pos hab]
        unfold userS hostS
        rw [hta, user_addrT w4, host_addrT w4]
        exact ⟨rfl, rfl⟩
      have hm : saidM F (hh.map headL) bb = ⟨x0, x1, x2, x3, hh, bb⟩ := by
        unfold saidM
        rw [hFF, s2, s3, if_neg (by rw [w1]; simp), hru.1, hru.2, h6, hx3]
      refine ⟨?_, hm⟩
      unfold saidB
      rw [hm, h, h5, hFF, s1, s3, hab, decide_eq_true (by rw [size_cat, size_cat]; show _ < _ + 1 + _; omega)]
      simp
    · have hr := h1
      unfold ansB at h1
      simp only [Bool.and_eq_true, decide_eq_true_eq] at h1
      obtain ⟨⟨w0, w1, w2⟩, w3, w4⟩ := h1
      have hx : ∀ x : ByteArray, (x.toList == []) = true → x = ⟨#[]⟩ := by
        intro x hx
        have := eq_of_beq hx
        rw [ByteArray.toList_eq] at this
        exact str_of this
      have e0 := hx _ w0
      have e1 := hx _ w3
      have e2 := hx _ w4
      change 100 ≤ x3 at w1
      change x3 ≤ 699 at w2
      change x0 = _ at e0
      change x1 = _ at e1
      change x2 = _ at e2
      have hFF : F = (⟨#[97, 110, 115, 119, 101, 114]⟩ : ByteArray) ++ ⟨#[32]⟩ ++ textS x3 := by
        rw [hF]; unfold firstL; rw [if_pos w0]; rfl
      obtain ⟨s1, s2, s3⟩ := sp_of ⟨#[97, 110, 115, 119, 101, 114]⟩ (textS x3) (by decide)
      have hrn : readN (textS x3).data.toList = x3 := by
        unfold textS textN
        rw [if_pos ⟨by omega, by omega⟩]
        show readN (numT x3.toNat) = x3
        rw [readN_numT _ (by omega)]
        omega
      have hm : saidM F (hh.map headL) bb = ⟨x0, x1, x2, x3, hh, bb⟩ := by
        unfold saidM
        rw [hFF, s2, s3, if_pos ansB0, hrn, h6, e0, e1, e2]
      refine ⟨?_, hm⟩
      unfold saidB
      rw [hm, h, h5, hFF, s1, s2, decide_eq_true (by rw [size_cat, size_cat]; show 6 < 6 + 1 + _; omega), ansB0]
      rfl
  have hr : rmB (F :: (hh.map headL ++ ⟨#[]⟩ :: bb)) = true := by
    unfold rmB
    rw [he, ht, hd, decide_eq_true (p := 0 < 1 + hh.length) (by omega), decide_eq_true (p := 1 + hh.length < _) (by simp; omega)]
    exact hs.1
  rw [hL]
  refine ⟨hr, ?_⟩
  unfold rmM
  rw [if_pos hr, he, ht, hd]
  exact hs.2
theorem ans_valid {p : MsgM} {cd : Int} (h : ansOk p cd = true) : msgB (ansM p cd) = true ∧ ansOk (ansM p cd) cd = false := by
  unfold ansOk at h
  simp only [Bool.and_eq_true, decide_eq_true_eq] at h
  obtain ⟨⟨h1, _⟩, h2, h3⟩ := h
  refine ⟨?_, ?_⟩
  · have h4 := (msgB_parts h1).2.1
    unfold msgB bodyB
    have h5 : ansB (ansM p cd) = true := by
      unfold ansB ansM
      simp only [decide_eq_true h2, decide_eq_true h3, nilB]
      rfl
    have h6 : headsB (ansM p cd).h = true := by
      show headsB (p.h.filter viaB) = true
      unfold headsB at h4 ⊢
      simp only [Bool.and_eq_true, decide_eq_true_eq] at h4 ⊢
      refine ⟨Nat.le_trans (List.length_filter_le _ _) h4.1, ?_⟩
      rw [List.all_eq_true] at h4 ⊢
      exact fun x hx => h4.2 x (List.mem_filter.mp hx).1
    rw [h5, h6, Bool.or_true]
    rfl
  · unfold ansOk
    have : ((ansM p cd).x0.toList == []) = true := nilB
    rw [this]
    simp
end Go.Proofs.Ytplcdadedpbkpaa
