/- Parts of the proof: RosM. -/
import Derived.Test.YtnilekbmffjhfaaGdRos
section
namespace Go.Proofs.Ytnilekbmffjhfaa.Mini
open Go Go.RowKit
set_option linter.unusedVariables false
set_option linter.unusedSimpArgs false
set_option maxRecDepth 20000
theorem less_irr : ∀ x : List UInt8, Op.bytesLess x x = false
  | [] => rfl
  | a :: x => by simp [Op.bytesLess, less_irr x]
theorem less_trans : ∀ {x y z : List UInt8}, Op.bytesLess x y = true → Op.bytesLess y z = true → Op.bytesLess x z = true
  | _, _, [], _, h => by simp [Op.bytesLess] at h
  | [], _, _ :: _, _, _ => rfl
  | _ :: _, [], _ :: _, h, _ => by simp [Op.bytesLess] at h
  | a :: x, b :: y, c :: z, h1, h2 => by
    simp only [Op.bytesLess, Bool.or_eq_true, Bool.and_eq_true, decide_eq_true_eq, beq_iff_eq] at h1 h2 ⊢
    rcases h1 with h1 | ⟨rfl, h1⟩ <;> rcases h2 with h2 | ⟨rfl, h2⟩
    · exact .inl (UInt8.lt_trans h1 h2)
    · exact .inl h1
    · exact .inl h2
    · exact .inr ⟨rfl, less_trans h1 h2⟩
theorem less_tri : ∀ (x y : List UInt8), Op.bytesLess x y = true ∨ x = y ∨ Op.bytesLess y x = true
  | [], [] => .inr (.inl rfl)
  | [], _ :: _ => .inl rfl
  | _ :: _, [] => .inr (.inr rfl)
  | a :: x, b :: y => by
    simp only [Op.bytesLess, Bool.or_eq_true, Bool.and_eq_true, decide_eq_true_eq, beq_iff_eq]
    rcases Nat.lt_trichotomy a.toNat b.toNat with h | h | h
    · exact .inl (.inl (UInt8.lt_iff_toNat_lt.mpr h))
    · have e : a = b := UInt8.toNat_inj.mp h
      subst e
      rcases less_tri x y with h | h | h
      · exact .inl (.inr ⟨rfl, h⟩)
      · exact .inr (.inl (by rw [h]))
      · exact .inr (.inr (.inr ⟨rfl, h⟩))
    · exact .inr (.inr (.inl (UInt8.lt_iff_toNat_lt.mpr h)))
theorem text_eqR {s t : ByteArray} (h : s.data.toList = t.data.toList) : s = t := ByteArray.ext (Array.ext' h)
theorem eqS_iff {a b : ByteArray} : eqS a b = true ↔ a = b := by
  unfold eqS
  rw [beq_iff_eq]
  exact ⟨text_eqR, fun h => by rw [h]⟩
theorem ltS_irr (a : ByteArray) : ltS a a = false := less_irr _
theorem ltS_trans {a b c : ByteArray} (h1 : ltS a b = true) (h2 : ltS b c = true) : ltS a c = true := less_trans h1 h2
theorem ltS_tri (a b : ByteArray) : ltS a b = true ∨ a = b ∨ ltS b a = true := (less_tri _ _).imp id fun h => h.imp text_eqR id
theorem ltS_ne {a b : ByteArray} (h : ltS a b = true) : a ≠ b := fun e => by rw [e, ltS_irr] at h; cases h
abbrev ltP (a b : Per) : Prop := ltS a.w b.w = true
theorem asc_iff : ∀ {l : List Per}, ascB l = true ↔ l.Pairwise ltP
  | [] => by simp [ascB]
  | [a] => by simp [ascB]
  | a :: b :: l => by
    have ih := @asc_iff (b :: l)
    rw [List.pairwise_cons, ← ih]
    show (ltS a.w b.w && ascB (b :: l)) = true ↔ _
    rw [Bool.and_eq_true]
    constructor
    · rintro ⟨h1, h2⟩
      refine ⟨fun x hx => ?_, h2⟩
      rcases List.mem_cons.mp hx with rfl | hx
      · exact h1
      · exact ltS_trans h1 ((List.pairwise_cons.mp (ih.mp h2)).1 x hx)
    · rintro ⟨h1, h2⟩
      exact ⟨h1 b (by simp), h2⟩
theorem ros_iff {l : List Per} : rosB l = true ↔ (∀ p ∈ l, perB p = true) ∧ l.Pairwise ltP ∧ l.length ≤ 8 := by
  unfold rosB
  rw [Bool.and_eq_true, Bool.and_eq_true, List.all_eq_true, asc_iff, decide_eq_true_eq]
  exact ⟨fun ⟨⟨a, b⟩, c⟩ => ⟨a, b, c⟩, fun ⟨a, b, c⟩ => ⟨⟨a, b⟩, c⟩⟩
/-- A part of a valid one is valid (P76). -/
theorem ros_sub {l l' : List Per} (hs : l'.Sublist l) (h : rosB l = true) : rosB l' = true := by
  rw [ros_iff] at h ⊢
  exact ⟨fun p hp => h.1 p (hs.subset hp), h.2.1.sublist hs, Nat.le_trans hs.length_le h.2.2⟩
/-- With the first one twice it is not (P76). -/
theorem ros_twice (p : Per) (l : List Per) : rosB (p :: p :: l) = false := by
  cases h : rosB (p :: p :: l) with
  | false => rfl
  | true =>
    have := (List.pairwise_cons.mp (ros_iff.mp h).2.1).1 p (by simp)
    have := ltS_irr p.w
    simp_all
theorem ros_at {l : List Per} (h : rosB l = true) {i j : Nat} {p q : Per} (hi : l[i]? = some p) (hj : l[j]? = some q) (hij : i < j) : ltS p.w q.w = true := by
  obtain ⟨a, rfl⟩ := List.getElem?_eq_some_iff.mp hi
  obtain ⟨b, rfl⟩ := List.getElem?_eq_some_iff.mp hj
  exact List.pairwise_iff_getElem.mp (ros_iff.mp h).2.1 i j a b hij
/-- Words are different. -/
theorem ros_one {l : List Per} (h : rosB l = true) {i j : Nat} {p q : Per} (hi : l[i]? = some p) (hj : l[j]? = some q) (e : p.w = q.w) : i = j := by
  rcases Nat.lt_trichotomy i j with hij | hij | hij
  · exact absurd e (ltS_ne (ros_at h hi hj hij))
  · exact hij
  · exact absurd e.symm (ltS_ne (ros_at h hj hi hij))
theorem place_is {l : List Per} {w : ByteArray} {i : Nat} {p : Per} (hi : l[i]? = some p) (hw : p.w = w) (hn : ∀ (j : Nat) (q : Per), j < i → l[j]? = some q → q.w ≠ w) : placeP w l = i := by
  obtain ⟨a, e⟩ := List.getElem?_eq_some_iff.mp hi
  unfold placeP
  rw [List.findIdx_eq a]
  refine ⟨by rw [e]; exact eqS_iff.mpr hw, fun j hj => ?_⟩
  have := hn j l[j] hj (List.getElem?_eq_getElem (by omega))
  cases h : eqS l[j].w w with
  | false => rfl
  | true => exact absurd (eqS_iff.mp h) this
theorem place_no {l : List Per} {w : ByteArray} (hn : ∀ q ∈ l, q.w ≠ w) : placeP w l = l.length := by
  unfold placeP
  rw [List.findIdx_eq_length]
  intro q hq
  cases h : eqS q.w w with
  | false => rfl
  | true => exact absurd (eqS_iff.mp h) (hn q hq)
theorem place_at {l : List Per} {w : ByteArray} (h : placeP w l < l.length) : ∃ p, l[placeP w l]? = some p ∧ p.w = w ∧ ∀ (j : Nat) (q : Per), j < placeP w l → l[j]? = some q → q.w ≠ w := by
  refine ⟨l[placeP w l], List.getElem?_eq_getElem h, eqS_iff.mp (List.findIdx_getElem (w := h)), fun j q hj hq e => ?_⟩
  obtain ⟨a, rfl⟩ := List.getElem?_eq_some_iff.mp hq
  have := List.not_of_lt_findIdx hj
  rw [eqS_iff.mpr e] at this
  cases this
/-- Where a word belongs: all before it are less, and what is there is not. -/
theorem gap_le (w : ByteArray) (l : List Per) : gapP w l ≤ l.length := List.findIdx_le_length
theorem gap_lt {w : ByteArray} {l : List Per} {j : Nat} {q : Per} (hj : j < gapP w l) (hq : l[j]? = some q) : ltS q.w w = true := by
  obtain ⟨a, rfl⟩ := List.getElem?_eq_some_iff.mp hq
  have := List.not_of_lt_findIdx hj
  simpa using this
theorem gap_is {l : List Per} {w : ByteArray} {i : Nat} (hi : i ≤ l.length) (hb : ∀ (j : Nat) (q : Per), j < i → l[j]? = some q → ltS q.w w = true) (he : ∀ q, l[i]? = some q → ltS q.w w = false) : gapP w l = i := by
  by_cases h : i < l.length
  · unfold gapP
    rw [List.findIdx_eq h]
    refine ⟨by rw [he _ (List.getElem?_eq_getElem h)]; rfl, fun j hj => ?_⟩
    rw [hb j _ hj (List.getElem?_eq_getElem (by omega))]; rfl
  · have e : i = l.length := by omega
    subst e
    unfold gapP
    rw [List.findIdx_eq_length]
    intro q hq
    obtain ⟨j, hj, rfl⟩ := List.getElem_of_mem hq
    rw [hb j _ hj (List.getElem?_eq_getElem hj)]; rfl
theorem ins_len (p : Per) (l : List Per) : (insP p l).length = l.length + 1 := by
  have := gap_le p.w l
  unfold insP
  rw [List.length_append, List.length_take, List.length_cons, List.length_drop]
  omega
theorem ins_at (p : Per) (l : List Per) : (insP p l)[gapP p.w l]? = some p := by
  have := gap_le p.w l
  unfold insP
  rw [List.getElem?_append_right (by rw [List.length_take]; omega), List.length_take, Nat.min_eq_left this, Nat.sub_self]
  rfl
theorem ins_before {p : Per} {l : List Per} {j : Nat} (hj : j < gapP p.w l) : (insP p l)[j]? = l[j]? := by
  have := gap_le p.w l
  unfold insP
  rw [List.getElem?_append_left (by rw [List.length_take]; omega), List.getElem?_take_of_lt hj]
/-- Without it the roster is as before (P14). -/
theorem ins_back (p : Per) (l : List Per) : (insP p l).take (gapP p.w l) ++ (insP p l).drop (gapP p.w l + 1) = l := by
  have := gap_le p.w l
  have hl : (l.take (gapP p.w l)).length = gapP p.w l := by rw [List.length_take]; omega
  unfold insP
  rw [List.take_append_of_le_length (by omega), List.take_of_length_le (by omega), List.drop_append, List.drop_of_length_le (by omega), hl, show gapP p.w l + 1 - gapP p.w l = 1 by omega]
  simp
/-- Nobody joins twice (P14). -/
theorem join_again {p : Per} {l : List Per} (h : rosB (insP p l) = true) : joinP (insP p l) p = (insP p l, false) := by
  have hg : gapP p.w (insP p l) = gapP p.w l := gap_is (by rw [ins_len]; have := gap_le p.w l; omega) (fun j q hj hq => by
    rw [ins_before hj] at hq
    exact gap_lt hj hq) (fun q hq => by
    rw [ins_at] at hq
    injection hq with hq
    subst hq
    exact ltS_irr _)
  unfold joinP
  rw [if_pos h, if_neg]
  intro h2
  have a1 := ins_at p (insP p l)
  rw [hg] at a1
  have a2 : (insP p (insP p l))[gapP p.w l + 1]? = some p := by
    have hb := ins_at p l
    have hl := gap_le p.w l
    have hn := ins_len p l
    show ((insP p l).take (gapP p.w (insP p l)) ++ p :: (insP p l).drop (gapP p.w (insP p l)))[gapP p.w l + 1]? = some p
    rw [hg, List.getElem?_append_right (by rw [List.length_take]; omega), List.length_take, Nat.min_eq_left (by omega), show gapP p.w l + 1 - gapP p.w l = 1 by omega]
    show ((insP p l).drop (gapP p.w l))[0]? = some p
    rw [List.getElem?_drop, Nat.add_zero]
    exact hb
  have := ros_one h2 a1 a2 rfl
  omega
theorem best_lt (l : List Per) : ∀ k, -1 ≤ bestP l k ∧ bestP l k < k ∨ k = 0 ∧ bestP l k = -1
  | 0 => .inr ⟨rfl, rfl⟩
  | k + 1 => by
    have ih := best_lt l k
    unfold bestP
    split
    · exact .inl ⟨by omega, by omega⟩
    · exact .inl ⟨by omega, by omega⟩
theorem best_pos (l : List Per) : ∀ k, 0 < k → 0 ≤ bestP l k
  | 0, h => by omega
  | k + 1, _ => by
    unfold bestP
    split
    · omega
    · rename_i h
      simp only [not_or] at h
      omega
theorem host_len (l : List Per) : (hostP l).length = l.length := by
  unfold hostP
  split <;> simp
theorem host_at {l : List Per} (i : Nat) : ((hostP l)[i]?).map (·.w) = (l[i]?).map (·.w) := by
  unfold hostP
  split
  · rfl
  · rename_i h
    have hb := best_lt l l.length
    rw [List.getElem?_set]
    split
    · rename_i e
      split
      · rename_i hlt
        rw [e] at hlt ⊢
        rw [List.getD_eq_getElem?_getD, List.getElem?_eq_getElem hlt]
        rfl
      · rename_i hlt
        rw [List.getElem?_eq_none (by omega)]
    · rfl
/-- Roles of hosts: the roster stays valid (P15). -/
theorem host_valid {l : List Per} (h : rosB l = true) : rosB (hostP l) = true := by
  rw [ros_iff] at h ⊢
  obtain ⟨h1, h2, h3⟩ := h
  have wat : ∀ {i : Nat} {p : Per}, (hostP l)[i]? = some p → ∃ q, l[i]? = some q ∧ q.w = p.w := fun {i p} hi => by
    have := @host_at l i
    rw [hi] at this
    cases hl : l[i]? with
    | none => rw [hl] at this; cases this
    | some q => rw [hl] at this; injection this with this; exact ⟨q, rfl, this.symm⟩
  refine ⟨fun p hp => ?_, ?_, by rw [host_len]; exact h3⟩
  · obtain ⟨i, hi, rfl⟩ := List.getElem_of_mem hp
    have hi' := List.getElem?_eq_getElem hi
    generalize (hostP l)[i] = p at hi'
    unfold hostP at hi'
    split at hi'
    · exact h1 p (List.mem_of_getElem? hi')
    · rw [List.getElem?_set] at hi'
      split at hi'
      · split at hi'
        · rename_i hlt
          injection hi' with hi'
          subst hi'
          have := h1 _ (List.getElem_mem hlt)
          rw [List.getD_eq_getElem?_getD, List.getElem?_eq_getElem hlt]
          unfold perB at this ⊢
          rw [Bool.and_eq_true] at this ⊢
          exact ⟨this.1, rfl⟩
        · cases hi'
      · exact h1 p (List.mem_of_getElem? hi')
  · refine List.pairwise_iff_getElem.mpr fun i j hi hj hij => ?_
    obtain ⟨p, p1, p2⟩ := wat (List.getElem?_eq_getElem hi)
    obtain ⟨q, q1, q2⟩ := wat (List.getElem?_eq_getElem hj)
    obtain ⟨a, rfl⟩ := List.getElem?_eq_some_iff.mp p1
    obtain ⟨b, rfl⟩ := List.getElem?_eq_some_iff.mp q1
    have := List.pairwise_iff_getElem.mp h2 i j a b hij
    show ltS _ _ = true
    rw [← p2, ← q2]; exact this
/-- Somebody is the host, if anybody is left (P15). -/
theorem host_some {l : List Per} (h : l ≠ []) : ∃ p ∈ hostP l, p.r = 2 := by
  have hl : 0 < l.length := List.length_pos_iff.mpr h
  have h1 := best_pos l l.length hl
  have h2 := best_lt l l.length
  unfold hostP
  rw [if_neg (by omega)]
  exact ⟨_, List.mem_set (by omega) _, rfl⟩
theorem leave_len {l : List Per} {w : ByteArray} (h : placeP w l < l.length) : (hostP (l.eraseIdx (placeP w l))).length = l.length - 1 := by
  rw [host_len, List.length_eraseIdx, if_pos h]
theorem leave_valid {l : List Per} {w : ByteArray} (h : rosB l = true) : rosB (hostP (l.eraseIdx (placeP w l))) = true := host_valid (ros_sub (List.eraseIdx_sublist _ _) h)
/-- Who left is gone (P15). -/
theorem leave_gone {l : List Per} {w : ByteArray} (hr : rosB l = true) (h : placeP w l < l.length) : placeP w (hostP (l.eraseIdx (placeP w l))) = (hostP (l.eraseIdx (placeP w l))).length := by
  obtain ⟨p, h1, h2, _⟩ := place_at h
  refine place_no fun q hq e => ?_
  obtain ⟨i, hi, rfl⟩ := List.getElem_of_mem hq
  have hw := @host_at (l.eraseIdx (placeP w l)) i
  rw [List.getElem?_eq_getElem hi] at hw
  cases hl : (l.eraseIdx (placeP w l))[i]? with
  | none => rw [hl] at hw; cases hw
  | some q =>
    rw [hl] at hw
    injection hw with hw
    have hw : ((hostP (l.eraseIdx (placeP w l)))[i]).w = q.w := hw
    rw [List.getElem?_eraseIdx] at hl
    split at hl
    · have := ros_one hr hl h1 (by rw [← hw, e, h2])
      omega
    · have := ros_one hr hl h1 (by rw [← hw, e, h2])
      omega
theorem join_mem {l : List Per} {p q : Per} (h : q ∈ (joinP l p).1) : q ∈ l ∨ q = p := by
  unfold joinP at h
  split at h
  · split at h
    · have h : q ∈ insP p l := h
      unfold insP at h
      rcases List.mem_append.mp h with h | h
      · exact .inl (List.mem_of_mem_take h)
      · rcases List.mem_cons.mp h with h | h
        · exact .inr h
        · exact .inl (List.mem_of_mem_drop h)
    · exact .inl h
  · simp at h
theorem join_len {l : List Per} {p : Per} : (joinP l p).1.length ≤ l.length + 1 := by
  unfold joinP
  split
  · split
    · exact Nat.le_of_eq (ins_len p l)
    · exact Nat.le_succ _
  · exact Nat.zero_le _
end Go.Proofs.Ytnilekbmffjhfaa.Mini
end
