/- Parts of the proof: ActM. -/
import Derived.Test.YtdhjfbnlkecggaaGdAct
section
namespace Go.Proofs.Ytdhjfbnlkecggaa.Mini
open Go Go.RowKit
set_option linter.unusedVariables false
set_option linter.unusedSimpArgs false
set_option maxRecDepth 20000
/-- The one with a word is at its place. -/
theorem at_one {l : List Per} {w : ByteArray} (h : 0 ≤ atP l w) : rosB l = true ∧ (atP l w).toNat < l.length ∧ l[(atP l w).toNat]? = some (oneP l w) ∧ (oneP l w).w = w := by
  unfold atP at h
  split at h
  · rename_i hp
    obtain ⟨p, p1, p2, -⟩ := place_at hp.2
    have e : atP l w = (placeP w l : Int) := by unfold atP; rw [if_pos hp]
    unfold oneP
    rw [e, Int.toNat_natCast, List.getD_eq_getElem?_getD, p1]
    exact ⟨hp.1, hp.2, rfl, p2⟩
  · omega
theorem at_lt {l : List Per} {w : ByteArray} : atP l w < l.length := by
  unfold atP
  split
  · rename_i hp
    have := hp.2
    omega
  · omega
/-- Nobody comes twice. -/
theorem at_eq {l : List Per} {v w : ByteArray} (h : 0 ≤ atP l v) (e : atP l v = atP l w) : v = w := by
  obtain ⟨-, -, h3, h4⟩ := at_one h
  obtain ⟨-, -, g3, g4⟩ := at_one (l := l) (w := w) (by omega)
  rw [← e, h3] at g3
  injection g3 with g3
  rw [← h4, ← g4, g3]
/-- One person set anew: the same words. -/
theorem words_set {l : List Per} {i : Nat} {p q : Per} (h : l[i]? = some p) (e : q.w = p.w) (j : Nat) : ((l.set i q)[j]?).map (·.w) = (l[j]?).map (·.w) := by
  rw [List.getElem?_set]
  split
  · rename_i hij
    subst hij
    split
    · rw [h]; exact congrArg some e
    · rename_i hlt
      rw [List.getElem?_eq_none (by omega)]
  · rfl
theorem place_words {w : ByteArray} : ∀ {l l' : List Per}, (∀ j : Nat, (l'[j]?).map (·.w) = (l[j]?).map (·.w)) → placeP w l' = placeP w l
  | [], [], _ => rfl
  | [], a :: t, h => by have := h 0; simp at this
  | a :: t, [], h => by have := h 0; simp at this
  | a :: t, b :: t', h => by
    have h0 : some b.w = some a.w := h 0
    injection h0 with h0
    have ih := place_words (w := w) (l := t) (l' := t') fun j => by have := h (j + 1); simpa using this
    unfold placeP at ih ⊢
    rw [List.findIdx_cons, List.findIdx_cons, ih, h0]
theorem ros_set {l : List Per} {i : Nat} {p q : Per} (hr : rosB l = true) (h : l[i]? = some p) (e : q.w = p.w) (hq : inB q.r 0 2 = true) : rosB (l.set i q) = true := by
  rw [ros_iff] at hr ⊢
  obtain ⟨h1, h2, h3⟩ := hr
  refine ⟨fun x hx => ?_, ?_, by rw [List.length_set]; exact h3⟩
  · rcases List.mem_or_eq_of_mem_set hx with hx | rfl
    · exact h1 x hx
    · have := h1 p (List.mem_of_getElem? h)
      unfold perB at this ⊢
      rw [Bool.and_eq_true] at this ⊢
      rw [e]
      exact ⟨this.1, hq⟩
  · refine List.pairwise_iff_getElem.mpr fun a b ha hb hab => ?_
    have wat : ∀ {j : Nat} (hj : j < (l.set i q).length), ∃ hj' : j < l.length, ((l.set i q)[j]).w = l[j].w := fun {j} hj => by
      have hj' : j < l.length := by rwa [List.length_set] at hj
      have := words_set h e j
      rw [List.getElem?_eq_getElem hj, List.getElem?_eq_getElem hj'] at this
      injection this with this
      exact ⟨hj', this⟩
    obtain ⟨ha', ea⟩ := wat ha
    obtain ⟨hb', eb⟩ := wat hb
    have := List.pairwise_iff_getElem.mp h2 a b ha' hb' hab
    show ltS _ _ = true
    rw [ea, eb]; exact this
theorem at_set {l : List Per} {i : Nat} {p q : Per} (hr : rosB l = true) (h : l[i]? = some p) (e : q.w = p.w) (hq : inB q.r 0 2 = true) (w : ByteArray) : atP (l.set i q) w = atP l w := by
  unfold atP
  rw [ros_set hr h e hq, hr, place_words (words_set h e), List.length_set]
theorem one_in {l : List Per} {w : ByteArray} (h : 0 ≤ atP l w) : inB (oneP l w).r 0 2 = true ∧ oneP l w ∈ l := by
  obtain ⟨h1, h2, h3, -⟩ := at_one h
  have hm := List.mem_of_getElem? h3
  have := (ros_iff.mp h1).1 _ hm
  unfold perB at this
  rw [Bool.and_eq_true] at this
  exact ⟨this.2, hm⟩
theorem act_at {l : List Per} {a b : ByteArray} {d : Int} (h : actB l a d b = true) : 0 ≤ atP l a ∧ 0 ≤ atP l b ∧ 0 ≤ d ∧ d ≤ 3 := by
  unfold actB at h
  split at h
  · cases h
  · rename_i hn
    rw [not_or] at hn
    refine ⟨by omega, by omega, ?_⟩
    split at h
    · omega
    · split at h
      · omega
      · split at h
        · omega
        · split at h
          · omega
          · cases h
theorem one_set {l : List Per} {w : ByteArray} {q : Per} (h : 0 ≤ atP l w) (e : q.w = w) (hq : inB q.r 0 2 = true) : oneP (l.set (atP l w).toNat q) w = q := by
  obtain ⟨h1, h2, h3, h4⟩ := at_one h
  unfold oneP
  rw [at_set h1 h3 (by rw [e, h4]) hq, List.getD_eq_getElem?_getD, List.getElem?_set_self h2]
  rfl
theorem one_far {l : List Per} {v w : ByteArray} {q : Per} (h : 0 ≤ atP l w) (e : q.w = w) (hq : inB q.r 0 2 = true) (hv : 0 ≤ atP l v) (hn : atP l w ≠ atP l v) : oneP (l.set (atP l w).toNat q) v = oneP l v := by
  obtain ⟨h1, h2, h3, h4⟩ := at_one h
  unfold oneP
  rw [at_set h1 h3 (by rw [e, h4]) hq, List.getD_eq_getElem?_getD, List.getD_eq_getElem?_getD, List.getElem?_set, if_neg (by omega)]
/-- Hosts may do what others may (P78). -/
theorem act_host {l : List Per} {a b : ByteArray} {d : Int} (h : actB l a d b = true) : actB (setR l a 2) a d b = true := by
  obtain ⟨ha, hb, -⟩ := act_at h
  obtain ⟨h1, h2, h3, h4⟩ := at_one ha
  have ea : ∀ w, atP (setR l a 2) w = atP l w := fun w => at_set (q := { oneP l a with r := 2 }) h1 h3 rfl rfl w
  have eo : oneP (setR l a 2) a = { oneP l a with r := 2 } := one_set ha h4 rfl
  unfold actB at h ⊢
  rw [ea, ea, eo]
  rw [if_neg (by omega)] at h ⊢
  split
  · rename_i e; rw [if_pos e] at h; exact h
  · rename_i e; rw [if_neg e] at h
    split
    · simp
    · rename_i e; rw [if_neg e] at h
      split
      · rename_i e; rw [if_pos e] at h
        rw [Bool.and_eq_true] at h
        show ((2 : Int) == 2 && _) = true
        rw [Bool.and_eq_true]
        refine ⟨rfl, ?_⟩
        by_cases e2 : atP l a = atP l b
        · rw [e2]; simp
        · have : oneP (setR l a 2) b = oneP l b := one_far ha h4 rfl hb e2
          rw [this]; exact h.2
      · rename_i e; rw [if_neg e] at h
        split
        · rfl
        · rename_i e; rw [if_neg e] at h; cases h
/-- Nobody speaks for another one (P78). -/
theorem act_self {l : List Per} {a b : ByteArray} (h : actB l a 0 b = true) : a = b ∧ (oneP l a).m = false := by
  obtain ⟨ha, hb, -⟩ := act_at h
  unfold actB at h
  rw [if_neg (by omega), if_pos rfl, Bool.and_eq_true, beq_iff_eq, Bool.not_eq_true'] at h
  exact ⟨at_eq ha h.1, h.2⟩
/-- Set back. -/
theorem set_back {l : List Per} {i : Nat} {p q : Per} (h : l[i]? = some p) : (l.set i q).set i p = l := by
  rw [List.set_set]
  have := List.getElem?_eq_some_iff.mp h
  obtain ⟨hi, rfl⟩ := this
  exact List.set_getElem_self hi
theorem mute_cases (l : List Per) (a b : ByteArray) (m : Bool) : ((muteP l a b m).2 = false ∧ ((muteP l a b m).1 = l ∨ (muteP l a b m).1 = [])) ∨ ((muteP l a b m).2 = true ∧ rosB l = true ∧ actB l a 1 b = true ∧ (m = true ∨ a = b) ∧ (muteP l a b m).1 = setM l b m) := by
  unfold muteP
  split
  · rename_i h
    split
    · rename_i h2
      exact .inr ⟨rfl, h, h2.1, h2.2, rfl⟩
    · exact .inl ⟨rfl, .inl rfl⟩
  · exact .inl ⟨rfl, .inr rfl⟩
theorem raise_cases (l : List Per) (a b : ByteArray) (r : Int) : ((raiseP l a b r).2 = false ∧ ((raiseP l a b r).1 = l ∨ (raiseP l a b r).1 = [])) ∨ ((raiseP l a b r).2 = true ∧ rosB l = true ∧ actB l a 3 b = true ∧ inB r 0 2 = true ∧ anyH (setR l b r) = true ∧ (raiseP l a b r).1 = setR l b r) := by
  unfold raiseP
  split
  · rename_i h
    split
    · rename_i h2
      split
      · rename_i h3
        exact .inr ⟨rfl, h, h2.1, h2.2, h3, rfl⟩
      · exact .inl ⟨rfl, .inl rfl⟩
    · exact .inl ⟨rfl, .inl rfl⟩
  · exact .inl ⟨rfl, .inr rfl⟩
/-- Muted people are silent (P16). -/
theorem mute_speak {l : List Per} {b : ByteArray} {m : Bool} (h : 0 ≤ atP l b) : actB (setM l b m) b 0 b = !m := by
  obtain ⟨h1, h2, h3, h4⟩ := at_one h
  have hq := (one_in h).1
  have ea : atP (setM l b m) b = atP l b := at_set (q := { oneP l b with m := m }) h1 h3 rfl hq b
  have eo : oneP (setM l b m) b = { oneP l b with m := m } := one_set h h4 hq
  unfold actB
  rw [ea, eo, if_neg (by omega), if_pos rfl]
  simp
theorem mute_valid {l : List Per} {b : ByteArray} {m : Bool} (h : 0 ≤ atP l b) : rosB (setM l b m) = true := by
  obtain ⟨h1, h2, h3, h4⟩ := at_one h
  exact ros_set h1 h3 rfl (one_in h).1
theorem raise_valid {l : List Per} {b : ByteArray} {r : Int} (h : 0 ≤ atP l b) (hr : inB r 0 2 = true) : rosB (setR l b r) = true := by
  obtain ⟨h1, h2, h3, h4⟩ := at_one h
  exact ros_set h1 h3 rfl hr
end Go.Proofs.Ytdhjfbnlkecggaa.Mini
end
