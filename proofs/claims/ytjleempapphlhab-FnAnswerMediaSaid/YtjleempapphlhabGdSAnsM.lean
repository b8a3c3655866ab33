/- Parts of the proof: SAnsM. -/
import Derived.Test.YtjleempapphlhabGdSAns
section
namespace Go.Proofs.Ytjleempapphlhab.Mini
open Go Go.RowKit
set_option linter.unusedVariables false
set_option linter.unusedSimpArgs false
set_option maxRecDepth 20000
theorem has_mem {b : List ByteArray} {x : ByteArray} : hasB b x = true ↔ x ∈ b := by
  unfold hasB
  rw [List.any_eq_true]
  constructor
  · rintro ⟨y, hy, e⟩
    rw [← text_eq (beq_iff_eq.mp e)]; exact hy
  · exact fun h => ⟨x, h, beq_self_eq_true _⟩
theorem sameK_iff {x y : ByteArray} : sameK x y = true ↔ x = y := by
  unfold sameK
  rw [beq_iff_eq]
  exact ⟨text_eq, fun h => by rw [h]⟩
theorem comS_self (a : List ByteArray) : comS a a = a := List.filter_eq_self.mpr fun x hx => has_mem.mpr hx
theorem comS_in (a b : List ByteArray) : comS (comS a b) a = comS a b := List.filter_eq_self.mpr fun x hx => has_mem.mpr (List.mem_filter.mp hx).1
theorem comS_len (a b : List ByteArray) : (comS a b).length ≤ a.length := List.length_filter_le _ _
theorem dist_com {a b : List ByteArray} (h : distB a = true) : distB (comS a b) = true := by
  unfold distB at h ⊢
  exact decide_eq_true ((of_decide_eq_true h).sublist (List.filter_sublist.map _))
theorem med_iff {m : Med} : medB m = true ↔ ((∀ x ∈ m.c, wordS x = true) ∧ distB m.c = true) ∧ wordS m.k = true ∧ (0 ≤ m.p ∧ m.p ≤ 65535) ∧ 1 ≤ m.c.length ∧ m.c.length ≤ 4 := by
  unfold medB
  simp only [Bool.and_eq_true, List.all_eq_true, inB_iff]
  constructor
  · rintro ⟨h1, h2, h3, h4⟩
    exact ⟨h1, h2, h3, by omega, by omega⟩
  · rintro ⟨h1, h2, h3, h4, h5⟩
    exact ⟨h1, h2, h3, by omega, by omega⟩
theorem okA_parts {o w : Med} (h : okA o w = true) : o.k = w.k ∧ o.p ≠ 0 ∧ w.p ≠ 0 ∧ (comS o.c w.c).length ≠ 0 := by
  unfold okA at h
  simp only [Bool.and_eq_true, bne_iff_ne, sameK_iff] at h
  exact ⟨h.1.1, h.1.2, h.2.1, h.2.2⟩
theorem ref_valid {o : Med} (h : medB o = true) : medB (refM o) = true := by
  rw [med_iff] at h ⊢
  exact ⟨h.1, h.2.1, by simp [refM], h.2.2.2⟩
theorem ans_valid {o w : Med} (ho : medB o = true) (hw : medB w = true) : medB (ansM o w) = true := by
  unfold ansM
  rw [if_pos (by rw [ho, hw]; rfl)]
  split
  · rename_i hok
    obtain ⟨_, _, _, h4⟩ := okA_parts hok
    obtain ⟨⟨a1, a2⟩, a3, _, _, a5⟩ := med_iff.mp ho
    obtain ⟨_, _, b4, _⟩ := med_iff.mp hw
    have := comS_len o.c w.c
    exact med_iff.mpr ⟨⟨fun x hx => a1 x (List.mem_filter.mp hx).1, dist_com a2⟩, a3, b4, by show 1 ≤ (comS o.c w.c).length; omega, by show (comS o.c w.c).length ≤ 4; omega⟩
  · exact ref_valid ho
theorem fit_ref (o : Med) : fit1 o (refM o) = true := by
  unfold fit1 refM
  simp [sameK]
theorem fit_ans {o w : Med} (ho : medB o = true) (hw : medB w = true) : fit1 o (ansM o w) = true := by
  unfold ansM
  rw [if_pos (by rw [ho, hw]; rfl)]
  split
  · rename_i hok
    obtain ⟨_, h2, _, _⟩ := okA_parts hok
    unfold fit1
    simp only [comS_in, sameK, beq_self_eq_true, Bool.true_and, Nat.le_refl, decide_true, Bool.and_true]
    rw [show (o.p != 0) = true from bne_iff_ne.mpr h2]
    cases o.h <;> cases o.s <;> simp
  · exact fit_ref o
theorem findU_lt {k : ByteArray} : ∀ {own : List Med} {u : List Bool} {j : Nat}, findU k own u = some j → ∃ m, own[j]? = some m ∧ u[j]? = some false ∧ m.k = k
  | [], _, j, h => by simp [findU] at h
  | m :: l, [], j, h => by simp [findU] at h
  | m :: l, b :: us, j, h => by
    unfold findU at h
    split at h
    · rename_i hc
      injection h with h
      subst h
      simp only [Bool.and_eq_true, Bool.not_eq_true', sameK_iff] at hc
      exact ⟨m, rfl, by rw [hc.1]; rfl, hc.2⟩
    · obtain ⟨i, hi, rfl⟩ := Option.map_eq_some_iff.mp h
      obtain ⟨m', q1, q2, q3⟩ := findU_lt hi
      exact ⟨m', by simpa using q1, by simpa using q2, q3⟩
theorem ansL_len {own : List Med} : ∀ (l : List Med) (u : List Bool), (ansL own l u).length = l.length
  | [], _ => rfl
  | o :: l, u => by
    unfold ansL
    split <;> simp [ansL_len l]
theorem ansL_all {own : List Med} (hw : ∀ m ∈ own, medB m = true) : ∀ (l : List Med) (u : List Bool), (∀ m ∈ l, medB m = true) → (∀ m ∈ ansL own l u, medB m = true) ∧ fitL l (ansL own l u) = true
  | [], u, _ => ⟨fun m hm => by simp [ansL] at hm, rfl⟩
  | o :: l, u, h => by
    have ho := h o (by simp)
    have hl : ∀ m ∈ l, medB m = true := fun m hm => h m (by simp [hm])
    unfold ansL
    split
    · rename_i j hj
      obtain ⟨m, q1, _⟩ := findU_lt hj
      have e : own.getD j zeroMd = m := by rw [List.getD_eq_getElem?_getD, q1]; rfl
      have hm := hw m (List.mem_of_getElem? q1)
      rw [e]
      obtain ⟨r1, r2⟩ := ansL_all hw l (u.set j true) hl
      refine ⟨fun x hx => ?_, ?_⟩
      · rcases List.mem_cons.mp hx with rfl | hx
        · exact ans_valid ho hm
        · exact r1 x hx
      · show (fit1 o (ansM o m) && fitL l _) = true
        rw [fit_ans ho hm, r2]; rfl
    · obtain ⟨r1, r2⟩ := ansL_all hw l u hl
      refine ⟨fun x hx => ?_, ?_⟩
      · rcases List.mem_cons.mp hx with rfl | hx
        · exact ans_valid ho (ref_valid ho)
        · exact r1 x hx
      · show (fit1 o (ansM o (refM o)) && fitL l _) = true
        rw [fit_ans ho (ref_valid ho), r2]; rfl
theorem off_of {l : List Med} (h : ∀ m ∈ l, medB m = true) (h4 : l.length ≤ 4) : offB l = true := by
  unfold offB
  rw [Bool.and_eq_true, List.all_eq_true, decide_eq_true_eq]
  exact ⟨h, h4⟩
/-- P13: answers fit. -/
theorem fitO_ans {l own : List Med} (hl : offB l = true) (ho : offB own = true) : offB (ansO l own) = true ∧ fitO l (ansO l own) = true := by
  obtain ⟨l1, l2⟩ := off_parts hl
  obtain ⟨o1, o2⟩ := off_parts ho
  unfold ansO
  rw [if_pos (by rw [hl, ho]; rfl)]
  obtain ⟨r1, r2⟩ := ansL_all o1 l (own.map fun _ => false) l1
  have hlen := ansL_len (own := own) l (own.map fun _ => false)
  have hv := off_of r1 (by omega)
  refine ⟨hv, ?_⟩
  unfold fitO
  rw [hl, hv, hlen, r2]
  simp
/-- P12. -/
theorem fitO_one {o w : Med} (ho : medB o = true) (hw : medB w = true) : fitO [o] [ansM o w] = true := by
  have h1 : offB [o] = true := off_of (by simpa using ho) (by simp)
  have h2 : offB [ansM o w] = true := off_of (by simpa using ans_valid ho hw) (by simp)
  unfold fitO
  rw [h1, h2]
  simp [fitL, fit_ans ho hw]
theorem fit_both {o : Med} : fit1 ⟨o.k, o.p, true, true, o.c⟩ ⟨o.k, o.p, true, true, o.c⟩ = true := by
  unfold fit1
  simp only [comS_self, sameK, beq_self_eq_true, Nat.le_refl, decide_true]
  by_cases h : o.p = 0 <;> simp [h]
theorem findU_self {k : ByteArray} : ∀ {own : List Med} {u : List Bool} {j : Nat} {m : Med}, own[j]? = some m → m.k = k → u[j]? = some false → (∀ i m', i < j → own[i]? = some m' → u[i]? = some true ∨ m'.k ≠ k) → u.length = own.length → findU k own u = some j
  | [], _, j, m, h, _, _, _, _ => by simp at h
  | x :: l, [], j, m, h, hk, hu, hn, he => by simp at he
  | x :: l, b :: us, 0, m, h, hk, hu, hn, he => by
    simp at h hu
    subst h; subst hu
    unfold findU
    rw [if_pos (by simp [sameK_iff.mpr hk])]
  | x :: l, b :: us, j + 1, m, h, hk, hu, hn, he => by
    have h0 := hn 0 x (by omega) rfl
    unfold findU
    rw [if_neg ?_, findU_self (own := l) (u := us) (j := j) (m := m) (by simpa using h) hk (by simpa using hu) (fun i m' hi hm => by simpa using hn (i + 1) m' (by omega) (by simpa using hm)) (by simpa using he)]
    · rfl
    · intro hc
      simp only [Bool.and_eq_true, Bool.not_eq_true', sameK_iff] at hc
      rcases h0 with h0 | h0
      · simp at h0; rw [h0] at hc; cases hc.1
      · exact h0 hc.2
end Go.Proofs.Ytjleempapphlhab.Mini
end
