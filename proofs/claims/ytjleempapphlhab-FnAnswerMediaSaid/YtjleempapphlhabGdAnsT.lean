/- Parts of the proof: AnsD, AnsT. -/
import Derived.Test.YtjleempapphlhabGdOffDP
import Derived.Test.YtjleempapphlhabGdSAnsP
section
namespace Go.Proofs.Ytjleempapphlhab.Mini
open Go Go.RowKit
set_option linter.unusedVariables false
set_option linter.unusedSimpArgs false
set_option maxRecDepth 20000
noncomputable def s_dam : Sig := sigF Try.f9 (bytesD 5) (fun xs ys => ∃ m w : Med, ys = medD m ++ medD w ∧ drM m ∧ drM w)
noncomputable def s_dao : Sig := sigF Try.f21 (bytesD 5) (fun xs ys => ∃ l o : List Med, ys = [.list 25 l.length (offD l), .list 25 o.length (offD o)] ∧ l.length ≤ 10 ∧ o.length ≤ 10 ∧ (∀ m ∈ l, drM m) ∧ ∀ m ∈ o, drM m)
noncomputable def s_daf : Sig := sigF Try.f31 (bytesD 5) (fun xs ys => ∃ l o : List Med, ys = [.list 25 l.length (offD l), .list 25 o.length (offD o)] ∧ l.length ≤ 10 ∧ o.length ≤ 10 ∧ (∀ m ∈ l, drM m) ∧ ∀ m ∈ o, drM m)
noncomputable def F_dam : Tb := tab [(33, s_dopen), (34, s_dmedia)]
theorem F_dam_dopen : F_dam 33 = some s_dopen := rfl
theorem F_dam_dmedia : F_dam 34 = some s_dmedia := rfl
noncomputable def hs_dam : Hds := []
set_option maxHeartbeats 4000000 in
theorem t_dam (a0n : Nat) (a0 : List D) : fnT' Try.prog F_dam hs_dam .fz Try.f9 [.list 5 a0n a0] = (Tree.call 33 [(D.list 5 a0n a0)] (fun y199 => (Tree.call 34 [(D.list 0 (0 : Nat) (selL y199 0)), (D.int .i64 (12 : Int))] (fun y198 => (Tree.call 34 [(D.list 0 (0 : Nat) (selL y198 0)), (D.int .i64 (12 : Int))] (fun y197 => (Tree.ret [(D.str (selS y198 1)), (D.int .i64 (selI y198 2)), (D.bool (selB y198 3)), (D.bool (selB y198 4)), (D.list 9 (selN y198 5) (selL y198 5)), (D.str (selS y197 1)), (D.int .i64 (selI y197 2)), (D.bool (selB y197 3)), (D.bool (selB y197 4)), (D.list 9 (selN y197 5) (selL y197 5))]))))))) := by kernel_rfl
noncomputable def F_dao : Tb := tab [(33, s_dopen), (49, s_doffer)]
theorem F_dao_dopen : F_dao 33 = some s_dopen := rfl
theorem F_dao_doffer : F_dao 49 = some s_doffer := rfl
noncomputable def hs_dao : Hds := []
set_option maxHeartbeats 4000000 in
theorem t_dao (a0n : Nat) (a0 : List D) : fnT' Try.prog F_dao hs_dao .fz Try.f21 [.list 5 a0n a0] = (Tree.call 33 [(D.list 5 a0n a0)] (fun y199 => (Tree.call 49 [(D.list 0 (0 : Nat) (selL y199 0)), (D.int .i64 (12 : Int))] (fun y198 => (Tree.call 49 [(D.list 0 (0 : Nat) (selL y198 0)), (D.int .i64 (12 : Int))] (fun y197 => (Tree.ret [(D.list 25 (selN y198 1) (selL y198 1)), (D.list 25 (selN y197 1) (selL y197 1))]))))))) := by kernel_rfl
noncomputable def F_daf : Tb := tab [(33, s_dopen), (49, s_doffer), (53, s_dpick), (24, s_sanso)]
theorem F_daf_dopen : F_daf 33 = some s_dopen := rfl
theorem F_daf_doffer : F_daf 49 = some s_doffer := rfl
theorem F_daf_dpick : F_daf 53 = some s_dpick := rfl
theorem F_daf_sanso : F_daf 24 = some s_sanso := rfl
noncomputable def hs_daf : Hds := []
set_option maxHeartbeats 4000000 in
theorem t_daf (a0n : Nat) (a0 : List D) : fnT' Try.prog F_daf hs_daf .fz Try.f31 [.list 5 a0n a0] = (Tree.call 33 [(D.list 5 a0n a0)] (fun y199 => (Tree.call 49 [(D.list 0 (0 : Nat) (selL y199 0)), (D.int .i64 (14 : Int))] (fun y198 => (Tree.call 49 [(D.list 0 (0 : Nat) (selL y198 0)), (D.int .i64 (14 : Int))] (fun y197 => (Tree.call 53 [(D.list 0 (0 : Nat) (selL y197 0)), (D.int .i64 (3 : Int))] (fun y196 => (Tree.ite (ltI (0 : Int) (selI y196 1)) (Tree.call 24 [(D.list 25 (selN y198 1) (selL y198 1)), (D.list 25 (selN y197 1) (selL y197 1))] (fun y194 => (Tree.ret [(D.list 25 (selN y198 1) (selL y198 1)), (D.list 25 (selN y194 0) (selL y194 0))]))) (Tree.ret [(D.list 25 (selN y198 1) (selL y198 1)), (D.list 25 (selN y197 1) (selL y197 1))])))))))))) := by kernel_rfl
end Go.Proofs.Ytjleempapphlhab.Mini
end
section
namespace Go.Proofs.Ytjleempapphlhab.Mini
open Go Go.RowKit
set_option linter.unusedVariables false
set_option linter.unusedSimpArgs false
set_option maxRecDepth 20000
/-- The first ones of so many are used. -/
def usedU (n k : Nat) : List Bool := (List.range n).map fun i => decide (i < k)
theorem usedU_len (n k : Nat) : (usedU n k).length = n := by simp [usedU]
theorem usedU_at {n k i : Nat} (h : i < n) : (usedU n k)[i]? = some (decide (i < k)) := by
  unfold usedU
  rw [List.getElem?_map, List.getElem?_range h]
  rfl
theorem usedU_zero (l : List Med) : (l.map fun _ => false) = usedU l.length 0 := by
  apply List.ext_getElem?
  intro i
  by_cases h : i < l.length
  · rw [usedU_at h, List.getElem?_map, List.getElem?_eq_getElem h]; simp
  · rw [List.getElem?_eq_none (by simpa using h), List.getElem?_eq_none (by rw [usedU_len]; omega)]
theorem usedU_set {n k : Nat} (h : k < n) : (usedU n k).set k true = usedU n (k + 1) := by
  apply List.ext_getElem?
  intro i
  by_cases hi : i < n
  · rw [List.getElem?_set, usedU_at hi, usedU_at hi]
    by_cases e : k = i
    · subst e; rw [if_pos rfl, if_pos (by rw [usedU_len]; exact h)]; simp
    · rw [if_neg e]; congr 1; rw [decide_eq_decide]; omega
  · rw [List.getElem?_eq_none (by rw [List.length_set, usedU_len]; omega), List.getElem?_eq_none (by rw [usedU_len]; omega)]
/-- Every kind comes once. -/
def onceK (l : List Med) : Prop := ∀ (i j : Nat) (m m' : Med), i < j → l[i]? = some m → l[j]? = some m' → m.k ≠ m'.k
theorem ansL_self {l : List Med} (hd : onceK l) : ∀ (q k : Nat), k + q = l.length → ansL l (l.drop k) (usedU l.length k) = (l.drop k).map fun o => ansM o o
  | 0, k, h => by rw [List.drop_of_length_le (by omega)]; rfl
  | q + 1, k, h => by
    have hk : k < l.length := by omega
    have hm : l[k]? = some l[k] := List.getElem?_eq_getElem hk
    rw [List.drop_eq_getElem_cons hk, ansL_cons, findU_self (k := l[k].k) hm rfl (by rw [usedU_at hk]; simp) (fun i m' hi hm' => .inr (hd i k m' l[k] hi hm' hm)) (usedU_len _ _)]
    show ansM l[k] (l.getD k zeroMd) :: ansL l (l.drop (k + 1)) ((usedU l.length k).set k true) = _
    rw [usedU_set hk, ansL_self hd q (k + 1) (by omega), List.getD_eq_getElem?_getD, hm]
    rfl
theorem okA_self {m : Med} (hv : medB m = true) : okA m m = (m.p != 0) := by
  have h5 := (med_iff.mp hv).2.2.2.1
  unfold okA
  rw [comS_self, sameK_iff.mpr rfl, show (m.c.length != 0) = true from bne_iff_ne.mpr (by omega)]
  cases (m.p != 0) <;> rfl
theorem ansM_self {m : Med} (hv : medB m = true) : (ansM m m).p = 0 ↔ m.p = 0 := by
  unfold ansM
  rw [if_pos (by rw [hv]; rfl), okA_self hv]
  by_cases h : m.p = 0
  · rw [if_neg (by simp [h])]; simp [refM, h]
  · rw [if_pos (by simpa using h)]
/-- P13: an offer is answered by itself with the same media refused, if every kind comes once. -/
theorem ansO_self {l : List Med} (hv : offB l = true) (hd : onceK l) : ansO l l = l.map fun o => ansM o o := by
  unfold ansO
  rw [if_pos (by rw [hv]; rfl), usedU_zero]
  have := ansL_self hd l.length 0 (by omega)
  rwa [List.drop_zero] at this
theorem ansO_len {l o : List Med} : (ansO l o).length ≤ l.length := by
  unfold ansO
  split
  · rw [ansL_len]; exact Nat.le_refl _
  · simp
theorem ansL_each {Q : Med → Prop} {own : List Med} (h1 : ∀ o w, Q o → (Q w ∨ w = zeroMd) → Q (ansM o w)) (h2 : ∀ o, Q o → Q (refM o)) (hw : ∀ m ∈ own, Q m) : ∀ (l : List Med) (u : List Bool), (∀ m ∈ l, Q m) → ∀ m ∈ ansL own l u, Q m
  | [], u, _, m, hm => by simp [ansL] at hm
  | o :: l, u, h, m, hm => by
    have ho := h o (by simp)
    have hl : ∀ m ∈ l, Q m := fun m hm => h m (by simp [hm])
    rw [ansL_cons] at hm
    split at hm
    · rename_i j hj
      rcases List.mem_cons.mp hm with rfl | hm
      · obtain ⟨w, q1, _⟩ := findU_lt hj
        have e : own.getD j zeroMd = w := by rw [List.getD_eq_getElem?_getD, q1]; rfl
        rw [e]
        exact h1 o w ho (.inl (hw w (List.mem_of_getElem? q1)))
      · exact ansL_each h1 h2 hw l _ hl m hm
    · rcases List.mem_cons.mp hm with rfl | hm
      · exact h1 o _ ho (.inl (h2 o ho))
      · exact ansL_each h1 h2 hw l _ hl m hm
theorem ansO_each {Q : Med → Prop} {l own : List Med} (h1 : ∀ o w, Q o → (Q w ∨ w = zeroMd) → Q (ansM o w)) (h2 : ∀ o, Q o → Q (refM o)) (hl : ∀ m ∈ l, Q m) (hw : ∀ m ∈ own, Q m) : ∀ m ∈ ansO l own, Q m := by
  intro m hm
  unfold ansO at hm
  split at hm
  · exact ansL_each h1 h2 hw l _ hl m hm
  · simp at hm
theorem sm_ref {o : Med} (h : smM o) : smM (refM o) := ⟨h.1, h.2.1, h.2.2⟩
theorem sm_zero : smM zeroMd := ⟨by decide, by simp [zeroMd], by simp [zeroMd]⟩
theorem sm_ans {o w : Med} (h : smM o) : smM (ansM o w) := by
  unfold ansM
  split
  · split
    · have := comS_len o.c w.c
      exact ⟨h.1, by show (comS o.c w.c).length ≤ _; have := h.2.1; omega, fun x hx => h.2.2 x (List.mem_filter.mp hx).1⟩
    · exact sm_ref h
  · exact sm_zero
theorem sm_ansO {l own : List Med} (hl : ∀ m ∈ l, smM m) (hw : ∀ m ∈ own, smM m) : ∀ m ∈ ansO l own, smM m := ansO_each (fun o w h _ => sm_ans h) (fun o h => sm_ref h) hl hw
end Go.Proofs.Ytjleempapphlhab.Mini
end
