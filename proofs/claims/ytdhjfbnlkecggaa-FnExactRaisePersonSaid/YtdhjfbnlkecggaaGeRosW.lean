/- Parts of the proof: RosW. -/
import Derived.Test.YtdhjfbnlkecggaaGeRosP
import Derived.Test.YtdhjfbnlkecggaaGeHp
import Derived.Test.YtdhjfbnlkecggaaGeHelp
section
namespace Go.Proofs.Ytdhjfbnlkecggaa.Mini
open Go Go.RowKit
set_option linter.unusedVariables false
set_option linter.unusedSimpArgs false
set_option maxRecDepth 20000
def okP (p : Per) : Prop := p.w.size ≤ maxLen ∧ inK .i64 p.r
def kP : List Kd := [.str, .int .i64, .bool]
theorem wf_person {f : Nat} {a b c : D} (ha : wfK Try.prog (f + 1) .str a) (hb : wfK Try.prog (f + 1) (.int .i64) b) (hc : wfK Try.prog (f + 1) .bool c) : ∃ p : Per, [a, b, c] = perD p ∧ okP p := by
  obtain ⟨w, rfl, hw⟩ := ha
  obtain ⟨r, rfl, hr⟩ := hb
  obtain ⟨m, rfl⟩ := hc
  exact ⟨⟨w, r, m⟩, rfl, hw, wf_i64 hr⟩
theorem pers_of {f : Nat} : ∀ (n : Nat) (cs : List D), cs.length = n * 3 → (∀ (j : Nat) (x : D), cs[j]? = some x → ∃ k, kP[j % 3]? = some k ∧ wfK Try.prog (f + 1) k x) → ∃ l, cs = rosD l ∧ l.length = n ∧ ∀ p ∈ l, okP p
  | 0, cs, h, _ => ⟨[], List.eq_nil_of_length_eq_zero (by omega), rfl, by simp⟩
  | n + 1, cs, h, hw => by
    match cs, h, hw with
    | a :: b :: c :: r, h, hw =>
      have get : ∀ (j : Nat) (k : Kd) (x : D), kP[j % 3]? = some k → (a :: b :: c :: r)[j]? = some x → wfK Try.prog (f + 1) k x := fun j k x hk hx => by
        obtain ⟨k', g1, g2⟩ := hw j x hx
        rw [hk] at g1; injection g1 with g1; subst g1; exact g2
      obtain ⟨p, e1, e2⟩ := wf_person (get 0 .str a rfl rfl) (get 1 (.int .i64) b rfl rfl) (get 2 .bool c rfl rfl)
      obtain ⟨l, g1, g2, g3⟩ := pers_of n r (by simp only [List.length_cons] at h; omega) (fun j x hx => by
        obtain ⟨k, k1, k2⟩ := hw (j + 3) x (by simpa using hx)
        exact ⟨k, by rw [Nat.add_mod_right] at k1; exact k1, k2⟩)
      refine ⟨p :: l, ?_, by simp [g2], fun x hx => ?_⟩
      · show [a, b, c] ++ r = perD p ++ rosD l
        rw [e1, g1]
      · rcases List.mem_cons.mp hx with rfl | hx
        · exact e2
        · exact g3 x hx
    | [], h, _ => simp at h
    | [_], h, _ => simp at h; omega
    | [_, _], h, _ => simp at h; omega
theorem wf_roster {f : Nat} {d : D} (h : wfK Try.prog (f + 2) (.list 56) d) : ∃ l, d = .list 56 l.length (rosD l) ∧ l.length ≤ maxLen ∧ ∀ p ∈ l, okP p := by
  obtain ⟨n, cs, ks, e, h1, h2, h3, h4⟩ := h
  have hk : ks = kP := by
    have : ksOf Try.prog 56 = some kP := by kernel_rfl
    rw [this] at h2; injection h2 with h2; exact h2.symm
  subst hk
  obtain ⟨l, e1, e2, e3⟩ := pers_of (f := f) n cs h3 h4
  exact ⟨l, by rw [e, e1, ← e2], by omega, e3⟩
theorem okC_ros {l : List Per} (h : ∀ p ∈ l, okP p) : okC [.str, .int .i64, .bool] l.length (rosD l) := by
  refine ⟨by rw [rosD_len]; rfl, fun j x hx => ?_⟩
  have hj := (List.getElem?_eq_some_iff.mp hx).1
  rw [rosD_len] at hj
  obtain ⟨p, p1, p2⟩ := ros_get (l := l) (i := j / 3) (by omega)
  obtain ⟨c0, c1, c2⟩ := ros_cell p1
  have hm : j % 3 = 0 ∨ j % 3 = 1 ∨ j % 3 = 2 := by omega
  show ∃ k, [Kd.str, .int .i64, .bool][j % 3]? = some k ∧ okD k x
  rcases hm with hm | hm | hm
  · rw [hm]
    rw [show j = j / 3 * 3 by omega, c0] at hx
    injection hx with hx
    exact ⟨.str, rfl, p.w, hx.symm, (h p p2).1⟩
  · rw [hm]
    rw [show j = j / 3 * 3 + 1 by omega, c1] at hx
    injection hx with hx
    exact ⟨.int .i64, rfl, p.r, hx.symm, (h p p2).2⟩
  · rw [hm]
    rw [show j = j / 3 * 3 + 1 + 1 by omega, c2] at hx
    injection hx with hx
    exact ⟨.bool, rfl, p.m, hx.symm⟩
theorem smR_of {l : List Per} {a : Int} (ha : a ≤ 1048576) (h1 : (l.length : Int) ≤ a) (h2 : small (rosD l) (a - l.length)) : smR l := by
  refine ⟨by omega, fun p hp => ?_⟩
  obtain ⟨j, hj, rfl⟩ := List.getElem_of_mem hp
  have := h2 _ _ (ros_cell (List.getElem?_eq_getElem hj)).1
  omega
end Go.Proofs.Ytdhjfbnlkecggaa.Mini
end
