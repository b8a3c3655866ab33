/- Parts of the proof: Hx. -/
import Derived.Test.YtdhjfbnlkecggaaGeBase
import Derived.Test.YtdhjfbnlkecggaaGeMark
section
namespace Go.Proofs.Ytdhjfbnlkecggaa.Mini
open Go Go.RowKit
set_option linter.unusedVariables false
set_option linter.unusedSimpArgs false
set_option maxRecDepth 20000
/-- A cell of a kind. -/
def okD : Kd → D → Prop
  | .int k, d => ∃ n : Int, d = .int k n ∧ inK k n
  | .bool, d => ∃ b, d = .bool b
  | .str, d => ∃ s : ByteArray, d = .str s ∧ s.size ≤ maxLen
  | .list _, _ => False
/-- So many elements, each with cells of these kinds. -/
def okC (ks : List Kd) (n : Nat) (cs : List D) : Prop := cs.length = n * ks.length ∧ ∀ (j : Nat) (x : D), cs[j]? = some x → ∃ k, ks[j % ks.length]? = some k ∧ okD k x
def mkD : Kd → Nat → D
  | .int k, m => .int k m
  | .bool, m => .bool ((m : Int).tmod 3 == 0)
  | .str, m => .str (mtxt m)
  | .list t, _ => .list t 0 []
/-- So many marks, from a number on. -/
def mks (ks : List Kd) (k p : Nat) : List D := (List.range p).map fun i => mkD (ks.getD (i % ks.length) .bool) (k + i)
/-- No text is longer. -/
def small (cs : List D) (m : Int) : Prop := ∀ (j : Nat) (s : ByteArray), cs[j]? = some (.str s) → (s.size : Int) ≤ m
/-- What is left of a size. -/
def szOut (n : Nat) (cs : List D) (a : Int) (ys : List D) : Prop := ∃ r : Int, ys = [.int .i64 r] ∧ -1 ≤ r ∧ r ≤ a ∧ (0 ≤ r → (n : Int) ≤ a ∧ small cs (a - n))
def scK : Kd → Bool
  | .list _ => false
  | _ => true
noncomputable def s_marktext : Sig := sig Try.f42 (fun xs => 1 ≤ selI xs 0 ∧ selI xs 0 < 1000000000000000) (fun xs ys => ys = [.str (mtxt (selI xs 0).toNat)])
theorem okC.lt {ks : List Kd} {n : Nat} {cs : List D} {i j : Nat} (h : okC ks n cs) (hi : i < n) (hj : j < ks.length) : i * ks.length + j < cs.length := by
  have h1 : (i + 1) * ks.length ≤ n * ks.length := Nat.mul_le_mul_right _ hi
  rw [Nat.add_mul, Nat.one_mul] at h1
  have := h.1
  omega
theorem okC.get {ks : List Kd} {n : Nat} {cs : List D} {i j : Nat} {k : Kd} (h : okC ks n cs) (hi : i < n) (hk : ks[j]? = some k) : ∃ x, cs[i * ks.length + j]? = some x ∧ okD k x := by
  have hj : j < ks.length := (List.getElem?_eq_some_iff.mp hk).1
  have hb := h.lt hi hj
  obtain ⟨k', h1, h2⟩ := h.2 _ _ (List.getElem?_eq_getElem hb)
  have e : (i * ks.length + j) % ks.length = j := by rw [Nat.mul_comm, Nat.mul_add_mod, Nat.mod_eq_of_lt hj]
  rw [e, hk] at h1
  injection h1 with h1
  subst h1
  exact ⟨_, List.getElem?_eq_getElem hb, h2⟩
theorem okD_scal {k : Kd} {d : D} (h : okD k d) : d.scalar = true := by
  cases k with
  | int => obtain ⟨n, rfl, _⟩ := h; rfl
  | bool => obtain ⟨b, rfl⟩ := h; rfl
  | str => obtain ⟨s, rfl, _⟩ := h; rfl
  | list => exact h.elim
theorem okC.scal {ks : List Kd} {n : Nat} {cs : List D} (h : okC ks n cs) : scal cs := by
  intro d hd
  obtain ⟨j, hj, rfl⟩ := List.getElem_of_mem hd
  obtain ⟨k, _, h2⟩ := h.2 j cs[j] (List.getElem?_eq_getElem hj)
  exact okD_scal h2
theorem sel_kint (ds : List D) (j : Nat) (k : IntKind) : sel ds j (.int k) = .int k (selI ds j) := rfl
theorem sel_kbool (ds : List D) (j : Nat) : sel ds j .bool = .bool (selB ds j) := rfl
theorem sel_kstr (ds : List D) (j : Nat) : sel ds j .str = .str (selS ds j) := rfl
/-- Cells put in their places, one behind the other. -/
theorem copy_put {cs zs ls : List D} {p : Nat} (h : cs.length = zs.length) (hp : p + ls.length ≤ cs.length) (hl : ∀ j, j < ls.length → cs[p + j]? = ls[j]?) : setL (cs.take p ++ zs.drop p) p ls = cs.take (p + ls.length) ++ zs.drop (p + ls.length) := by
  have h1 : (cs.take p).length = p := by rw [List.length_take]; omega
  have h2 : ls = (cs.drop p).take ls.length := by
    apply List.ext_getElem?
    intro j
    by_cases hj : j < ls.length
    · rw [List.getElem?_take_of_lt hj, List.getElem?_drop, hl j hj]
    · rw [List.getElem?_eq_none (by omega), List.getElem?_eq_none (by rw [List.length_take]; omega)]
  unfold setL
  rw [List.take_append_of_le_length (by omega), List.take_of_length_le (by omega)]
  rw [List.drop_append, List.drop_of_length_le (by omega), h1, List.nil_append, List.drop_drop]
  rw [show p + (p + ls.length - p) = p + ls.length by omega, List.take_add]
  rw [← h2]
theorem mks_len (ks : List Kd) (k p : Nat) : (mks ks k p).length = p := by simp [mks]
theorem mks_at {ks : List Kd} {k p i : Nat} (h : i < p) : (mks ks k p)[i]? = some (mkD (ks.getD (i % ks.length) .bool) (k + i)) := by simp [mks, h]
theorem mks_get {ks : List Kd} {k n i j : Nat} {kd : Kd} (hi : i < n) (hk : ks[j]? = some kd) : (mks ks k (n * ks.length))[i * ks.length + j]? = some (mkD kd (k + (i * ks.length + j))) := by
  have hj : j < ks.length := (List.getElem?_eq_some_iff.mp hk).1
  have h1 : (i + 1) * ks.length ≤ n * ks.length := Nat.mul_le_mul_right _ hi
  rw [Nat.add_mul, Nat.one_mul] at h1
  rw [mks_at (by omega)]
  have e : (i * ks.length + j) % ks.length = j := by rw [Nat.mul_comm, Nat.mul_add_mod, Nat.mod_eq_of_lt hj]
  rw [e, List.getD_eq_getElem?_getD, hk]
  rfl
theorem mks_succ (ks : List Kd) (k p : Nat) : mks ks k (p + 1) = mks ks k p ++ [mkD (ks.getD (p % ks.length) .bool) (k + p)] := by simp [mks, List.range_succ]
theorem mks_put {ks : List Kd} {k i j p : Nat} {cs : List D} {kd : Kd} {d : D} (hp : p = i * ks.length + j) (hk : ks[j]? = some kd) (hl : p < cs.length) (hd : d = mkD kd (k + p)) : setL (mks ks k p ++ cs.drop p) p [d] = mks ks k (p + 1) ++ cs.drop (p + 1) := by
  have hj : j < ks.length := (List.getElem?_eq_some_iff.mp hk).1
  have e : p % ks.length = j := by rw [hp, Nat.mul_comm, Nat.mul_add_mod, Nat.mod_eq_of_lt hj]
  have h1 := mks_len ks k p
  rw [mks_succ, e, List.getD_eq_getElem?_getD, hk]
  unfold setL
  rw [List.take_append_of_le_length (by omega), List.take_of_length_le (by omega)]
  rw [List.drop_append, List.drop_of_length_le (by omega), h1, List.nil_append, List.drop_drop]
  rw [show p + (p + [d].length - p) = p + 1 by simp, hd]
  rfl
theorem mks_room {ks : List Kd} {k p q : Nat} {cs : List D} (hq : q ≤ cs.length) (hp : p ≤ cs.length) : q ≤ (mks ks k p ++ cs.drop p).length := by
  rw [List.length_append, mks_len, List.length_drop]; omega
theorem mks_scal {ks : List Kd} (h : ks.all scK = true) (k p : Nat) : scal (mks ks k p) := by
  intro d hd
  unfold mks at hd
  obtain ⟨i, hi, rfl⟩ := List.mem_map.mp hd
  have : scK (ks.getD (i % ks.length) .bool) = true := by
    rw [List.getD_eq_getElem?_getD]
    cases hx : ks[i % ks.length]? with
    | none => rfl
    | some x => exact List.all_eq_true.mp h x (List.mem_of_getElem? hx)
  revert this
  cases ks.getD (i % ks.length) .bool <;> intro h <;> first | rfl | cases h
theorem ok_marktext : FnOk Try.prog 42 s_marktext := by
  refine ok_of_calls (fn := Try.f42) (ks := [.int .i64]) (rk := [.str]) rfl rfl rfl (by kernel_rfl) (by kernel_rfl) rfl rfl ?_
  intro w xs hf hp
  obtain ⟨n0, rfl⟩ := fits_i hf
  have h1 : 1 ≤ n0 := hp.1
  have h2 : n0 < 1000000000000000 := hp.2
  rw [show (valsOf Try.prog Try.f42.params.toList [.int .i64 n0]).toArray = #[.int .i64 n0] by kernel_rfl]
  refine (mark_int n0 n0.toNat w (by omega) (by omega) (by omega)).mono ?_
  rintro e w' ⟨rfl, hb⟩
  exact ⟨[.str (mtxt n0.toNat)], by rw [show wrapVal (valsOf Try.prog Try.f42.resultTypes.toList [.str (mtxt n0.toNat)]) = .string (mtxt n0.toNat) by kernel_rfl], rfl, rfl, hb⟩
end Go.Proofs.Ytdhjfbnlkecggaa.Mini
end
