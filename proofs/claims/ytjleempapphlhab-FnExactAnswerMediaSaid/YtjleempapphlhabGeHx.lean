/- Parts of the proof: Hx. -/
import Derived.Test.YtjleempapphlhabGeBase
import Derived.Test.YtjleempapphlhabGeMark
section
namespace Go.Proofs.Ytjleempapphlhab.Mini
open Go Go.RowKit
set_option linter.unusedVariables false
set_option linter.unusedSimpArgs false
set_option maxRecDepth 20000
/-- A cell of a kind. -/
def okD : Kd → D → Prop
  | .int k, d => ∃ n : Int, d = .int k n ∧ inK k n
  | .bool, d => ∃ b, d = .bool b
  | .str, d => ∃ s : ByteArray, d = .str s ∧ s.size ≤ maxLen
  | .list _, _ => False
/-- So many elements, each with cells of these kinds. -/
def okC (ks : List Kd) (n : Nat) (cs : List D) : Prop := cs.length = n * ks.length ∧ ∀ (j : Nat) (x : D), cs[j]? = some x → ∃ k, ks[j % ks.length]? = some k ∧ okD k x
def mkD : Kd → Nat → D
  | .int k, m => .int k m
  | .bool, m => .bool ((m : Int).tmod 3 == 0)
  | .str, m => .str (mtxt m)
  | .list t, _ => .list t 0 []
/-- So many marks, from a number on. -/
def mks (ks : List Kd) (k p : Nat) : List D := (List.range p).map fun i => mkD (ks.getD (i % ks.length) .bool) (k + i)
/-- No text is longer. -/
def small (cs : List D) (m : Int) : Prop := ∀ (j : Nat) (s : ByteArray), cs[j]? = some (.str s) → (s.size : Int) ≤ m
/-- What is left of a size. -/
def szOut (n : Nat) (cs : List D) (a : Int) (ys : List D) : Prop := ∃ r : Int, ys = [.int .i64 r] ∧ -1 ≤ r ∧ r ≤ a ∧ (0 ≤ r → (n : Int) ≤ a ∧ small cs (a - n))
def scK : Kd → Bool
  | .list _ => false
  | _ => true
noncomputable def s_marktext : Sig := sig Try.f52 (fun xs => 1 ≤ selI xs 0 ∧ selI xs 0 < 1000000000000000) (fun xs ys => ys = [.str (mtxt (selI xs 0).toNat)])
noncomputable def s_tostr : Sig := sig Try.f45 (fun xs => okC [.str] (selN xs 0) (selL xs 0) ∧ selN xs 0 * 1 ≤ 16000000) (fun xs ys => ys = [.list 9 (selN xs 0) (selL xs 0)])
noncomputable def s_szstr : Sig := sig Try.f44 (fun xs => okC [.str] (selN xs 0) (selL xs 0) ∧ selN xs 0 ≤ maxLen ∧ -1 ≤ selI xs 1 ∧ selI xs 1 ≤ 2147483647) (fun xs ys => szOut (selN xs 0) (selL xs 0) (selI xs 1) ys)
noncomputable def s_eqstr : Sig := sig Try.f46 (fun xs => okC [.str] (selN xs 0) (selL xs 0) ∧ selN xs 0 ≤ maxLen ∧ selN xs 0 = selN xs 1 ∧ selL xs 0 = selL xs 1) (fun xs ys => ys = [.bool true])
noncomputable def s_markstr : Sig := sigW Try.f47 (fun xs => okC [.str] (selN xs 0) (selL xs 0) ∧ 1 ≤ selI xs 1 ∧ selI xs 1 + selN xs 0 * 1 ≤ 900000000000000) (fun xs yz => yz = [.int .i64 (selI xs 1 + (selN xs 0 : Int) * 1), .list 9 (selN xs 0) (mks [.str] (selI xs 1).toNat (selN xs 0 * 1))])
noncomputable def s_heldstr : Sig := sig Try.f48 (fun xs => selL xs 0 = mks [.str] (selI xs 1).toNat (selN xs 0 * 1) ∧ 1 ≤ selI xs 1 ∧ selI xs 1 + selN xs 0 * 1 ≤ 900000000000000) (fun xs ys => ys = [.int .i64 (selI xs 1 + (selN xs 0 : Int) * 1)])
noncomputable def F_tostr : Tb := tab []
noncomputable def hs_tostr : Hds := [([false, true, false, true, true], shapeW Try.f45 0 [(0, .one (.kd (.list 9))), (3, .one (.sl 9 0)), (4, .one (.kd (.int .i64)))] [.sym 9])]
set_option maxHeartbeats 4000000 in
theorem t_tostr (a0n : Nat) (a0 : List D) : fnT' Try.prog F_tostr hs_tostr .own Try.f45 [.list 9 a0n a0] = (Tree.need (all_ [(((Nat.cast a0n : Int) = (Nat.cast a0n : Int)) ∧ (((0 : Int) ≤ (Nat.cast a0n : Int)) ∧ ((((Nat.cast a0n : Int) * (Nat.cast (1 : Nat) : Int)) ≤ (16777216 : Int)) ∧ (((Nat.cast (16 : Nat) : Int) * (Nat.cast a0n : Int)) ≤ (281474976710656 : Int)))))]) (Tree.goto 0 [(D.list 9 a0n a0), (D.int .i64 (Nat.cast (0 : Nat) : Int)), (D.int .i64 (Nat.cast a0n : Int)), (D.int .i64 (0 : Int)), (D.list 9 (0 : Nat) (rep a0n [(D.str (ByteArray.mk (List.toArray [])))]))])) := by kernel_rfl
set_option maxHeartbeats 4000000 in
theorem t_tostr0 (x0n : Nat) (x0 : List D) (x3o x3n : Nat) (x4 : Int) (r0 : List D) : plT' Try.prog F_tostr hs_tostr .own Try.f45 0 [.list 9 x0n x0, .int .i64 (x3o : Nat), .int .i64 (x3n : Nat), .int .i64 x4, .list 9 0 r0] = (Tree.ite (ltI x4 (Nat.cast x0n : Int)) (Tree.need (all_ [(((0 : Int) ≤ x4) ∧ (x4 < (Nat.cast x0n : Int)))]) (Tree.need (all_ [((GetElem?.getElem? x0 ((Int.toNat x4) * (1 : Nat))) = (Option.some (sel x0 ((Int.toNat x4) * (1 : Nat)) Kd.str)))]) (Tree.need (all_ [(((0 : Int) ≤ x4) ∧ (x4 < (Nat.cast x3n : Int)))]) (Tree.need (all_ [((((x3o + (Int.toNat x4)) * (1 : Nat)) + (1 : Nat)) ≤ (List.length r0))]) (Tree.need (all_ [(inK .i64 (x4 + (1 : Int)))]) (Tree.goto 0 [(D.list 9 x0n x0), (D.int .i64 (Nat.cast x3o : Int)), (D.int .i64 (Nat.cast x3n : Int)), (D.int .i64 (x4 + (1 : Int))), (D.list 9 (0 : Nat) (setL r0 ((x3o + (Int.toNat x4)) * (1 : Nat)) [(sel x0 ((Int.toNat x4) * (1 : Nat)) Kd.str)]))])))))) (Tree.need (all_ [(((x3o + x3n) * (1 : Nat)) ≤ (List.length r0)), (scal (List.take (x3n * (1 : Nat)) (List.drop (x3o * (1 : Nat)) r0)))]) (Tree.ret [(D.list 9 x3n (List.take (x3n * (1 : Nat)) (List.drop (x3o * (1 : Nat)) r0)))]))) := by kernel_rfl
noncomputable def F_szstr : Tb := tab []
noncomputable def hs_szstr : Hds := [([false, true, false, true, true, true], shapeW Try.f44 0 [(0, .one (.kd (.list 9))), (1, .one (.kd (.int .i64))), (5, .one (.kd (.int .i64)))] [])]
set_option maxHeartbeats 4000000 in
theorem t_szstr (a0n : Nat) (a0 : List D) (a1 : Int) : fnT' Try.prog F_szstr hs_szstr .own Try.f44 [.list 9 a0n a0, .int IntKind.i64 a1] = (Tree.need (all_ [(inK .i64 (a1 - (Nat.cast a0n : Int)))]) (Tree.ite (ltI (a1 - (Nat.cast a0n : Int)) (0 : Int)) (Tree.ret [(D.int .i64 (-(1 : Int)))]) (Tree.goto 0 [(D.list 9 a0n a0), (D.int .i64 (a1 - (Nat.cast a0n : Int))), (D.int .i64 (0 : Int))]))) := by kernel_rfl
set_option maxHeartbeats 4000000 in
theorem t_szstr0 (x0n : Nat) (x0 : List D) (x1 : Int) (x5 : Int) : plT' Try.prog F_szstr hs_szstr .own Try.f44 0 [.list 9 x0n x0, .int .i64 x1, .int .i64 x5] = (Tree.ite (ltI x5 (Nat.cast x0n : Int)) (Tree.need (all_ [(((0 : Int) ≤ x5) ∧ (x5 < (Nat.cast x0n : Int)))]) (Tree.need (all_ [((GetElem?.getElem? x0 ((Int.toNat x5) * (1 : Nat))) = (Option.some (sel x0 ((Int.toNat x5) * (1 : Nat)) Kd.str)))]) (Tree.need (all_ [(inK .i64 (x1 - (Nat.cast (ByteArray.size (selS x0 ((Int.toNat x5) * (1 : Nat)))) : Int)))]) (Tree.ite (ltI (x1 - (Nat.cast (ByteArray.size (selS x0 ((Int.toNat x5) * (1 : Nat)))) : Int)) (0 : Int)) (Tree.ret [(D.int .i64 (-(1 : Int)))]) (Tree.need (all_ [(inK .i64 (x5 + (1 : Int)))]) (Tree.goto 0 [(D.list 9 x0n x0), (D.int .i64 (x1 - (Nat.cast (ByteArray.size (selS x0 ((Int.toNat x5) * (1 : Nat)))) : Int))), (D.int .i64 (x5 + (1 : Int)))])))))) (Tree.ret [(D.int .i64 x1)])) := by kernel_rfl
noncomputable def F_eqstr : Tb := tab []
noncomputable def hs_eqstr : Hds := [([false, true, false, true, true], shapeW Try.f46 0 [(0, .one (.kd (.list 9))), (1, .one (.kd (.list 9))), (5, .one (.kd (.int .i64)))] [])]
set_option maxHeartbeats 4000000 in
theorem t_eqstr (a0n : Nat) (a0 : List D) (a1n : Nat) (a1 : List D) : fnT' Try.prog F_eqstr hs_eqstr .own Try.f46 [.list 9 a0n a0, .list 9 a1n a1] = (Tree.ite ((Nat.cast a0n : Int) != (Nat.cast a1n : Int)) (Tree.ret [(D.bool false)]) (Tree.goto 0 [(D.list 9 a0n a0), (D.list 9 a1n a1), (D.int .i64 (0 : Int))])) := by kernel_rfl
set_option maxHeartbeats 4000000 in
theorem t_eqstr0 (x0n : Nat) (x0 : List D) (x1n : Nat) (x1 : List D) (x5 : Int) : plT' Try.prog F_eqstr hs_eqstr .own Try.f46 0 [.list 9 x0n x0, .list 9 x1n x1, .int .i64 x5] = (Tree.ite (ltI x5 (Nat.cast x0n : Int)) (Tree.need (all_ [(((0 : Int) ≤ x5) ∧ (x5 < (Nat.cast x0n : Int)))]) (Tree.need (all_ [((GetElem?.getElem? x0 ((Int.toNat x5) * (1 : Nat))) = (Option.some (sel x0 ((Int.toNat x5) * (1 : Nat)) Kd.str)))]) (Tree.need (all_ [(((0 : Int) ≤ x5) ∧ (x5 < (Nat.cast x1n : Int)))]) (Tree.need (all_ [((GetElem?.getElem? x1 ((Int.toNat x5) * (1 : Nat))) = (Option.some (sel x1 ((Int.toNat x5) * (1 : Nat)) Kd.str)))]) (Tree.ite (Bool.not ((ByteArray.toList (selS x0 ((Int.toNat x5) * (1 : Nat)))) == (ByteArray.toList (selS x1 ((Int.toNat x5) * (1 : Nat)))))) (Tree.ret [(D.bool false)]) (Tree.need (all_ [(inK .i64 (x5 + (1 : Int)))]) (Tree.goto 0 [(D.list 9 x0n x0), (D.list 9 x1n x1), (D.int .i64 (x5 + (1 : Int)))]))))))) (Tree.ret [(D.bool true)])) := by kernel_rfl
noncomputable def F_markstr : Tb := tab [(52, s_marktext)]
theorem F_markstr_marktext : F_markstr 52 = some s_marktext := rfl
noncomputable def hs_markstr : Hds := [([false, true, false, true], shapeW Try.f47 1 [(0, .one (.sl 9 0)), (1, .one (.kd (.int .i64))), (5, .one (.kd (.int .i64)))] [.sym 9])]
set_option maxHeartbeats 4000000 in
theorem t_markstr (a0n : Nat) (a0 : List D) (a1 : Int) : fnT' Try.prog F_markstr hs_markstr .wr Try.f47 [.list 9 a0n a0, .int IntKind.i64 a1] = (Tree.goto 0 [(D.int .i64 (Nat.cast (0 : Nat) : Int)), (D.int .i64 (Nat.cast a0n : Int)), (D.int .i64 a1), (D.int .i64 (0 : Int)), (D.list 9 (0 : Nat) a0)]) := by kernel_rfl
set_option maxHeartbeats 4000000 in
theorem t_markstr0 (x0o x0n : Nat) (x1 : Int) (x5 : Int) (r0 : List D) : plT' Try.prog F_markstr hs_markstr .wr Try.f47 0 [.int .i64 (x0o : Nat), .int .i64 (x0n : Nat), .int .i64 x1, .int .i64 x5, .list 9 0 r0] = (Tree.ite (ltI x5 (Nat.cast x0n : Int)) (Tree.call 52 [(D.int .i64 x1)] (fun y198 => (Tree.need (all_ [(((0 : Int) ≤ x5) ∧ (x5 < (Nat.cast x0n : Int)))]) (Tree.need (all_ [((((x0o + (Int.toNat x5)) * (1 : Nat)) + (1 : Nat)) ≤ (List.length r0))]) (Tree.need (all_ [(inK .i64 (x1 + (1 : Int)))]) (Tree.need (all_ [(inK .i64 (x5 + (1 : Int)))]) (Tree.goto 0 [(D.int .i64 (Nat.cast x0o : Int)), (D.int .i64 (Nat.cast x0n : Int)), (D.int .i64 (x1 + (1 : Int))), (D.int .i64 (x5 + (1 : Int))), (D.list 9 (0 : Nat) (setL r0 ((x0o + (Int.toNat x5)) * (1 : Nat)) [(sel y198 (0 : Nat) Kd.str)]))]))))))) (Tree.need (all_ [(((List.length r0) = (((List.length r0) / (1 : Nat)) * (1 : Nat))) ∧ (scal r0))]) (Tree.ret [(D.int .i64 x1), (D.list 9 ((List.length r0) / (1 : Nat)) r0)]))) := by kernel_rfl
noncomputable def F_heldstr : Tb := tab [(52, s_marktext)]
theorem F_heldstr_marktext : F_heldstr 52 = some s_marktext := rfl
noncomputable def hs_heldstr : Hds := [([false, true, false, true], shapeW Try.f48 0 [(0, .one (.kd (.list 9))), (1, .one (.kd (.int .i64))), (5, .one (.kd (.int .i64)))] [])]
set_option maxHeartbeats 4000000 in
theorem t_heldstr (a0n : Nat) (a0 : List D) (a1 : Int) : fnT' Try.prog F_heldstr hs_heldstr .own Try.f48 [.list 9 a0n a0, .int IntKind.i64 a1] = (Tree.goto 0 [(D.list 9 a0n a0), (D.int .i64 a1), (D.int .i64 (0 : Int))]) := by kernel_rfl
set_option maxHeartbeats 4000000 in
theorem t_heldstr0 (x0n : Nat) (x0 : List D) (x1 : Int) (x5 : Int) : plT' Try.prog F_heldstr hs_heldstr .own Try.f48 0 [.list 9 x0n x0, .int .i64 x1, .int .i64 x5] = (Tree.ite (ltI x5 (Nat.cast x0n : Int)) (Tree.need (all_ [(((0 : Int) ≤ x5) ∧ (x5 < (Nat.cast x0n : Int)))]) (Tree.need (all_ [((GetElem?.getElem? x0 ((Int.toNat x5) * (1 : Nat))) = (Option.some (sel x0 ((Int.toNat x5) * (1 : Nat)) Kd.str)))]) (Tree.call 52 [(D.int .i64 x1)] (fun y196 => (Tree.ite (Bool.not ((ByteArray.toList (selS x0 ((Int.toNat x5) * (1 : Nat)))) == (ByteArray.toList (selS y196 0)))) (Tree.ret [(D.int .i64 (-(1 : Int)))]) (Tree.need (all_ [(inK .i64 (x1 + (1 : Int)))]) (Tree.need (all_ [(inK .i64 (x5 + (1 : Int)))]) (Tree.goto 0 [(D.list 9 x0n x0), (D.int .i64 (x1 + (1 : Int))), (D.int .i64 (x5 + (1 : Int)))])))))))) (Tree.ret [(D.int .i64 x1)])) := by kernel_rfl
theorem okC.lt {ks : List Kd} {n : Nat} {cs : List D} {i j : Nat} (h : okC ks n cs) (hi : i < n) (hj : j < ks.length) : i * ks.length + j < cs.length := by
  have h1 : (i + 1) * ks.length ≤ n * ks.length := Nat.mul_le_mul_right _ hi
  rw [Nat.add_mul, Nat.one_mul] at h1
  have := h.1
  omega
theorem okC.get {ks : List Kd} {n : Nat} {cs : List D} {i j : Nat} {k : Kd} (h : okC ks n cs) (hi : i < n) (hk : ks[j]? = some k) : ∃ x, cs[i * ks.length + j]? = some x ∧ okD k x := by
  have hj : j < ks.length := (List.getElem?_eq_some_iff.mp hk).1
  have hb := h.lt hi hj
  obtain ⟨k', h1, h2⟩ := h.2 _ _ (List.getElem?_eq_getElem hb)
  have e : (i * ks.length + j) % ks.length = j := by rw [Nat.mul_comm, Nat.mul_add_mod, Nat.mod_eq_of_lt hj]
  rw [e, hk] at h1
  injection h1 with h1
  subst h1
  exact ⟨_, List.getElem?_eq_getElem hb, h2⟩
theorem okD_scal {k : Kd} {d : D} (h : okD k d) : d.scalar = true := by
  cases k with
  | int => obtain ⟨n, rfl, _⟩ := h; rfl
  | bool => obtain ⟨b, rfl⟩ := h; rfl
  | str => obtain ⟨s, rfl, _⟩ := h; rfl
  | list => exact h.elim
theorem okC.scal {ks : List Kd} {n : Nat} {cs : List D} (h : okC ks n cs) : scal cs := by
  intro d hd
  obtain ⟨j, hj, rfl⟩ := List.getElem_of_mem hd
  obtain ⟨k, _, h2⟩ := h.2 j cs[j] (List.getElem?_eq_getElem hj)
  exact okD_scal h2
theorem sel_kint (ds : List D) (j : Nat) (k : IntKind) : sel ds j (.int k) = .int k (selI ds j) := rfl
theorem sel_kbool (ds : List D) (j : Nat) : sel ds j .bool = .bool (selB ds j) := rfl
theorem sel_kstr (ds : List D) (j : Nat) : sel ds j .str = .str (selS ds j) := rfl
/-- Cells put in their places, one behind the other. -/
theorem copy_put {cs zs ls : List D} {p : Nat} (h : cs.length = zs.length) (hp : p + ls.length ≤ cs.length) (hl : ∀ j, j < ls.length → cs[p + j]? = ls[j]?) : setL (cs.take p ++ zs.drop p) p ls = cs.take (p + ls.length) ++ zs.drop (p + ls.length) := by
  have h1 : (cs.take p).length = p := by rw [List.length_take]; omega
  have h2 : ls = (cs.drop p).take ls.length := by
    apply List.ext_getElem?
    intro j
    by_cases hj : j < ls.length
    · rw [List.getElem?_take_of_lt hj, List.getElem?_drop, hl j hj]
    · rw [List.getElem?_eq_none (by omega), List.getElem?_eq_none (by rw [List.length_take]; omega)]
  unfold setL
  rw [List.take_append_of_le_length (by omega), List.take_of_length_le (by omega)]
  rw [List.drop_append, List.drop_of_length_le (by omega), h1, List.nil_append, List.drop_drop]
  rw [show p + (p + ls.length - p) = p + ls.length by omega, List.take_add]
  rw [← h2]
theorem mks_len (ks : List Kd) (k p : Nat) : (mks ks k p).length = p := by simp [mks]
theorem mks_at {ks : List Kd} {k p i : Nat} (h : i < p) : (mks ks k p)[i]? = some (mkD (ks.getD (i % ks.length) .bool) (k + i)) := by simp [mks, h]
theorem mks_get {ks : List Kd} {k n i j : Nat} {kd : Kd} (hi : i < n) (hk : ks[j]? = some kd) : (mks ks k (n * ks.length))[i * ks.length + j]? = some (mkD kd (k + (i * ks.length + j))) := by
  have hj : j < ks.length := (List.getElem?_eq_some_iff.mp hk).1
  have h1 : (i + 1) * ks.length ≤ n * ks.length := Nat.mul_le_mul_right _ hi
  rw [Nat.add_mul, Nat.one_mul] at h1
  rw [mks_at (by omega)]
  have e : (i * ks.length + j) % ks.length = j := by rw [Nat.mul_comm, Nat.mul_add_mod, Nat.mod_eq_of_lt hj]
  rw [e, List.getD_eq_getElem?_getD, hk]
  rfl
theorem mks_succ (ks : List Kd) (k p : Nat) : mks ks k (p + 1) = mks ks k p ++ [mkD (ks.getD (p % ks.length) .bool) (k + p)] := by simp [mks, List.range_succ]
theorem mks_put {ks : List Kd} {k i j p : Nat} {cs : List D} {kd : Kd} {d : D} (hp : p = i * ks.length + j) (hk : ks[j]? = some kd) (hl : p < cs.length) (hd : d = mkD kd (k + p)) : setL (mks ks k p ++ cs.drop p) p [d] = mks ks k (p + 1) ++ cs.drop (p + 1) := by
  have hj : j < ks.length := (List.getElem?_eq_some_iff.mp hk).1
  have e : p % ks.length = j := by rw [hp, Nat.mul_comm, Nat.mul_add_mod, Nat.mod_eq_of_lt hj]
  have h1 := mks_len ks k p
  rw [mks_succ, e, List.getD_eq_getElem?_getD, hk]
  unfold setL
  rw [List.take_append_of_le_length (by omega), List.take_of_length_le (by omega)]
  rw [List.drop_append, List.drop_of_length_le (by omega), h1, List.nil_append, List.drop_drop]
  rw [show p + (p + [d].length - p) = p + 1 by simp, hd]
  rfl
theorem mks_scal {ks : List Kd} (h : ks.all scK = true) (k p : Nat) : scal (mks ks k p) := by
  intro d hd
  unfold mks at hd
  obtain ⟨i, hi, rfl⟩ := List.mem_map.mp hd
  have : scK (ks.getD (i % ks.length) .bool) = true := by
    rw [List.getD_eq_getElem?_getD]
    cases hx : ks[i % ks.length]? with
    | none => rfl
    | some x => exact List.all_eq_true.mp h x (List.mem_of_getElem? hx)
  revert this
  cases ks.getD (i % ks.length) .bool <;> intro h <;> first | rfl | cases h
theorem ok_marktext : FnOk Try.prog 52 s_marktext := by
  refine ok_of_calls (fn := Try.f52) (ks := [.int .i64]) (rk := [.str]) rfl rfl rfl (by kernel_rfl) (by kernel_rfl) rfl rfl ?_
  intro w xs hf hp
  obtain ⟨n0, rfl⟩ := fits_i hf
  have h1 : 1 ≤ n0 := hp.1
  have h2 : n0 < 1000000000000000 := hp.2
  rw [show (valsOf Try.prog Try.f52.params.toList [.int .i64 n0]).toArray = #[.int .i64 n0] by kernel_rfl]
  refine (mark_int n0 n0.toNat w (by omega) (by omega) (by omega)).mono ?_
  rintro e w' ⟨rfl, hb⟩
  exact ⟨[.str (mtxt n0.toNat)], by rw [show wrapVal (valsOf Try.prog Try.f52.resultTypes.toList [.str (mtxt n0.toNat)]) = .string (mtxt n0.toNat) by kernel_rfl], rfl, rfl, hb⟩
theorem ok_tostr : FnOk Try.prog 45 s_tostr := by
  refine fnOk (fn := Try.f45) (F := F_tostr) (hs := hs_tostr) tab_nil mixed rfl rfl rfl [.list 9] (by kernel_rfl) (by simp) ?_
  rintro n cs ⟨hc, hn⟩
  have hc : okC [.str] n cs := hc
  have hn : n * 1 ≤ 16000000 := hn
  have hl : cs.length = n := by have := hc.1; simpa using this
  refine ⟨fun h ys => h = 0 ∧ ∃ i : Nat, ys = [.list 9 n cs, .int .i64 (0 : Nat), .int .i64 n, .int .i64 i, .list 9 0 (cs.take i ++ (rep n [.str ⟨#[]⟩]).drop i)] ∧ i ≤ n, fun h ys => n - (selI ys 3).toNat, ?_, ?_⟩
  · rw [t_tostr]
    simp only [Tree.holds, ltI_t, ltI_f, leI_t, leI_f, all_cons, all_nil, and_true, true_and, forall_eq, decide_eq_true_eq, decide_eq_false_iff_not, beq_iff_eq, beq_eq_false_iff_ne, bne_iff_ne, bne_eq_false_iff_eq, ne_eq, Decidable.not_not, selI_z, selB_z, selS_z, selN_z, selL_z, selI_s, selB_s, selS_s, selN_s, selL_s, Int.toNat_natCast, Nat.mul_one, Nat.zero_add, Nat.div_one, List.drop_zero, Nat.zero_mul, Nat.le_refl, Bool.not_eq_true', Bool.not_eq_false', Bool.false_eq_true, Bool.true_eq_false, not_true_eq_false, not_false_eq_true, false_imp_iff, true_imp_iff, if_true, if_false, sig, sigF, sigW, sigR, sigO, sigD, sigWD, List.map_cons, List.map_nil]
    exact ⟨⟨by omega, by omega, by omega⟩, 0, by simp, by omega⟩
  · rintro h ys ⟨rfl, i, rfl, hi⟩
    rw [t_tostr0]
    simp only [Tree.holds, ltI_t, ltI_f, leI_t, leI_f, all_cons, all_nil, and_true, true_and, forall_eq, decide_eq_true_eq, decide_eq_false_iff_not, beq_iff_eq, beq_eq_false_iff_ne, bne_iff_ne, bne_eq_false_iff_eq, ne_eq, Decidable.not_not, selI_z, selB_z, selS_z, selN_z, selL_z, selI_s, selB_s, selS_s, selN_s, selL_s, Int.toNat_natCast, Nat.mul_one, Nat.zero_add, Nat.div_one, List.drop_zero, Nat.zero_mul, Nat.le_refl, Bool.not_eq_true', Bool.not_eq_false', Bool.false_eq_true, Bool.true_eq_false, not_true_eq_false, not_false_eq_true, false_imp_iff, true_imp_iff, if_true, if_false, sig, sigF, sigW, sigR, sigO, sigD, sigWD, List.map_cons, List.map_nil, sel_kstr]
    have hz : (rep n [D.str ⟨#[]⟩]).length = n := by rw [rep_len]; simp
    have hlen : (cs.take i ++ (rep n [D.str ⟨#[]⟩]).drop i).length = n := by rw [List.length_append, List.length_take, List.length_drop]; omega
    refine ⟨fun hj => ?_, fun hj => ?_⟩
    · obtain ⟨x, x1, s, rfl, x2⟩ := hc.get (i := i) (j := 0) (k := .str) (by omega) rfl
      have x1 : cs[i]? = some (.str s) := by simpa using x1
      rw [selS_of x1]
      refine ⟨⟨by omega, by omega⟩, x1, ⟨by omega, by omega⟩, by omega, by unfold inK; omega, ⟨i + 1, ?_, by omega⟩, by omega⟩
      rw [copy_put (by omega) (by simp; omega) (fun j hj => by
        have : j = 0 := by simpa using hj
        subst this
        simpa using x1)]
      rfl
    · obtain rfl : i = n := by omega
      have e : cs.take i ++ (rep i [D.str ⟨#[]⟩]).drop i = cs := by rw [List.drop_of_length_le (by omega), List.append_nil, List.take_of_length_le (by omega)]
      rw [e]
      have e2 : cs.take i = cs := List.take_of_length_le (by omega)
      rw [e2]
      exact ⟨⟨by omega, hc.scal⟩, rfl⟩
theorem ok_szstr : FnOk Try.prog 44 s_szstr := by
  refine fnOk (fn := Try.f44) (F := F_szstr) (hs := hs_szstr) tab_nil mixed rfl rfl rfl [.list 9, .int .i64] (by kernel_rfl) (by simp) ?_
  rintro n cs a ⟨hc, hn, h0, h1⟩
  have hc : okC [.str] n cs := hc
  have hn : n ≤ maxLen := hn
  have h0 : -1 ≤ a := h0
  have h1 : a ≤ 2147483647 := h1
  unfold maxLen at hn
  refine ⟨fun h ys => h = 0 ∧ ∃ (i : Nat) (r : Int), ys = [.list 9 n cs, .int .i64 r, .int .i64 i] ∧ i ≤ n ∧ 0 ≤ r ∧ r ≤ a - n ∧ (n : Int) ≤ a ∧ (∀ (j : Nat) (s : ByteArray), j < i → cs[j]? = some (.str s) → (s.size : Int) ≤ a - n), fun h ys => n - (selI ys 2).toNat, ?_, ?_⟩
  · rw [t_szstr]
    simp only [Tree.holds, ltI_t, ltI_f, leI_t, leI_f, all_cons, all_nil, and_true, true_and, forall_eq, decide_eq_true_eq, decide_eq_false_iff_not, beq_iff_eq, beq_eq_false_iff_ne, bne_iff_ne, bne_eq_false_iff_eq, ne_eq, Decidable.not_not, selI_z, selB_z, selS_z, selN_z, selL_z, selI_s, selB_s, selS_s, selN_s, selL_s, Int.toNat_natCast, Nat.mul_one, Nat.zero_add, Nat.div_one, List.drop_zero, Nat.zero_mul, Nat.le_refl, Bool.not_eq_true', Bool.not_eq_false', Bool.false_eq_true, Bool.true_eq_false, not_true_eq_false, not_false_eq_true, false_imp_iff, true_imp_iff, if_true, if_false, sig, sigF, sigW, sigR, sigO, sigD, sigWD, List.map_cons, List.map_nil]
    refine ⟨by unfold inK; omega, fun h => ⟨-1, rfl, by omega, by omega, fun h => by omega⟩, fun h => ⟨0, a - n, rfl, by omega, by omega, by omega, by omega, fun j s hj => by omega⟩⟩
  · rintro h ys ⟨rfl, i, r, rfl, hi, r0, r1, r2, r3⟩
    rw [t_szstr0]
    simp only [Tree.holds, ltI_t, ltI_f, leI_t, leI_f, all_cons, all_nil, and_true, true_and, forall_eq, decide_eq_true_eq, decide_eq_false_iff_not, beq_iff_eq, beq_eq_false_iff_ne, bne_iff_ne, bne_eq_false_iff_eq, ne_eq, Decidable.not_not, selI_z, selB_z, selS_z, selN_z, selL_z, selI_s, selB_s, selS_s, selN_s, selL_s, Int.toNat_natCast, Nat.mul_one, Nat.zero_add, Nat.div_one, List.drop_zero, Nat.zero_mul, Nat.le_refl, Bool.not_eq_true', Bool.not_eq_false', Bool.false_eq_true, Bool.true_eq_false, not_true_eq_false, not_false_eq_true, false_imp_iff, true_imp_iff, if_true, if_false, sig, sigF, sigW, sigR, sigO, sigD, sigWD, List.map_cons, List.map_nil, sel_kstr]
    refine ⟨fun hj => ?_, fun hj => ⟨r, rfl, by omega, by omega, fun _ => ⟨by omega, fun j s hs => r3 j s (by
      have := (List.getElem?_eq_some_iff.mp hs).1
      have := hc.1
      simp at this
      omega) hs⟩⟩⟩
    obtain ⟨x, x1, s, rfl, x2⟩ := hc.get (i := i) (j := 0) (k := .str) (by omega) rfl
    have x1 : cs[i]? = some (.str s) := by simpa using x1
    unfold maxLen at x2
    rw [selS_of x1]
    refine ⟨⟨by omega, by omega⟩, x1, by unfold inK; omega, fun h => ⟨-1, rfl, by omega, by omega, fun h => by omega⟩, fun h => ⟨by unfold inK; omega, ⟨i + 1, r - s.size, rfl, by omega, by omega, by omega, by omega, fun j s' hj hs => ?_⟩, by omega⟩⟩
    by_cases hjk : j = i
    · rw [hjk, x1] at hs
      injection hs with hs; injection hs with hs
      rw [← hs]; omega
    · exact r3 j s' (by omega) hs
theorem ok_eqstr : FnOk Try.prog 46 s_eqstr := by
  refine fnOk (fn := Try.f46) (F := F_eqstr) (hs := hs_eqstr) tab_nil mixed rfl rfl rfl [.list 9, .list 9] (by kernel_rfl) (by simp) ?_
  rintro n cs n' cs' ⟨hc, hn, e1, e2⟩
  have f1 : n = n' := e1
  have f2 : cs = cs' := e2
  clear e1 e2
  subst f1
  subst f2
  have hc : okC [.str] n cs := hc
  have hn : n ≤ maxLen := hn
  unfold maxLen at hn
  refine ⟨fun h ys => h = 0 ∧ ∃ i : Nat, ys = [.list 9 n cs, .list 9 n cs, .int .i64 i] ∧ i ≤ n, fun h ys => n - (selI ys 2).toNat, ?_, ?_⟩
  · rw [t_eqstr]
    simp only [Tree.holds, ltI_t, ltI_f, leI_t, leI_f, all_cons, all_nil, and_true, true_and, forall_eq, decide_eq_true_eq, decide_eq_false_iff_not, beq_iff_eq, beq_eq_false_iff_ne, bne_iff_ne, bne_eq_false_iff_eq, ne_eq, Decidable.not_not, selI_z, selB_z, selS_z, selN_z, selL_z, selI_s, selB_s, selS_s, selN_s, selL_s, Int.toNat_natCast, Nat.mul_one, Nat.zero_add, Nat.div_one, List.drop_zero, Nat.zero_mul, Nat.le_refl, Bool.not_eq_true', Bool.not_eq_false', Bool.false_eq_true, Bool.true_eq_false, not_true_eq_false, not_false_eq_true, false_imp_iff, true_imp_iff, if_true, if_false, sig, sigF, sigW, sigR, sigO, sigD, sigWD, List.map_cons, List.map_nil]
    exact ⟨0, rfl, by omega⟩
  · rintro h ys ⟨rfl, i, rfl, hi⟩
    rw [t_eqstr0]
    simp only [Tree.holds, ltI_t, ltI_f, leI_t, leI_f, all_cons, all_nil, and_true, true_and, forall_eq, decide_eq_true_eq, decide_eq_false_iff_not, beq_iff_eq, beq_eq_false_iff_ne, bne_iff_ne, bne_eq_false_iff_eq, ne_eq, Decidable.not_not, selI_z, selB_z, selS_z, selN_z, selL_z, selI_s, selB_s, selS_s, selN_s, selL_s, Int.toNat_natCast, Nat.mul_one, Nat.zero_add, Nat.div_one, List.drop_zero, Nat.zero_mul, Nat.le_refl, Bool.not_eq_true', Bool.not_eq_false', Bool.false_eq_true, Bool.true_eq_false, not_true_eq_false, not_false_eq_true, false_imp_iff, true_imp_iff, if_true, if_false, sig, sigF, sigW, sigR, sigO, sigD, sigWD, List.map_cons, List.map_nil, sel_kstr]
    refine ⟨fun hj => ?_, fun hj => trivial⟩
    obtain ⟨x, x1, s, rfl, x2⟩ := hc.get (i := i) (j := 0) (k := .str) (by omega) rfl
    have x1 : cs[i]? = some (.str s) := by simpa using x1
    rw [selS_of x1]
    exact ⟨⟨by omega, by omega⟩, x1, ⟨by omega, by omega⟩, x1, by unfold inK; omega, ⟨i + 1, rfl, by omega⟩, by omega⟩
theorem ok_markstr : FnOk Try.prog 47 s_markstr := by
  refine fnOkW (fn := Try.f47) (F := F_markstr) (hs := hs_markstr) (tab_cons ok_marktext tab_nil) mixed rfl rfl rfl [.list 9, .int .i64] [.int .i64] (by kernel_rfl) (by kernel_rfl) (by simp [hs_markstr, shapeW, lists]) ?_
  rintro n cs k ⟨hc, hk, hk2⟩
  have hc : okC [.str] n cs := hc
  have hk : 1 ≤ k := hk
  have hk2 : k + n * 1 ≤ 900000000000000 := hk2
  have hl : cs.length = n := by have := hc.1; simpa using this
  obtain ⟨k, rfl⟩ : ∃ m : Nat, k = m := ⟨k.toNat, by omega⟩
  refine ⟨?_, fun h ys => h = 0 ∧ ∃ i : Nat, ys = [.int .i64 (0 : Nat), .int .i64 n, .int .i64 (k + (i * 1 : Nat) : Int), .int .i64 i, .list 9 0 (mks [.str] k (i * 1) ++ cs.drop (i * 1))] ∧ i ≤ n, fun h ys => n - (selI ys 3).toNat, ?_, ?_⟩
  · intro yz h
    rw [h]
    exact ⟨rfl, trivial⟩
  · rw [t_markstr]
    simp only [F_markstr_marktext, s_marktext, Tree.holds, ltI_t, ltI_f, leI_t, leI_f, all_cons, all_nil, and_true, true_and, forall_eq, decide_eq_true_eq, decide_eq_false_iff_not, beq_iff_eq, beq_eq_false_iff_ne, bne_iff_ne, bne_eq_false_iff_eq, ne_eq, Decidable.not_not, selI_z, selB_z, selS_z, selN_z, selL_z, selI_s, selB_s, selS_s, selN_s, selL_s, Int.toNat_natCast, Nat.mul_one, Nat.zero_add, Nat.div_one, List.drop_zero, Nat.zero_mul, Nat.le_refl, Bool.not_eq_true', Bool.not_eq_false', Bool.false_eq_true, Bool.true_eq_false, not_true_eq_false, not_false_eq_true, false_imp_iff, true_imp_iff, if_true, if_false, sig, sigF, sigW, sigR, sigO, sigD, sigWD, List.map_cons, List.map_nil]
    exact ⟨0, by simp [mks], by omega⟩
  · rintro h ys ⟨rfl, i, rfl, hi⟩
    rw [t_markstr0]
    simp only [F_markstr_marktext, s_marktext, Tree.holds, ltI_t, ltI_f, leI_t, leI_f, all_cons, all_nil, and_true, true_and, forall_eq, decide_eq_true_eq, decide_eq_false_iff_not, beq_iff_eq, beq_eq_false_iff_ne, bne_iff_ne, bne_eq_false_iff_eq, ne_eq, Decidable.not_not, selI_z, selB_z, selS_z, selN_z, selL_z, selI_s, selB_s, selS_s, selN_s, selL_s, Int.toNat_natCast, Nat.mul_one, Nat.zero_add, Nat.div_one, List.drop_zero, Nat.zero_mul, Nat.le_refl, Bool.not_eq_true', Bool.not_eq_false', Bool.false_eq_true, Bool.true_eq_false, not_true_eq_false, not_false_eq_true, false_imp_iff, true_imp_iff, if_true, if_false, sig, sigF, sigW, sigR, sigO, sigD, sigWD, List.map_cons, List.map_nil, sel_kstr]
    have hlen : (mks [.str] k i ++ cs.drop i).length = n := by rw [List.length_append, mks_len, List.length_drop]; omega
    refine ⟨fun hj => ⟨⟨by omega, by omega⟩, ⟨by omega, by omega⟩, by omega, by unfold inK; omega, by unfold inK; omega, ⟨i + 1, ?_, by omega⟩, by omega⟩, fun hj => ?_⟩
    · rw [mks_put (i := i) (j := 0) (kd := .str) (by simp) rfl (by omega) (by show D.str (mtxt _) = .str (mtxt _); congr 2)]
      simp
      omega
    · obtain rfl : i = n := by omega
      rw [List.drop_of_length_le (by omega), List.append_nil]
      exact ⟨mks_scal rfl _ _, by rw [mks_len]; simp⟩
theorem ok_heldstr : FnOk Try.prog 48 s_heldstr := by
  refine fnOk (fn := Try.f48) (F := F_heldstr) (hs := hs_heldstr) (tab_cons ok_marktext tab_nil) mixed rfl rfl rfl [.list 9, .int .i64] (by kernel_rfl) (by simp) ?_
  rintro n cs k ⟨hc, hk, hk2⟩
  have hc : cs = mks [.str] k.toNat (n * 1) := hc
  have hk : 1 ≤ k := hk
  have hk2 : k + n * 1 ≤ 900000000000000 := hk2
  obtain ⟨k, rfl⟩ : ∃ m : Nat, k = m := ⟨k.toNat, by omega⟩
  have hc : cs = mks [.str] k (n * 1) := hc
  refine ⟨fun h ys => h = 0 ∧ ∃ i : Nat, ys = [.list 9 n cs, .int .i64 (k + (i * 1 : Nat) : Int), .int .i64 i] ∧ i ≤ n, fun h ys => n - (selI ys 2).toNat, ?_, ?_⟩
  · rw [t_heldstr]
    simp only [F_heldstr_marktext, s_marktext, Tree.holds, ltI_t, ltI_f, leI_t, leI_f, all_cons, all_nil, and_true, true_and, forall_eq, decide_eq_true_eq, decide_eq_false_iff_not, beq_iff_eq, beq_eq_false_iff_ne, bne_iff_ne, bne_eq_false_iff_eq, ne_eq, Decidable.not_not, selI_z, selB_z, selS_z, selN_z, selL_z, selI_s, selB_s, selS_s, selN_s, selL_s, Int.toNat_natCast, Nat.mul_one, Nat.zero_add, Nat.div_one, List.drop_zero, Nat.zero_mul, Nat.le_refl, Bool.not_eq_true', Bool.not_eq_false', Bool.false_eq_true, Bool.true_eq_false, not_true_eq_false, not_false_eq_true, false_imp_iff, true_imp_iff, if_true, if_false, sig, sigF, sigW, sigR, sigO, sigD, sigWD, List.map_cons, List.map_nil]
    exact ⟨0, by simp, by omega⟩
  · rintro h ys ⟨rfl, i, rfl, hi⟩
    rw [t_heldstr0]
    simp only [F_heldstr_marktext, s_marktext, Tree.holds, ltI_t, ltI_f, leI_t, leI_f, all_cons, all_nil, and_true, true_and, forall_eq, decide_eq_true_eq, decide_eq_false_iff_not, beq_iff_eq, beq_eq_false_iff_ne, bne_iff_ne, bne_eq_false_iff_eq, ne_eq, Decidable.not_not, selI_z, selB_z, selS_z, selN_z, selL_z, selI_s, selB_s, selS_s, selN_s, selL_s, Int.toNat_natCast, Nat.mul_one, Nat.zero_add, Nat.div_one, List.drop_zero, Nat.zero_mul, Nat.le_refl, Bool.not_eq_true', Bool.not_eq_false', Bool.false_eq_true, Bool.true_eq_false, not_true_eq_false, not_false_eq_true, false_imp_iff, true_imp_iff, if_true, if_false, sig, sigF, sigW, sigR, sigO, sigD, sigWD, List.map_cons, List.map_nil, sel_kstr]
    refine ⟨fun hj => ?_, fun hj => by rw [show i = n by omega]; simp⟩
    have x0 := mks_get (ks := [.str]) (k := k) (n := n) (i := i) (j := 0) (kd := .str) (by omega) rfl
    have x1 : cs[i]? = some (.str (mtxt (k + i))) := by rw [hc]; simpa [mkD] using x0
    rw [selS_of x1]
    refine ⟨⟨by omega, by omega⟩, x1, ⟨by omega, by omega⟩, fun h => ?_, fun h => ⟨by unfold inK; omega, by unfold inK; omega, ⟨i + 1, by simp; omega, by omega⟩, by omega⟩⟩
    exfalso
    apply h
    congr 2
end Go.Proofs.Ytjleempapphlhab.Mini
end
