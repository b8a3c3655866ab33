/- Parts of the proof: RwP, Tx. -/
import Derived.Test.YtjleempapphlhabGdRdP
import Derived.Test.YtjleempapphlhabGdHx
import Derived.Test.YtjleempapphlhabGdPlain
section
namespace Go.Proofs.Ytjleempapphlhab.Mini
open Go Go.RowKit
set_option linter.unusedVariables false
set_option linter.unusedSimpArgs false
set_option maxRecDepth 20000
/-- A reader comes in. -/
theorem rd_split {t n : Nat} {r l : List D} {c : Int} (h : rdIn (.list t n r :: l) c) : ∃ (L : D) (p : Int), r = rdL L p ∧ bytesOk L ∧ 0 ≤ p ∧ p + c ≤ 1000000 := h
end Go.Proofs.Ytjleempapphlhab.Mini
end
section
namespace Go.Proofs.Ytjleempapphlhab.Mini
open Go Go.RowKit
set_option linter.unusedVariables false
set_option linter.unusedSimpArgs false
set_option maxRecDepth 20000
def textsD (ls : List ByteArray) : List D := ls.map .str
def unS (l : List D) : List ByteArray := l.map fun d => match d with | .str s => s | _ => ⟨#[]⟩
def wordS (s : ByteArray) : Bool := wordB s.data.toList
def distB (l : List ByteArray) : Bool := decide (l.map fun x => x.data.toList).Nodup
def hasT (l : List ByteArray) (w : ByteArray) : Bool := l.any fun x => x.data.toList == w.data.toList
def sameB (a b : List ByteArray) : Bool := decide (a = b)
/-- How far a loop within a loop still is from its end. -/
def mu2 (n h i j : Nat) : Nat := if h = 0 then (n - i) * 10000000 else (n - i) * 10000000 - 1 - j
noncomputable def s_samet : Sig := sig Try.f38 (fun xs => ∃ a b : List ByteArray, xs = [.list 9 a.length (textsD a), .list 9 b.length (textsD b)] ∧ a.length ≤ 1048576) (fun xs ys => ys = [.bool (sameB (unS (selL xs 0)) (unS (selL xs 1)))])
noncomputable def F_samet : Tb := tab []
noncomputable def hs_samet : Hds := [([false, true, false, true, true], shapeW Try.f38 0 [(0, .one (.kd (.list 9))), (1, .one (.kd (.list 9))), (5, .one (.kd (.int .i64)))] [])]
set_option maxHeartbeats 4000000 in
theorem t_samet (a0n : Nat) (a0 : List D) (a1n : Nat) (a1 : List D) : fnT' Try.prog F_samet hs_samet .own Try.f38 [.list 9 a0n a0, .list 9 a1n a1] = (Tree.ite ((Nat.cast a0n : Int) != (Nat.cast a1n : Int)) (Tree.ret [(D.bool false)]) (Tree.goto 0 [(D.list 9 a0n a0), (D.list 9 a1n a1), (D.int .i64 (0 : Int))])) := by kernel_rfl
set_option maxHeartbeats 4000000 in
theorem t_samet0 (x0n : Nat) (x0 : List D) (x1n : Nat) (x1 : List D) (x5 : Int) : plT' Try.prog F_samet hs_samet .own Try.f38 0 [.list 9 x0n x0, .list 9 x1n x1, .int .i64 x5] = (Tree.ite (ltI x5 (Nat.cast x0n : Int)) (Tree.need (all_ [(((0 : Int) ≤ x5) ∧ (x5 < (Nat.cast x0n : Int)))]) (Tree.need (all_ [((GetElem?.getElem? x0 ((Int.toNat x5) * (1 : Nat))) = (Option.some (sel x0 ((Int.toNat x5) * (1 : Nat)) Kd.str)))]) (Tree.need (all_ [(((0 : Int) ≤ x5) ∧ (x5 < (Nat.cast x1n : Int)))]) (Tree.need (all_ [((GetElem?.getElem? x1 ((Int.toNat x5) * (1 : Nat))) = (Option.some (sel x1 ((Int.toNat x5) * (1 : Nat)) Kd.str)))]) (Tree.ite (Bool.not ((ByteArray.toList (selS x0 ((Int.toNat x5) * (1 : Nat)))) == (ByteArray.toList (selS x1 ((Int.toNat x5) * (1 : Nat)))))) (Tree.ret [(D.bool false)]) (Tree.need (all_ [(inK .i64 (x5 + (1 : Int)))]) (Tree.goto 0 [(D.list 9 x0n x0), (D.list 9 x1n x1), (D.int .i64 (x5 + (1 : Int)))]))))))) (Tree.ret [(D.bool true)])) := by kernel_rfl
theorem m20 {s : ByteArray} (h : s.size ≤ 1048576) : s.size ≤ maxLen := by unfold maxLen; omega
theorem textsD_len (ls : List ByteArray) : (textsD ls).length = ls.length := by simp [textsD]
theorem textsD_take (ls : List ByteArray) : List.take ls.length (textsD ls) = textsD ls := List.take_of_length_le (by rw [textsD_len]; omega)
theorem textsD_push (ls : List ByteArray) (s : ByteArray) : textsD (ls ++ [s]) = textsD ls ++ [.str s] := by simp [textsD]
theorem textsD_scal (ls : List ByteArray) : scal (textsD ls) := by
  intro d hd
  obtain ⟨x, _, rfl⟩ := List.mem_map.mp hd
  rfl
theorem textsD_at {ls : List ByteArray} {i : Nat} {s : ByteArray} (h : ls[i]? = some s) : (textsD ls)[i]? = some (.str s) := by simp [textsD, h]
theorem textsD_get {ls : List ByteArray} {i : Nat} (h : i < ls.length) : ∃ s, ls[i]? = some s ∧ (textsD ls)[i]? = some (.str s) ∧ s ∈ ls := ⟨ls[i], List.getElem?_eq_getElem h, textsD_at (List.getElem?_eq_getElem h), List.getElem_mem h⟩
theorem unS_texts (ls : List ByteArray) : unS (textsD ls) = ls := by
  unfold unS textsD
  rw [List.map_map]
  conv => rhs; rw [← List.map_id ls]
  rfl
theorem dist_no {l : List ByteArray} {i j : Nat} {a b : ByteArray} (hi : l[i]? = some a) (hj : l[j]? = some b) (hij : i < j) (h : a.data.toList = b.data.toList) : distB l = false := by
  unfold distB
  apply decide_eq_false
  intro hn
  have hi' := (List.getElem?_eq_some_iff.mp hi)
  have hj' := (List.getElem?_eq_some_iff.mp hj)
  have h1 := List.pairwise_iff_getElem.mp hn i j (by simp; exact hi'.1) (by simp; exact hj'.1) hij
  apply h1
  simp [hi'.2, hj'.2, h]
theorem dist_yes {l : List ByteArray} (h : ∀ (i j : Nat) (a b : ByteArray), l[i]? = some a → l[j]? = some b → i < j → a.data.toList ≠ b.data.toList) : distB l = true := by
  unfold distB
  apply decide_eq_true
  refine List.pairwise_iff_getElem.mpr (fun i j hi hj hij => ?_)
  simp at hi hj
  simpa using h i j l[i] l[j] (List.getElem?_eq_getElem hi) (List.getElem?_eq_getElem hj) hij
theorem word_no {l : List ByteArray} {s : ByteArray} (hs : s ∈ l) (h : wordS s = false) : l.all wordS = false := by
  rw [List.all_eq_false]
  exact ⟨s, hs, by rw [h]; simp⟩
theorem text_eq {a b : ByteArray} (h : a.data.toList = b.data.toList) : a = b := ByteArray.ext (Array.ext' h)
theorem sameB_rfl (a : List ByteArray) : sameB a a = true := decide_eq_true rfl
theorem ok_samet : FnOk Try.prog 38 s_samet := by
  refine fnOk (fn := Try.f38) (F := F_samet) (hs := hs_samet) tab_nil mixed rfl rfl rfl [.list 9, .list 9] (by kernel_rfl) (by simp) ?_
  rintro n cs n' cs' ⟨a, b, e, ha⟩
  simp only [List.cons.injEq, D.list.injEq, true_and, and_true] at e
  obtain ⟨⟨rfl, rfl⟩, rfl, rfl⟩ := e
  refine ⟨fun h ys => h = 0 ∧ ∃ i : Nat, ys = [.list 9 a.length (textsD a), .list 9 b.length (textsD b), .int .i64 i] ∧ a.length = b.length ∧ i ≤ a.length ∧ ∀ (j : Nat) (x y : ByteArray), j < i → a[j]? = some x → b[j]? = some y → x = y, fun h ys => a.length - (selI ys 2).toNat, ?_, ?_⟩
  · rw [t_samet]
    simp only [Tree.holds, ltI_t, ltI_f, leI_t, leI_f, all_cons, all_nil, and_true, true_and, forall_eq, decide_eq_true_eq, decide_eq_false_iff_not, beq_iff_eq, beq_eq_false_iff_ne, bne_iff_ne, bne_eq_false_iff_eq, ne_eq, Decidable.not_not, selI_z, selB_z, selS_z, selN_z, selL_z, selI_s, selB_s, selS_s, selN_s, selL_s, Int.toNat_natCast, Nat.mul_one, Nat.zero_add, Nat.div_one, List.drop_zero, Nat.zero_mul, Nat.le_refl, Bool.not_eq_true', Bool.not_eq_false', Bool.false_eq_true, Bool.true_eq_false, not_true_eq_false, not_false_eq_true, false_imp_iff, true_imp_iff, if_true, if_false, sig, sigF, sigW, sigR, sigO, sigD, sigWD, List.map_cons, List.map_nil, unS_texts]
    refine ⟨fun h => ret_bool' ?_, fun h => ⟨0, rfl, by omega, by omega, fun j x y h => by omega⟩⟩
    unfold sameB
    rw [eq_comm, decide_eq_false_iff_not]
    intro e; rw [e] at h; exact h rfl
  · rintro h ys ⟨rfl, i, rfl, hl, hi, hv⟩
    rw [t_samet0]
    simp only [Tree.holds, ltI_t, ltI_f, leI_t, leI_f, all_cons, all_nil, and_true, true_and, forall_eq, decide_eq_true_eq, decide_eq_false_iff_not, beq_iff_eq, beq_eq_false_iff_ne, bne_iff_ne, bne_eq_false_iff_eq, ne_eq, Decidable.not_not, selI_z, selB_z, selS_z, selN_z, selL_z, selI_s, selB_s, selS_s, selN_s, selL_s, Int.toNat_natCast, Nat.mul_one, Nat.zero_add, Nat.div_one, List.drop_zero, Nat.zero_mul, Nat.le_refl, Bool.not_eq_true', Bool.not_eq_false', Bool.false_eq_true, Bool.true_eq_false, not_true_eq_false, not_false_eq_true, false_imp_iff, true_imp_iff, if_true, if_false, sig, sigF, sigW, sigR, sigO, sigD, sigWD, List.map_cons, List.map_nil, sel_kstr, unS_texts, ByteArray.toList_eq]
    refine ⟨fun hj => ?_, fun hj => ret_bool' ?_⟩
    · obtain ⟨x, x1, x2, x3⟩ := textsD_get (ls := a) (i := i) (by omega)
      obtain ⟨y, y1, y2, y3⟩ := textsD_get (ls := b) (i := i) (by omega)
      rw [selS_of x2, selS_of y2]
      refine ⟨⟨by omega, by omega⟩, x2, ⟨by omega, by omega⟩, y2, fun e => ret_bool' ?_, fun e => ⟨by unfold inK; omega, ⟨i + 1, rfl, hl, by omega, fun j u v ju hu hv' => ?_⟩, by omega⟩⟩
      · unfold sameB
        rw [eq_comm, decide_eq_false_iff_not]
        intro h; subst h
        rw [x1] at y1; injection y1 with y1; subst y1; exact e rfl
      · by_cases hji : j = i
        · rw [hji, x1] at hu; rw [hji, y1] at hv'
          injection hu with hu; injection hv' with hv'
          rw [← hu, ← hv']; exact text_eq e
        · exact hv j u v (by omega) hu hv'
    · unfold sameB
      rw [eq_comm, decide_eq_true_eq]
      apply List.ext_getElem hl
      intro j h1 h2
      exact hv j _ _ (by omega) (List.getElem?_eq_getElem h1) (List.getElem?_eq_getElem h2)
end Go.Proofs.Ytjleempapphlhab.Mini
end
