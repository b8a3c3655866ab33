/- What is between single spaces: the model's l1Words. -/
import Derived.Test.YtplcdadedpbkpaaTString
import Derived.Test.YtplcdadedpbkpaaGa
import Derived.RegionTactic
import Derived.BigRegion
import Derived.ChangeAlike
import Derived.IntWalk
import Derived.StillTailTactics
namespace Go.Proofs.Ytplcdadedpbkpaa
open Go.RowKit
set_option linter.unusedVariables false
set_option maxRecDepth 20000

def wordsL : List UInt8 → List (List UInt8)
  | [] => [[]]
  | c :: t => if c = 32 then [] :: wordsL t else match wordsL t with
    | [] => [[c]]
    | h :: r => (c :: h) :: r
theorem wordsL_ne (l : List UInt8) : wordsL l ≠ [] := by
  cases l with
  | nil => simp [wordsL]
  | cons c t =>
    rw [wordsL]
    split
    · simp
    · split <;> simp
theorem wordsL_snoc (l : List UInt8) (c : UInt8) : ∃ i a, wordsL l = i ++ [a] ∧ wordsL (l ++ [c]) = if c = 32 then i ++ [a] ++ [[]] else i ++ [a ++ [c]] := by
  by_cases hc : c = 32
  · simp only [if_pos hc]
    induction l with
    | nil => exact ⟨[], [], rfl, by rw [List.nil_append, wordsL, if_pos hc]; rfl⟩
    | cons d t ih =>
      obtain ⟨i, a, h1, h2⟩ := ih
      rw [List.cons_append, wordsL, wordsL]
      by_cases hd : d = 32
      · rw [if_pos hd, if_pos hd, h1, h2]
        exact ⟨[] :: i, a, rfl, by simp⟩
      · rw [if_neg hd, if_neg hd, h1, h2]
        cases i with
        | nil => exact ⟨[], d :: a, rfl, rfl⟩
        | cons e r => exact ⟨(d :: e) :: r, a, rfl, rfl⟩
  · simp only [if_neg hc]
    induction l with
    | nil => exact ⟨[], [], rfl, by rw [List.nil_append, wordsL, if_neg hc]; rfl⟩
    | cons d t ih =>
      obtain ⟨i, a, h1, h2⟩ := ih
      rw [List.cons_append, wordsL, wordsL]
      by_cases hd : d = 32
      · rw [if_pos hd, if_pos hd, h1, h2]
        exact ⟨[] :: i, a, rfl, by simp⟩
      · rw [if_neg hd, if_neg hd, h1, h2]
        cases i with
        | nil => exact ⟨[], d :: a, rfl, rfl⟩
        | cons e r => exact ⟨(d :: e) :: r, a, rfl, rfl⟩
theorem wordsL_plain {l : List UInt8} (h : ∀ c ∈ l, c ≠ 32) : wordsL l = [l] := by
  induction l with
  | nil => rfl
  | cons c t ih =>
    rw [wordsL, if_neg (h c (by simp)), ih (fun x hx => h x (by simp [hx]))]
theorem wordsL_cut {a b : List UInt8} (h : ∀ c ∈ a, c ≠ 32) : wordsL (a ++ 32 :: b) = a :: wordsL b := by
  induction a with
  | nil => rw [List.nil_append, wordsL, if_pos rfl]
  | cons c t ih => rw [List.cons_append, wordsL, if_neg (h c (by simp)), ih (fun x hx => h x (by simp [hx]))]
theorem wordsL_one {l : List UInt8} (h : (wordsL l).length = 1) : ∀ c ∈ l, c ≠ 32 := by
  induction l with
  | nil => intro c hc; simp at hc
  | cons c t ih =>
    rw [wordsL] at h
    by_cases hc : c = 32
    · rw [if_pos hc] at h
      simp at h
      exact absurd h (wordsL_ne t)
    · rw [if_neg hc] at h
      intro x hx
      rcases List.mem_cons.mp hx with rfl | hx
      · exact hc
      · refine ih ?_ x hx
        cases hw : wordsL t with
        | nil => exact absurd hw (wordsL_ne t)
        | cons e r => rw [hw] at h; simpa using h
/-- The place of the first space; the length, if there is none. -/
def spL (l : List UInt8) : Nat := l.findIdx (· == 32)
theorem sp_split (l : List UInt8) (h : spL l < l.length) : l = l.take (spL l) ++ 32 :: l.drop (spL l + 1) ∧ ∀ c ∈ l.take (spL l), c ≠ 32 := by
  have e := List.findIdx_getElem (w := h)
  refine ⟨?_, ?_⟩
  · conv => lhs; rw [← List.take_append_drop (spL l) l]
    rw [List.drop_eq_getElem_cons h]
    congr 2
    exact eq_of_beq e
  · intro c hc
    obtain ⟨j, hj, he⟩ := List.getElem_of_mem hc
    rw [List.length_take] at hj
    rw [List.getElem_take] at he
    have := List.not_of_lt_findIdx (show j < l.findIdx (· == 32) by unfold spL at hj; omega)
    rw [he] at this
    simpa using this
theorem sp_none (l : List UInt8) (h : ¬ spL l < l.length) : ∀ c ∈ l, c ≠ 32 := by
  intro c hc e
  exact h (List.findIdx_lt_length_of_exists ⟨c, hc, by rw [e]; rfl⟩)
theorem sp_app {a b : List UInt8} (h : ∀ c ∈ a, c ≠ 32) : spL (a ++ 32 :: b) = a.length := by
  unfold spL
  rw [List.findIdx_eq (by simp)]
  refine ⟨by simp, fun j hj => ?_⟩
  rw [List.getElem_append_left hj]
  have := h _ (List.getElem_mem hj)
  simpa using this
/-- Two words: the one ahead of the first space, and all behind it, without a space. -/
theorem words_two (l : List UInt8) : (wordsL l).length = 2 ↔ spL l < l.length ∧ ∀ c ∈ l.drop (spL l + 1), c ≠ 32 := by
  by_cases h : spL l < l.length
  · obtain ⟨h1, h2⟩ := sp_split l h
    have h3 : wordsL l = l.take (spL l) :: wordsL (l.drop (spL l + 1)) := by
      conv => lhs; rw [h1]
      exact wordsL_cut h2
    rw [h3, List.length_cons]
    constructor
    · intro e; exact ⟨h, wordsL_one (by omega)⟩
    · intro e; rw [wordsL_plain e.2]; rfl
  · rw [wordsL_plain (sp_none l h)]
    constructor
    · intro e; simp at e
    · intro e; exact absurd e.1 h
theorem words_are {l : List UInt8} (h : (wordsL l).length = 2) : wordsL l = [l.take (spL l), l.drop (spL l + 1)] := by
  obtain ⟨h0, h4⟩ := (words_two l).mp h
  obtain ⟨h1, h2⟩ := sp_split l h0
  conv => lhs; rw [h1]
  rw [wordsL_cut h2, wordsL_plain h4]

def bytesOf (l : List UInt8) : ByteArray := ⟨l.toArray⟩
def wordsS (s : ByteArray) : List ByteArray := (wordsL s.data.toList).map bytesOf
theorem strs_set (ws : List ByteArray) (a : ByteArray) (n : Nat) (hn : ws.length = n) (b : ByteArray) : (flat strC (ws ++ [a])).set n (.string b) = flat strC (ws ++ [b]) := by
  have h := flat_set strC_len (ws ++ [a]) (k := n) (j := 0) (a := a) (a' := b) (u := .string b) (by rw [← hn]; simp) (by omega) rfl
  rw [Nat.mul_one, Nat.add_zero] at h
  rw [h, List.set_append_right _ _ (by omega), show n - ws.length = 0 by omega]
  rfl
theorem ext_one (s : ByteArray) (k : Nat) (h : k < s.size) : (s.extract k (k + 1)).data.toList = [s[k]] := by
  have e1 : s.data.toList[k]'(by simp; omega) = s[k] := rfl
  simp only [ByteArray.data_extract, Array.toList_extract, List.extract_eq_take_drop]
  rw [List.drop_eq_getElem_cons (by simp; omega), show k + 1 - k = 1 by omega]
  simp [e1]

set_option maxHeartbeats 4000000 in
theorem swords_any (s : ByteArray) (w : World) (hs : s.size ≤ 1048576) :
    Calls Try.prog 22 #[.string s] w fun e w' => ∃ A c n, e = .returned (.slice A n c) ∧ n = (wordsS s).length ∧ n ≤ 1048577 ∧ w'.ownsRow w.heap.size 9 1 (.slice A n c) n (flat strC (wordsS s)) ∧ Below w.heap.size w w' := by
  obtain ⟨i0, hi0, hz0, hz1, hz2⟩ := info_parts info_string
  have HO := Lib.hid (World.ownsRow_lit (base := w.heap.size) (e := 9) (size := 1) w #[.string ⟨#[]⟩] 1 (Nat.le_refl _) (by unfold maxLen; omega) rfl)
  go_enter Try.func22, Try.ntmps22
  go_wp2
  go_loopw [3, 4] (fun o i wr => ∃ (k j : Nat) (A : Option Addr) (c : Nat) (ws : List ByteArray) (a : ByteArray), k ≤ s.size ∧ i = .int .i64 k ∧ o = .slice A (j + 1) c ∧ (wordsL (s.data.toList.take k)).map bytesOf = ws ++ [a] ∧ ws.length = j ∧ j ≤ k ∧ a.size ≤ k ∧ wr.ownsRow w.heap.size 9 1 (.slice A (j + 1) c) (j + 1) (flat strC (ws ++ [a])) ∧ Below w.heap.size w wr) (fun _ i _ => s.size - (intOf i).toNat)
  case atStart => exact ⟨0, 0, _, _, [], ⟨#[]⟩, Nat.zero_le _, rfl, rfl, rfl, rfl, Nat.le_refl _, Nat.le_refl _, HO.out, bnew _ _⟩
  case round =>
    obtain ⟨k, j, A, c, ws, a, hk, rfl, rfl, hw, hj, hjk, hak, hown, hbel⟩ := hrel
    have HWS := Lib.hid hw
    have HJ := Lib.hid hj
    have HW := Lib.hid hown
    have HB := Lib.hid hbel
    have hz := hbel.size
    clear hw hj hown hbel
    by_cases hlt : k < s.size
    · obtain ⟨i, l, h1, h2⟩ := wordsL_snoc (s.data.toList.take k) s[k]
      rw [← take_snoc s k hlt] at h2
      have h3 := HWS.out
      rw [h1, List.map_append] at h3
      obtain ⟨h4, h5⟩ := List.append_inj' h3 rfl
      have h6 : bytesOf l = a := by simpa using h5
      have H2 := Lib.hid h2
      have H4 := Lib.hid h4
      have H6 := Lib.hid h6
      clear h1 h2 h3 h4 h5 h6
      by_cases hc : s[k] = 32
      · have h7 : ((s[k].toNat : Int) == 32) = true := by rw [hc]; rfl
        have H7 : Hid ((wordsL (s.data.toList.take (k + 1))).map bytesOf = (ws ++ [a]) ++ [⟨#[]⟩]) := Lib.hid (by rw [H2.out, if_pos hc, List.map_append, List.map_append, H4.out, List.map_singleton, H6.out]; rfl)
        clear hc
        go_wp2_with (at_builtin; refine wpList_append_own _ rfl _ _ 23 rfl w.heap.size 9 i0 _ 1 16 Try.underlying23 hi0 hz0 hz1 hz2 rfl (by omega) (.slice A (j + 1) c) (j + 1) _ rfl (HW.out.alloc _) ⟨wr.heap.size, 0, none⟩ 1 1 [.string ⟨#[]⟩] rfl rfl (World.news_of_block (cs := #[.string ⟨#[]⟩]) (t := 9) (fr := (0, 0)) (heap_alloc_new wr _)) (by simp [Value.oneCell']) (by unfold maxLen; omega) (by omega) (by simp; omega) ?_; intro v2 w2 hown2 hg2 _; obtain ⟨A2, c2, hv2⟩ := own_slice hown2; subst hv2; have HW2 := Lib.hid hown2; have HG2 := Lib.hid hg2; clear hown2 hg2)
        go_roundw
        case rel =>
          refine ⟨k + 1, j + 1, A2, c2, ws ++ [a], ⟨#[]⟩, by omega, by go_num, rfl, H7.out, by rw [List.length_append, HJ.out]; rfl, by omega, Nat.zero_le _, ?_, ?_⟩
          · rw [flat_append, flat_one]; exact HW2.out
          · exact (HB.out.alloc hz _).grown HG2.out (by simp; omega) (fun g hg => (HW.out.lt g hg).1)
        case measure => simp [intOf]; omega
      · have h7 : ((s[k].toNat : Int) == 32) = false := by
          rw [beq_eq_false_iff_ne]; intro e
          exact hc (UInt8.toNat_inj.mp (by show s[k].toNat = 32; omega))
        have H7 : Hid ((wordsL (s.data.toList.take (k + 1))).map bytesOf = ws ++ [a ++ s.extract k (k + 1)]) := Lib.hid (by
          rw [H2.out, if_neg hc, List.map_append, H4.out, List.map_singleton]
          congr 2
          refine (str_of ?_).symm
          rw [cat_list, ext_one s k hlt, ← H6.out]
          rfl)
        obtain ⟨g, hA, hgb, hgl⟩ := own_form HW.out (by omega)
        subst hA
        have d0 := (own_at HW.out (j := j) (u := .string a) (by
          have := flat_get strC_len (ws ++ [a]) (i := j) (j := 0) (a := a) (u := .string a) (by rw [← HJ.out]; simp) rfl
          simpa using this))
        obtain ⟨d0, f0⟩ := d0
        have a1 := add_run Try.prog a (s.extract k (k + 1)) (by simp; omega)
        have wj : IntKind.i64.wrap ((k : Int) + 1) = (k : Int) + 1 := IntWalk.i64_in _ (by omega)
        have tj : ((k : Int) + 1).toNat = k + 1 := by omega
        have b1 : (k : Int) ≤ (k : Int) + 1 := by omega
        have b2 : (k : Int) + 1 ≤ (s.size : Int) := by omega
        have b3 : (0 : Int) ≤ (k : Int) := by omega
        have b4 : (0 : Int) ≤ (j : Int) := by omega
        have b5 : (j : Int) < (j : Int) + 1 := by omega
        clear hc
        go_wp2
        go_region
        clear a1 wj tj
        go_wp2
        go_roundw
        case rel =>
          have hst := (HW.out.drew.stored j (.string (a ++ s.extract k (k + 1)))).1
          rw [strs_set ws a j HJ.out] at hst
          exact ⟨k + 1, j, _, _, ws, a ++ s.extract k (k + 1), by omega, by go_num, rfl, H7.out, HJ.out, by omega, by simp; omega, hst, (bdrew HB.out).setCell hgb _⟩
        case measure => simp [intOf]; omega
    · go_wp2
      go_ret
      have h0 : (wordsL s.data.toList).map bytesOf = ws ++ [a] := by
        have := HWS.out
        rwa [List.take_of_length_le (by simp; omega)] at this
      refine ⟨A, c, j + 1, rfl, ?_, by omega, ?_, HB.out⟩
      · unfold wordsS; rw [h0, List.length_append, HJ.out]; rfl
      · unfold wordsS; rw [h0]; exact HW.out
end Go.Proofs.Ytplcdadedpbkpaa
