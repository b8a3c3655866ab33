/- Parts of the proof: Plain. -/
import Derived.WalkKit
import Derived.Below
section
namespace Go.Proofs.Ytjleempapphlhaa
open Go.RowKit
set_option linter.unusedVariables false
/-- The kind of a byte, as the program's table of bytes has it. -/
def kind (c : Int) : Int :=
  if 97 ≤ c ∧ c ≤ 122 then 4 else if 48 ≤ c ∧ c ≤ 57 then 3 else if c = 32 then 1 else if 32 < c ∧ c ≤ 126 then 2 else 0
def isLo (c : UInt8) : Bool := decide (97 ≤ (c.toNat : Int) ∧ (c.toNat : Int) ≤ 122)
def isDi (c : UInt8) : Bool := decide (48 ≤ (c.toNat : Int) ∧ (c.toNat : Int) ≤ 57)
def isLd (c : UInt8) : Bool := isLo c || isDi c
/-- A valid word. -/
def wordB (l : List UInt8) : Bool := decide (1 ≤ l.length) && decide (l.length ≤ 10) && isLo (l.headD 0) && l.all isLd
theorem word_len {l : List UInt8} (h : wordB l = true) : 1 ≤ l.length ∧ l.length ≤ 10 := by
  unfold wordB at h
  simp only [Bool.and_eq_true, decide_eq_true_eq] at h
  exact ⟨h.1.1.1, h.1.1.2⟩
theorem ret_int {k : IntKind} {a b : Int} (h : a = b) : Ending.returned (.int k a) = .returned (.int k b) := by rw [h]
theorem ret_str {a b : ByteArray} (h : a = b) : Ending.returned (.string a) = .returned (.string b) := by rw [h]
theorem str_of {t : ByteArray} {l : List UInt8} (h : t.data.toList = l) : t = ⟨l.toArray⟩ := by
  subst h; rfl
theorem cat_list (a b : ByteArray) : (a ++ b).data.toList = a.data.toList ++ b.data.toList := by simp
theorem size_cat (a b : ByteArray) : (a ++ b).size = a.size + b.size := by simp
theorem ret_bool {a b : Bool} (h : a = b) : Ending.returned (.bool a) = .returned (.bool b) := by rw [h]
theorem take_snoc (s : ByteArray) (k : Nat) (h : k < s.size) : s.data.toList.take (k + 1) = s.data.toList.take k ++ [s[k]] := by
  rw [List.take_succ_eq_append_getElem (by simpa using h)]; rfl
theorem all_snoc (p : UInt8 → Bool) (s : ByteArray) (k : Nat) (h : k < s.size) : (s.data.toList.take (k + 1)).all p = ((s.data.toList.take k).all p && p s[k]) := by
  rw [take_snoc s k h]; simp
theorem all_not (p : UInt8 → Bool) (s : ByteArray) (k : Nat) (h : k < s.size) (hp : p s[k] = false) : s.data.toList.all p = false := by
  have : s[k] ∈ s.data.toList := by
    have : s[k] = s.data.toList[k]'(by simpa using h) := rfl
    rw [this]; exact List.getElem_mem _
  rw [Bool.eq_false_iff]; intro ha
  rw [List.all_eq_true] at ha
  rw [ha _ this] at hp; cases hp
theorem head_get (l : List UInt8) (h : 0 < l.length) : l.headD 0 = l[0] := by
  cases l with
  | nil => simp at h
  | cons c t => rfl
theorem head_at (s : ByteArray) (h : 0 < s.size) : s.data.toList.headD 0 = s[0] :=
  head_get s.data.toList (by simpa using h)
def dg (d : Nat) : UInt8 := UInt8.ofNat (48 + d)
theorem dg_toNat {d : Nat} (h : d < 10) : (dg d).toNat = 48 + d := by
  unfold dg; rw [UInt8.toNat_ofNat']; omega
def numT (n : Nat) : List UInt8 := if n < 10 then [dg n] else numT (n / 10) ++ [dg (n % 10)]
termination_by n
def preT (r : Nat) : List UInt8 := if r = 0 then [] else numT r
theorem numT_eq (n : Nat) : numT n = preT (n / 10) ++ [dg (n % 10)] := by
  rw [numT]
  by_cases h : n < 10
  · rw [if_pos h, preT, if_pos (by omega), Nat.mod_eq_of_lt h]; rfl
  · rw [if_neg h, preT, if_neg (by omega)]
theorem preT_pos {r : Nat} (h : 0 < r) : preT r = numT r := by rw [preT, if_neg (by omega)]
def vstep (a : Int) (c : UInt8) : Int := 10 * a + ((c.toNat : Int) - 48)
def val (l : List UInt8) : Int := l.foldl vstep 0
theorem val_snoc (l : List UInt8) (c : UInt8) : val (l ++ [c]) = 10 * val l + ((c.toNat : Int) - 48) := by
  unfold val; rw [List.foldl_append]; rfl
theorem val_numT (n : Nat) : val (numT n) = n := by
  induction n using Nat.strongRecOn with
  | _ n ih =>
    rw [numT_eq, val_snoc, dg_toNat (by omega)]
    by_cases h : n / 10 = 0
    · rw [h]; unfold preT; rw [if_pos rfl]; show 10 * 0 + _ = _; omega
    · rw [preT_pos (by omega), ih (n / 10) (by omega)]; omega
theorem dg_isDi {d : Nat} (h : d < 10) : isDi (dg d) = true := by
  unfold isDi; rw [dg_toNat h]; exact decide_eq_true (by omega)
theorem numT_all (n : Nat) : (numT n).all isDi = true := by
  induction n using Nat.strongRecOn with
  | _ n ih =>
    rw [numT_eq, List.all_append]
    have hd : isDi (dg (n % 10)) = true := dg_isDi (by omega)
    by_cases h : n / 10 = 0
    · rw [h]; unfold preT; rw [if_pos rfl]; simp [hd]
    · rw [preT_pos (by omega), ih (n / 10) (by omega)]; simp [hd]
theorem numT_ne (n : Nat) : numT n ≠ [] := by rw [numT_eq]; simp
theorem numT_head (n : Nat) (h : 0 < n) : ((numT n).headD 0).toNat ≠ 48 := by
  induction n using Nat.strongRecOn with
  | _ n ih =>
    rw [numT_eq]
    by_cases h10 : n / 10 = 0
    · rw [h10]; unfold preT; rw [if_pos rfl]; show (dg (n % 10)).toNat ≠ 48; rw [dg_toNat (by omega)]; omega
    · rw [preT_pos (by omega)]
      have := ih (n / 10) (by omega) (by omega)
      have hne := numT_ne (n / 10)
      cases hq : numT (n / 10) with
      | nil => exact absurd hq hne
      | cons c t => rw [hq] at this; exact this
theorem numT_len (k : Nat) : ∀ n, n < 10 ^ (k + 1) → (numT n).length ≤ k + 1 := by
  induction k with
  | zero => intro n h; rw [numT, if_pos (by omega)]; simp
  | succ k ih =>
    intro n h
    rw [numT]
    split
    · simp
    · rw [List.length_append]
      have := ih (n / 10) (by rw [Nat.pow_succ] at h; omega)
      simp; omega
theorem numT_len7 (n : Nat) (h : n ≤ 1000000) : (numT n).length ≤ 7 := numT_len 6 n (by omega)
theorem val_nonneg (l : List UInt8) (h : l.all isDi = true) : 0 ≤ val l := by
  suffices ∀ (l : List UInt8) (a : Int), 0 ≤ a → l.all isDi = true → 0 ≤ l.foldl vstep a from this l 0 (by omega) h
  intro l
  induction l with
  | nil => intro a ha _; exact ha
  | cons c t ih =>
    intro a ha hl
    rw [List.all_cons, Bool.and_eq_true] at hl
    have hc := of_decide_eq_true hl.1
    exact ih _ (by unfold vstep; omega) hl.2
theorem fold_ge (l : List UInt8) : ∀ a : Int, 0 ≤ a → l.all isDi = true → a ≤ l.foldl vstep a := by
  induction l with
  | nil => intro a ha _; exact Int.le_refl _
  | cons c t ih =>
    intro a ha hl
    rw [List.all_cons, Bool.and_eq_true] at hl
    have hc := of_decide_eq_true hl.1
    have := ih (vstep a c) (by unfold vstep; omega) hl.2
    rw [List.foldl_cons]
    have h2 : a ≤ vstep a c := by unfold vstep; omega
    omega
theorem val_take (l : List UInt8) (k : Nat) (h : l.all isDi = true) : val (l.take k) ≤ val l := by
  have e : val l = (l.drop k).foldl vstep (val (l.take k)) := by
    unfold val
    rw [← List.foldl_append, List.take_append_drop]
  have h1 : (l.take k).all isDi = true := by
    rw [List.all_eq_true] at h ⊢; exact fun x hx => h x (List.mem_of_mem_take hx)
  have h2 : (l.drop k).all isDi = true := by
    rw [List.all_eq_true] at h ⊢; exact fun x hx => h x (List.mem_of_mem_drop hx)
  rw [e]
  exact fold_ge _ _ (val_nonneg _ h1) h2
theorem fold_lt (l : List UInt8) : ∀ (k : Nat) (a : Int), 0 ≤ a → a < 10 ^ k → l.all isDi = true → l.foldl vstep a < 10 ^ (k + l.length) := by
  induction l with
  | nil => intro k a _ h _; exact h
  | cons c t ih =>
    intro k a ha hk hl
    rw [List.all_cons, Bool.and_eq_true] at hl
    have hc := of_decide_eq_true hl.1
    have e : (10 : Int) ^ (k + 1) = 10 ^ k * 10 := Int.pow_succ 10 k
    have := ih (k + 1) (vstep a c) (by unfold vstep; omega) (by unfold vstep; omega) hl.2
    rw [List.foldl_cons, List.length_cons, show k + (t.length + 1) = k + 1 + t.length by omega]
    exact this
theorem pow_le8 (k : Nat) (h : k ≤ 8) : (10 : Int) ^ k ≤ 100000000 := by
  match k, h with
  | 0, _ => decide
  | 1, _ => decide
  | 2, _ => decide
  | 3, _ => decide
  | 4, _ => decide
  | 5, _ => decide
  | 6, _ => decide
  | 7, _ => decide
  | 8, _ => decide
theorem val_lt8 (l : List UInt8) (h : l.length ≤ 8) (ha : l.all isDi = true) : val l < 100000000 := by
  have := fold_lt l 0 0 (by omega) (by decide) ha
  rw [Nat.zero_add] at this
  have h2 := pow_le8 l.length h
  unfold val; omega
theorem dg_of (c : UInt8) (h : isDi c = true) : dg (c.toNat - 48) = c := by
  have := of_decide_eq_true h
  apply UInt8.toNat_inj.mp
  rw [dg_toNat (by omega)]; omega
theorem numT_val_aux (k : Nat) : ∀ l : List UInt8, l.length = k + 1 → l.all isDi = true → (l.length = 1 ∨ (l.headD 0).toNat ≠ 48) → numT (val l).toNat = l ∧ (0 < k → 0 < val l) := by
  induction k with
  | zero =>
    intro l hl ha _
    match l, hl with
    | [c], _ =>
      have hc : isDi c = true := by simpa using ha
      have hv : val [c] = (c.toNat : Int) - 48 := by unfold val vstep; simp
      have hd := of_decide_eq_true hc
      refine ⟨?_, fun h => absurd h (by omega)⟩
      rw [hv, show ((c.toNat : Int) - 48).toNat = c.toNat - 48 by omega, numT, if_pos (by omega), dg_of c hc]
  | succ k ih =>
    intro l hl ha hh
    have hne : l ≠ [] := by intro e; rw [e] at hl; simp at hl
    obtain ⟨t, c, rfl⟩ : ∃ t c, l = t ++ [c] := ⟨l.dropLast, l.getLast hne, (List.dropLast_concat_getLast hne).symm⟩
    have hlt : t.length = k + 1 := by simpa using hl
    rw [List.all_append, Bool.and_eq_true] at ha
    have hc : isDi c = true := by simpa using ha.2
    have hd := of_decide_eq_true hc
    have hhd : (t.headD 0).toNat ≠ 48 := by
      rcases hh with hh | hh
      · simp at hh; rw [hh] at hlt; simp at hlt
      · cases t with
        | nil => simp at hlt
        | cons x y => exact hh
    obtain ⟨h1, h2⟩ := ih t hlt ha.1 (.inr hhd)
    have hpos : 0 < val t := by
      by_cases hk : 0 < k
      · exact h2 hk
      · match t, hlt with
        | [x], _ =>
          have hx : isDi x = true := by simpa using ha.1
          have hxd := of_decide_eq_true hx
          have : x.toNat ≠ 48 := hhd
          unfold val vstep; simp; omega
        | x :: y :: z, hlt => simp at hlt; omega
    rw [val_snoc]
    refine ⟨?_, fun _ => by omega⟩
    have e1 : (10 * val t + ((c.toNat : Int) - 48)).toNat / 10 = (val t).toNat := by omega
    have e2 : (10 * val t + ((c.toNat : Int) - 48)).toNat % 10 = c.toNat - 48 := by omega
    rw [numT_eq, e1, e2, preT_pos (by omega), h1, dg_of c hc]
theorem numT_val (l : List UInt8) (h0 : l ≠ []) (ha : l.all isDi = true) (hh : l.length = 1 ∨ (l.headD 0).toNat ≠ 48) : numT (val l).toNat = l := by
  have : 0 < l.length := List.length_pos_iff.mpr h0
  exact (numT_val_aux (l.length - 1) l (by omega) ha hh).1
/-- The number whose text a text is, or -1. -/
def readN (l : List UInt8) : Int := if numT (val l).toNat = l ∧ val l ≤ 1000000 then val l else -1
/-- The text of a number. -/
def textN (n : Int) : List UInt8 := if 0 ≤ n ∧ n ≤ 1000000 then numT n.toNat else []
theorem readN_numT (n : Nat) (h : n ≤ 1000000) : readN (numT n) = n := by
  unfold readN; rw [val_numT]; rw [if_pos ⟨by simp, by omega⟩]
theorem readN_of (l : List UInt8) (h0 : l ≠ []) (ha : l.all isDi = true) (hh : l.length = 1 ∨ (l.headD 0).toNat ≠ 48) (hv : val l ≤ 1000000) : readN l = val l := by
  unfold readN; rw [if_pos ⟨numT_val l h0 ha hh, hv⟩]
theorem readN_no (l : List UInt8) (h : ∀ n : Nat, n ≤ 1000000 → numT n ≠ l) : readN l = -1 := by
  unfold readN
  by_cases hc : numT (val l).toNat = l ∧ val l ≤ 1000000
  · exact absurd hc.1 (h _ (by omega))
  · rw [if_neg hc]
theorem readN_digit (l : List UInt8) (h : l.all isDi = false) : readN l = -1 :=
  readN_no l fun n _ e => by rw [← e, numT_all] at h; cases h
theorem readN_great (l : List UInt8) (k : Nat) (h : 1000000 < val (l.take k)) : readN l = -1 :=
  readN_no l fun n hn e => by
    have h1 := val_take l k (by rw [← e]; exact numT_all n)
    rw [← e, val_numT] at h1
    rw [← e] at h
    omega
theorem readN_zero (l : List UInt8) (h1 : 1 < l.length) (h : (l.headD 0).toNat = 48) : readN l = -1 :=
  readN_no l fun n _ e => by
    by_cases hn : 0 < n
    · exact numT_head n hn (by rw [e]; exact h)
    · obtain rfl : n = 0 := by omega
      rw [numT, if_pos (by omega)] at e
      rw [← e] at h1; simp at h1
theorem textN_readN (l : List UInt8) (h : 0 ≤ readN l) : textN (readN l) = l := by
  unfold readN at h ⊢
  by_cases hc : numT (val l).toNat = l ∧ val l ≤ 1000000
  · rw [if_pos hc] at h ⊢
    unfold textN; rw [if_pos ⟨h, hc.2⟩]; exact hc.1
  · rw [if_neg hc] at h; omega
/-- A text whose number, of at most eight digits, has another text, is the text of no number. -/
theorem readN_ne (l : List UInt8) (v : Int) (hv : v = val (l.take 8)) (h : textN v ≠ l) : readN l = -1 :=
  readN_no l fun n hn e => by
    have h7 := numT_len7 n hn
    rw [e] at h7
    rw [List.take_of_length_le (by omega), ← e, val_numT] at hv
    apply h
    subst hv
    unfold textN; rw [if_pos (by omega)]; exact e
theorem readN_eq (l : List UInt8) (v : Int) (hv : v = val (l.take 8)) (h0 : l ≠ []) (h : textN v = l) : readN l = v := by
  unfold textN at h
  by_cases hc : 0 ≤ v ∧ v ≤ 1000000
  · rw [if_pos hc] at h
    rw [← h, readN_numT _ (by omega)]; omega
  · rw [if_neg hc] at h; exact absurd h.symm h0
theorem readN_nil : readN [] = -1 := readN_no [] fun n _ => numT_ne n
end Go.Proofs.Ytjleempapphlhaa
end
