/- Parts of the proof in one text: Plain, World, Texts, Words, Line, Conv, Lists, Mark. -/
import Derived.WalkKit
import Derived.Below
import Derived.OwnWalk
import Derived.Deep.Draws
import Derived.Test.YtplcdadedpbkpaaChecked
import Derived.WalkSpells
import Derived.LoopTactic
import Derived.Lib.Hide
import Derived.Lib.SlBytesConst
import Derived.Outline
import Derived.Laws.OwnMore
import Derived.Laws.AppendOwn
import Derived.Deep.AppendLies
import Derived.Laws.MakeOwn
import Derived.Laws.Concat
import Derived.Maps.AppendAt
import Derived.RegionTactic
section
namespace Go.Proofs.Ytplcdadedpbkpaa
open Go.RowKit
set_option linter.unusedVariables false

/-- The kind of a byte, as the program's table of bytes has it. -/
def kind (c : Int) : Int :=
  if 97 ≤ c ∧ c ≤ 122 then 4 else if 48 ≤ c ∧ c ≤ 57 then 3 else if c = 32 then 1 else if 32 < c ∧ c ≤ 126 then 2 else 0

def isLo (c : UInt8) : Bool := decide (97 ≤ (c.toNat : Int) ∧ (c.toNat : Int) ≤ 122)
def isDi (c : UInt8) : Bool := decide (48 ≤ (c.toNat : Int) ∧ (c.toNat : Int) ≤ 57)
def isLd (c : UInt8) : Bool := isLo c || isDi c
def isLn (c : UInt8) : Bool := decide (32 ≤ (c.toNat : Int) ∧ (c.toNat : Int) ≤ 126)

/-- A valid word. -/
def wordB (l : List UInt8) : Bool := decide (1 ≤ l.length) && decide (l.length ≤ 10) && isLo (l.headD 0) && l.all isLd

theorem word_len {l : List UInt8} (h : wordB l = true) : 1 ≤ l.length ∧ l.length ≤ 10 := by
  unfold wordB at h
  simp only [Bool.and_eq_true, decide_eq_true_eq] at h
  exact ⟨h.1.1.1, h.1.1.2⟩
theorem wordB_nil : wordB [] = false := rfl
theorem ret_int {k : IntKind} {a b : Int} (h : a = b) : Ending.returned (.int k a) = .returned (.int k b) := by rw [h]
theorem ret_str {a b : ByteArray} (h : a = b) : Ending.returned (.string a) = .returned (.string b) := by rw [h]
theorem str_of {t : ByteArray} {l : List UInt8} (h : t.data.toList = l) : t = ⟨l.toArray⟩ := by
  subst h; rfl
theorem cat_list (a b : ByteArray) : (a ++ b).data.toList = a.data.toList ++ b.data.toList := by simp
theorem size_cat (a b : ByteArray) : (a ++ b).size = a.size + b.size := by simp
theorem ret_bool {a b : Bool} (h : a = b) : Ending.returned (.bool a) = .returned (.bool b) := by rw [h]

theorem take_snoc (s : ByteArray) (k : Nat) (h : k < s.size) : s.data.toList.take (k + 1) = s.data.toList.take k ++ [s[k]] := by
  rw [List.take_succ_eq_append_getElem (by simpa using h)]; rfl
theorem all_snoc (p : UInt8 → Bool) (s : ByteArray) (k : Nat) (h : k < s.size) : (s.data.toList.take (k + 1)).all p = ((s.data.toList.take k).all p && p s[k]) := by
  rw [take_snoc s k h]; simp
theorem all_not (p : UInt8 → Bool) (s : ByteArray) (k : Nat) (h : k < s.size) (hp : p s[k] = false) : s.data.toList.all p = false := by
  have : s[k] ∈ s.data.toList := by
    have : s[k] = s.data.toList[k]'(by simpa using h) := rfl
    rw [this]; exact List.getElem_mem _
  rw [Bool.eq_false_iff]; intro ha
  rw [List.all_eq_true] at ha
  rw [ha _ this] at hp; cases hp
theorem head_get (l : List UInt8) (h : 0 < l.length) : l.headD 0 = l[0] := by
  cases l with
  | nil => simp at h
  | cons c t => rfl
theorem head_at (s : ByteArray) (h : 0 < s.size) : s.data.toList.headD 0 = s[0] :=
  head_get s.data.toList (by simpa using h)

/-- A valid line. -/
def lineB (l : List UInt8) : Bool :=
  decide (l.length ≤ 60) && l.all isLn && (l.isEmpty || ((l.headD 0).toNat != 32 && (l.getLastD 0).toNat != 32))
theorem last_get (l : List UInt8) (h : 0 < l.length) : l.getLastD 0 = l[l.length - 1] := by
  cases l with
  | nil => simp at h
  | cons c t => rw [List.getLastD_cons, List.getLastD_eq_getLast?, List.getLast?_eq_getElem?]
                cases t with
                | nil => rfl
                | cons d u => simp
theorem last_at (s : ByteArray) (h : 0 < s.size) : s.data.toList.getLastD 0 = s[s.size - 1] :=
  last_get s.data.toList (by simpa using h)

/-! ### Decimal numbers -/
def dg (d : Nat) : UInt8 := UInt8.ofNat (48 + d)
theorem dg_toNat {d : Nat} (h : d < 10) : (dg d).toNat = 48 + d := by
  unfold dg; rw [UInt8.toNat_ofNat']; omega
def numT (n : Nat) : List UInt8 := if n < 10 then [dg n] else numT (n / 10) ++ [dg (n % 10)]
termination_by n
def preT (r : Nat) : List UInt8 := if r = 0 then [] else numT r
theorem numT_eq (n : Nat) : numT n = preT (n / 10) ++ [dg (n % 10)] := by
  rw [numT]
  by_cases h : n < 10
  · rw [if_pos h, preT, if_pos (by omega), Nat.mod_eq_of_lt h]; rfl
  · rw [if_neg h, preT, if_neg (by omega)]
theorem preT_pos {r : Nat} (h : 0 < r) : preT r = numT r := by rw [preT, if_neg (by omega)]
theorem preT_zero : preT 0 = [] := rfl

def vstep (a : Int) (c : UInt8) : Int := 10 * a + ((c.toNat : Int) - 48)
def val (l : List UInt8) : Int := l.foldl vstep 0
theorem val_snoc (l : List UInt8) (c : UInt8) : val (l ++ [c]) = 10 * val l + ((c.toNat : Int) - 48) := by
  unfold val; rw [List.foldl_append]; rfl
theorem val_numT (n : Nat) : val (numT n) = n := by
  induction n using Nat.strongRecOn with
  | _ n ih =>
    rw [numT_eq, val_snoc, dg_toNat (by omega)]
    by_cases h : n / 10 = 0
    · rw [h]; unfold preT; rw [if_pos rfl]; show 10 * 0 + _ = _; omega
    · rw [preT_pos (by omega), ih (n / 10) (by omega)]; omega
theorem dg_isDi {d : Nat} (h : d < 10) : isDi (dg d) = true := by
  unfold isDi; rw [dg_toNat h]; exact decide_eq_true (by omega)
theorem numT_all (n : Nat) : (numT n).all isDi = true := by
  induction n using Nat.strongRecOn with
  | _ n ih =>
    rw [numT_eq, List.all_append]
    have hd : isDi (dg (n % 10)) = true := dg_isDi (by omega)
    by_cases h : n / 10 = 0
    · rw [h]; unfold preT; rw [if_pos rfl]; simp [hd]
    · rw [preT_pos (by omega), ih (n / 10) (by omega)]; simp [hd]
theorem numT_ne (n : Nat) : numT n ≠ [] := by rw [numT_eq]; simp
theorem numT_head (n : Nat) (h : 0 < n) : ((numT n).headD 0).toNat ≠ 48 := by
  induction n using Nat.strongRecOn with
  | _ n ih =>
    rw [numT_eq]
    by_cases h10 : n / 10 = 0
    · rw [h10]; unfold preT; rw [if_pos rfl]; show (dg (n % 10)).toNat ≠ 48; rw [dg_toNat (by omega)]; omega
    · rw [preT_pos (by omega)]
      have := ih (n / 10) (by omega) (by omega)
      have hne := numT_ne (n / 10)
      cases hq : numT (n / 10) with
      | nil => exact absurd hq hne
      | cons c t => rw [hq] at this; exact this
theorem numT_len (k : Nat) : ∀ n, n < 10 ^ (k + 1) → (numT n).length ≤ k + 1 := by
  induction k with
  | zero => intro n h; rw [numT, if_pos (by omega)]; simp
  | succ k ih =>
    intro n h
    rw [numT]
    split
    · simp
    · rw [List.length_append]
      have := ih (n / 10) (by rw [Nat.pow_succ] at h; omega)
      simp; omega
theorem numT_len7 (n : Nat) (h : n ≤ 1000000) : (numT n).length ≤ 7 := numT_len 6 n (by omega)
theorem val_nonneg (l : List UInt8) (h : l.all isDi = true) : 0 ≤ val l := by
  suffices ∀ (l : List UInt8) (a : Int), 0 ≤ a → l.all isDi = true → 0 ≤ l.foldl vstep a from this l 0 (by omega) h
  intro l
  induction l with
  | nil => intro a ha _; exact ha
  | cons c t ih =>
    intro a ha hl
    rw [List.all_cons, Bool.and_eq_true] at hl
    have hc := of_decide_eq_true hl.1
    exact ih _ (by unfold vstep; omega) hl.2
theorem fold_ge (l : List UInt8) : ∀ a : Int, 0 ≤ a → l.all isDi = true → a ≤ l.foldl vstep a := by
  induction l with
  | nil => intro a ha _; exact Int.le_refl _
  | cons c t ih =>
    intro a ha hl
    rw [List.all_cons, Bool.and_eq_true] at hl
    have hc := of_decide_eq_true hl.1
    have := ih (vstep a c) (by unfold vstep; omega) hl.2
    rw [List.foldl_cons]
    have h2 : a ≤ vstep a c := by unfold vstep; omega
    omega
theorem val_take (l : List UInt8) (k : Nat) (h : l.all isDi = true) : val (l.take k) ≤ val l := by
  have e : val l = (l.drop k).foldl vstep (val (l.take k)) := by
    unfold val
    rw [← List.foldl_append, List.take_append_drop]
  have h1 : (l.take k).all isDi = true := by
    rw [List.all_eq_true] at h ⊢; exact fun x hx => h x (List.mem_of_mem_take hx)
  have h2 : (l.drop k).all isDi = true := by
    rw [List.all_eq_true] at h ⊢; exact fun x hx => h x (List.mem_of_mem_drop hx)
  rw [e]
  exact fold_ge _ _ (val_nonneg _ h1) h2
theorem fold_lt (l : List UInt8) : ∀ (k : Nat) (a : Int), 0 ≤ a → a < 10 ^ k → l.all isDi = true → l.foldl vstep a < 10 ^ (k + l.length) := by
  induction l with
  | nil => intro k a _ h _; exact h
  | cons c t ih =>
    intro k a ha hk hl
    rw [List.all_cons, Bool.and_eq_true] at hl
    have hc := of_decide_eq_true hl.1
    have e : (10 : Int) ^ (k + 1) = 10 ^ k * 10 := Int.pow_succ 10 k
    have := ih (k + 1) (vstep a c) (by unfold vstep; omega) (by unfold vstep; omega) hl.2
    rw [List.foldl_cons, List.length_cons, show k + (t.length + 1) = k + 1 + t.length by omega]
    exact this
theorem pow_le8 (k : Nat) (h : k ≤ 8) : (10 : Int) ^ k ≤ 100000000 := by
  match k, h with
  | 0, _ => decide
  | 1, _ => decide
  | 2, _ => decide
  | 3, _ => decide
  | 4, _ => decide
  | 5, _ => decide
  | 6, _ => decide
  | 7, _ => decide
  | 8, _ => decide
theorem val_lt8 (l : List UInt8) (h : l.length ≤ 8) (ha : l.all isDi = true) : val l < 100000000 := by
  have := fold_lt l 0 0 (by omega) (by decide) ha
  rw [Nat.zero_add] at this
  have h2 := pow_le8 l.length h
  unfold val; omega
theorem dg_of (c : UInt8) (h : isDi c = true) : dg (c.toNat - 48) = c := by
  have := of_decide_eq_true h
  apply UInt8.toNat_inj.mp
  rw [dg_toNat (by omega)]; omega
theorem numT_val_aux (k : Nat) : ∀ l : List UInt8, l.length = k + 1 → l.all isDi = true → (l.length = 1 ∨ (l.headD 0).toNat ≠ 48) → numT (val l).toNat = l ∧ (0 < k → 0 < val l) := by
  induction k with
  | zero =>
    intro l hl ha _
    match l, hl with
    | [c], _ =>
      have hc : isDi c = true := by simpa using ha
      have hv : val [c] = (c.toNat : Int) - 48 := by unfold val vstep; simp
      have hd := of_decide_eq_true hc
      refine ⟨?_, fun h => absurd h (by omega)⟩
      rw [hv, show ((c.toNat : Int) - 48).toNat = c.toNat - 48 by omega, numT, if_pos (by omega), dg_of c hc]
  | succ k ih =>
    intro l hl ha hh
    have hne : l ≠ [] := by intro e; rw [e] at hl; simp at hl
    obtain ⟨t, c, rfl⟩ : ∃ t c, l = t ++ [c] := ⟨l.dropLast, l.getLast hne, (List.dropLast_concat_getLast hne).symm⟩
    have hlt : t.length = k + 1 := by simpa using hl
    rw [List.all_append, Bool.and_eq_true] at ha
    have hc : isDi c = true := by simpa using ha.2
    have hd := of_decide_eq_true hc
    have hhd : (t.headD 0).toNat ≠ 48 := by
      rcases hh with hh | hh
      · simp at hh; rw [hh] at hlt; simp at hlt
      · cases t with
        | nil => simp at hlt
        | cons x y => exact hh
    obtain ⟨h1, h2⟩ := ih t hlt ha.1 (.inr hhd)
    have hpos : 0 < val t := by
      by_cases hk : 0 < k
      · exact h2 hk
      · match t, hlt with
        | [x], _ =>
          have hx : isDi x = true := by simpa using ha.1
          have hxd := of_decide_eq_true hx
          have : x.toNat ≠ 48 := hhd
          unfold val vstep; simp; omega
        | x :: y :: z, hlt => simp at hlt; omega
    rw [val_snoc]
    refine ⟨?_, fun _ => by omega⟩
    have e1 : (10 * val t + ((c.toNat : Int) - 48)).toNat / 10 = (val t).toNat := by omega
    have e2 : (10 * val t + ((c.toNat : Int) - 48)).toNat % 10 = c.toNat - 48 := by omega
    rw [numT_eq, e1, e2, preT_pos (by omega), h1, dg_of c hc]
theorem numT_val (l : List UInt8) (h0 : l ≠ []) (ha : l.all isDi = true) (hh : l.length = 1 ∨ (l.headD 0).toNat ≠ 48) : numT (val l).toNat = l := by
  have : 0 < l.length := List.length_pos_iff.mpr h0
  exact (numT_val_aux (l.length - 1) l (by omega) ha hh).1

/-- The number whose text a text is, or -1. -/
def readN (l : List UInt8) : Int := if numT (val l).toNat = l ∧ val l ≤ 1000000 then val l else -1
/-- The text of a number. -/
def textN (n : Int) : List UInt8 := if 0 ≤ n ∧ n ≤ 1000000 then numT n.toNat else []
theorem readN_numT (n : Nat) (h : n ≤ 1000000) : readN (numT n) = n := by
  unfold readN; rw [val_numT]; rw [if_pos ⟨by simp, by omega⟩]
theorem readN_of (l : List UInt8) (h0 : l ≠ []) (ha : l.all isDi = true) (hh : l.length = 1 ∨ (l.headD 0).toNat ≠ 48) (hv : val l ≤ 1000000) : readN l = val l := by
  unfold readN; rw [if_pos ⟨numT_val l h0 ha hh, hv⟩]
theorem readN_no (l : List UInt8) (h : ∀ n : Nat, n ≤ 1000000 → numT n ≠ l) : readN l = -1 := by
  unfold readN
  by_cases hc : numT (val l).toNat = l ∧ val l ≤ 1000000
  · exact absurd hc.1 (h _ (by omega))
  · rw [if_neg hc]
theorem readN_digit (l : List UInt8) (h : l.all isDi = false) : readN l = -1 :=
  readN_no l fun n _ e => by rw [← e, numT_all] at h; cases h
theorem readN_long (l : List UInt8) (h : 7 < l.length) : readN l = -1 :=
  readN_no l fun n hn e => by have := numT_len7 n hn; rw [e] at this; omega
theorem readN_great (l : List UInt8) (k : Nat) (h : 1000000 < val (l.take k)) : readN l = -1 :=
  readN_no l fun n hn e => by
    have h1 := val_take l k (by rw [← e]; exact numT_all n)
    rw [← e, val_numT] at h1
    rw [← e] at h
    omega
theorem readN_zero (l : List UInt8) (h1 : 1 < l.length) (h : (l.headD 0).toNat = 48) : readN l = -1 :=
  readN_no l fun n _ e => by
    by_cases hn : 0 < n
    · exact numT_head n hn (by rw [e]; exact h)
    · obtain rfl : n = 0 := by omega
      rw [numT, if_pos (by omega)] at e
      rw [← e] at h1; simp at h1
theorem textN_readN (l : List UInt8) (h : 0 ≤ readN l) : textN (readN l) = l := by
  unfold readN at h ⊢
  by_cases hc : numT (val l).toNat = l ∧ val l ≤ 1000000
  · rw [if_pos hc] at h ⊢
    unfold textN; rw [if_pos ⟨h, hc.2⟩]; exact hc.1
  · rw [if_neg hc] at h; omega
theorem readN_lt (l : List UInt8) (h : readN l < 0) : readN l = -1 := by
  unfold readN at h ⊢
  by_cases hc : numT (val l).toNat = l ∧ val l ≤ 1000000
  · rw [if_pos hc] at h ⊢
    have := val_nonneg l (by rw [← hc.1]; exact numT_all _)
    omega
  · rw [if_neg hc]
/-- A text whose number, of at most eight digits, has another text, is the text of no number. -/
theorem readN_ne (l : List UInt8) (v : Int) (hv : v = val (l.take 8)) (h : textN v ≠ l) : readN l = -1 :=
  readN_no l fun n hn e => by
    have h7 := numT_len7 n hn
    rw [e] at h7
    rw [List.take_of_length_le (by omega), ← e, val_numT] at hv
    apply h
    subst hv
    unfold textN; rw [if_pos (by omega)]; exact e
theorem readN_eq (l : List UInt8) (v : Int) (hv : v = val (l.take 8)) (h0 : l ≠ []) (h : textN v = l) : readN l = v := by
  unfold textN at h
  by_cases hc : 0 ≤ v ∧ v ≤ 1000000
  · rw [if_pos hc] at h
    rw [← h, readN_numT _ (by omega)]; omega
  · rw [if_neg hc] at h; exact absurd h.symm h0
theorem readN_nil : readN [] = -1 := readN_no [] fun n _ => numT_ne n
end Go.Proofs.Ytplcdadedpbkpaa
end
section
/- Plain facts about worlds: what calls leave of the cells. -/
namespace Go.Proofs.Ytplcdadedpbkpaa
open Go.RowKit
set_option linter.unusedVariables false

theorem bcell {W w1 : World} (hb : Below W.heap.size W w1) : (∀ b o, b < W.heap.size → w1.cell? ⟨b, o, none⟩ = W.cell? ⟨b, o, none⟩) ∧ (∀ b o, b < W.heap.size → w1.frozen? ⟨b, o, none⟩ = W.frozen? ⟨b, o, none⟩) :=
  ⟨fun b o h => hb.cell (p := ⟨b, o, none⟩) h, fun b o h => hb.frozen (p := ⟨b, o, none⟩) h⟩
/-- The two cells of a result behind the stores into both. -/
theorem set_two {w1 : World} {b : Nat} {u0 u1 : Value} (h0 : w1.cell? ⟨b, 0, none⟩ = some u0) (h1 : w1.cell? ⟨b, 1, none⟩ = some u1) (v0 v1 : Value) :
    (w1.setCell ⟨b, 0, none⟩ v0).cell? ⟨b, 0, none⟩ = some v0 ∧ ((w1.setCell ⟨b, 0, none⟩ v0).setCell ⟨b, 1, none⟩ v1).cell? ⟨b, 1, none⟩ = some v1 := by
  refine ⟨World.cell?_setCell_same _ _ _ h0, World.cell?_setCell_same (u := u1) _ _ _ ?_⟩
  rw [World.cell?_setCell_other _ _ _ _ (by intro e; injection e with _ e2; cases e2)]
  exact h1

/-- A block of memory, known whole: its cells, none frozen. -/
def Holds (w : World) (g : Nat) (t : TypeId) (cs : Array Value) : Prop := w.heap[g]? = some (.cells cs t (0, 0))
section
variable {w w' : World} {g : Nat} {t : TypeId} {cs : Array Value}
theorem Holds.lt (h : Holds w g t cs) : g < w.heap.size := (Array.getElem?_eq_some_iff.mp h).1
theorem Holds.cell (h : Holds w g t cs) (i : Nat) (v : Value) (hv : cs[i]? = some v) : w.cell? ⟨g, i, none⟩ = some v := by
  unfold Holds at h
  simp [World.cell?, h, hv]
theorem Holds.free (h : Holds w g t cs) (i : Nat) : w.frozen? ⟨g, i, none⟩ = false := by
  unfold Holds at h
  simp [World.frozen?, h]
theorem Holds.new (w : World) (t : TypeId) (cs : Array Value) : Holds (w.alloc (.cells cs t)) w.heap.size t cs := by
  show (w.heap.push _)[_]? = _
  simp
theorem Holds.alloc (h : Holds w g t cs) (o : Obj) : Holds (w.alloc o) g t cs := (Below.heap_alloc w o g h.lt).trans h
theorem Holds.below {B : Nat} (h : Holds w g t cs) (hb : Below B w w') (hg : g < B) : Holds w' g t cs := (hb.block g hg).trans h
/-- Behind a call that leaves all that was. -/
theorem Holds.call (h : Holds w g t cs) (hb : Below w.heap.size w w') : Holds w' g t cs := h.below hb h.lt
theorem Holds.grown {r : Nat} (h : Holds w g t cs) (hb : w.grownBy w' (some r)) (hg : g ≠ r) : Holds w' g t cs :=
  (hb.block g h.lt (by intro e; injection e with e; exact hg e)).trans h
theorem Holds.drew (h : Holds w g t cs) : Holds w.drew g t cs := h
theorem Holds.drewN (h : Holds w g t cs) (n : Nat) : Holds (w.drewN n) g t cs := h
theorem Holds.far (h : Holds w g t cs) {p : Addr} (hp : g ≠ p.block) (u : Value) : Holds (w.setCell p u) g t cs := (Below.heap_setCell w p u g hp).trans h
theorem Holds.set (h : Holds w g t cs) (i : Nat) (u : Value) : Holds (w.setCell ⟨g, i, none⟩ u) g t (cs.setIfInBounds i u) := by
  unfold Holds at h ⊢
  simp [World.setCell, Array.getElem?_modify, h]
end
/-- One call after another. -/
theorem btrans {w w1 w2 : World} (h : Below w.heap.size w w1) (h2 : Below w1.heap.size w1 w2) : Below w.heap.size w w2 := h.trans (h2.mono h.size)
theorem balloc {w w1 : World} (h : Below w.heap.size w w1) (o : Obj) : Below w.heap.size w (w1.alloc o) := h.alloc h.size o
theorem bnew (w : World) (o : Obj) : Below w.heap.size w (w.alloc o) := (Below.refl _ _).alloc (Nat.le_refl _) o
theorem bdrewN {B : Nat} {w w1 : World} (h : Below B w w1) (n : Nat) : Below B w (w1.drewN n) := ⟨h.os, h.tape, h.output, h.size, h.block⟩
theorem bdrew {B : Nat} {w w1 : World} (h : Below B w w1) : Below B w w1.drew := ⟨h.os, h.tape, h.output, h.size, h.block⟩
end Go.Proofs.Ytplcdadedpbkpaa
end
section
/- The contracts of the functions of chapter 1: words. -/
namespace Go.Proofs.Ytplcdadedpbkpaa
open Go.RowKit
set_option linter.unusedVariables false

theorem bk_any (c : Int) (w : World) (h0 : 0 ≤ c) (h1 : c ≤ 255) :
    Calls Try.prog 47 #[.int .u8 c] w fun e w' => e = .returned (.int .i64 (kind c)) ∧ w = w' := by
  by_cases hc : c = 32
  · subst hc
    go_enter Try.func47, Try.ntmps47
    go_wp2
    go_ret
    exact ⟨rfl, rfl⟩
  · have hb : (c == 32) = false := by simpa using hc
    go_enter Try.func47, Try.ntmps47
    go_wp2
    all_goals
      go_ret
      exact ⟨ret_int (by unfold kind; (repeat' split) <;> omega), rfl⟩

theorem kind_lo {c : UInt8} (h : isLo c = true) : kind (c.toNat : Int) = 4 := by
  unfold isLo at h; unfold kind; rw [if_pos (of_decide_eq_true h)]
theorem kind_di {c : UInt8} (h : isLo c = false) (h2 : isDi c = true) : kind (c.toNat : Int) = 3 := by
  unfold isLo at h; unfold isDi at h2; unfold kind; rw [if_neg (of_decide_eq_false h), if_pos (of_decide_eq_true h2)]
theorem kind_ot {c : UInt8} (h : isLo c = false) (h2 : isDi c = false) : kind (c.toNat : Int) < 3 := by
  unfold isLo at h; unfold isDi at h2; unfold kind; rw [if_neg (of_decide_eq_false h), if_neg (of_decide_eq_false h2)]
  repeat' split
  all_goals omega

theorem bk_4 (c : UInt8) (w : World) (h : isLo c = true) :
    Calls Try.prog 47 #[.int .u8 (c.toNat : Int)] w fun e w' => e = .returned (.int .i64 4) ∧ w = w' := by
  have := bk_any (c.toNat : Int) w (by omega) (by have := c.toNat_lt; omega)
  rw [kind_lo h] at this; exact this
theorem bk_3 (c : UInt8) (w : World) (h : isLo c = false) (h2 : isDi c = true) :
    Calls Try.prog 47 #[.int .u8 (c.toNat : Int)] w fun e w' => e = .returned (.int .i64 3) ∧ w = w' := by
  have := bk_any (c.toNat : Int) w (by omega) (by have := c.toNat_lt; omega)
  rw [kind_di h h2] at this; exact this
theorem bk_0 (c : UInt8) (w : World) (h : isLo c = false) (h2 : isDi c = false) :
    Calls Try.prog 47 #[.int .u8 (c.toNat : Int)] w fun e w' => (∃ k : Int, (k != 4) = true ∧ (k != 3) = true ∧ e = .returned (.int .i64 k)) ∧ w = w' :=
  (bk_any (c.toNat : Int) w (by omega) (by have := c.toNat_lt; omega)).mono fun _ _ ⟨he, hw⟩ => ⟨⟨_, by have := kind_ot h h2; simp; omega, by have := kind_ot h h2; simp; omega, he⟩, hw⟩

theorem kind_ln {c : UInt8} (h : isLn c = true) : (kind (c.toNat : Int) == 0) = false := by
  unfold isLn at h; have := of_decide_eq_true h; unfold kind
  repeat' split
  all_goals first | rfl | (exfalso; omega)
theorem kind_nl {c : UInt8} (h : isLn c = false) : kind (c.toNat : Int) = 0 := by
  unfold isLn at h; have := of_decide_eq_false h; unfold kind
  repeat' split
  all_goals first | rfl | (exfalso; omega)
theorem bk_ln (c : UInt8) (w : World) (h : isLn c = true) :
    Calls Try.prog 47 #[.int .u8 (c.toNat : Int)] w fun e w' => (∃ k : Int, (k == 0) = false ∧ e = .returned (.int .i64 k)) ∧ w = w' :=
  (bk_any (c.toNat : Int) w (by omega) (by have := c.toNat_lt; omega)).mono fun _ _ ⟨he, hw⟩ => ⟨⟨_, kind_ln h, he⟩, hw⟩
theorem bk_nl (c : UInt8) (w : World) (h : isLn c = false) :
    Calls Try.prog 47 #[.int .u8 (c.toNat : Int)] w fun e w' => e = .returned (.int .i64 0) ∧ w = w' := by
  have := bk_any (c.toNat : Int) w (by omega) (by have := c.toNat_lt; omega)
  rw [kind_nl h] at this; exact this

theorem in_any (n lo hi : Int) (w : World) :
    Calls Try.prog 45 #[.int .i64 n, .int .i64 lo, .int .i64 hi] w fun e w' => e = .returned (.bool (decide (lo ≤ n) && decide (n ≤ hi))) ∧ w = w' := by
  by_cases h1 : lo ≤ n <;> by_cases h2 : n ≤ hi
  all_goals
    go_enter Try.func45, Try.ntmps45
    go_wp2
    go_ret
    exact ⟨ret_bool (by simp [h1, h2]), rfl⟩

set_option maxHeartbeats 400000 in
theorem iword_any (s : ByteArray) (w : World) (hs : s.size ≤ maxLen) :
    Calls Try.prog 28 #[.string s] w fun e w' => e = .returned (.bool (wordB s.data.toList)) ∧ w = w' := by
  unfold maxLen at hs
  have hl : s.data.toList.length = s.size := by simp
  by_cases h0 : s.size < 1
  · go_enter Try.func28, Try.ntmps28
    go_wp2
    go_ret
    exact ⟨ret_bool (by unfold wordB; rw [decide_eq_false (by omega)]; rfl), rfl⟩
  by_cases h1 : 10 < s.size
  · go_enter Try.func28, Try.ntmps28
    go_wp2
    go_ret
    exact ⟨ret_bool (by unfold wordB; rw [decide_eq_false (p := s.data.toList.length ≤ 10) (by omega)]; simp), rfl⟩
  have hp : 0 < s.size := by omega
  have hd := head_at s hp
  by_cases h2 : isLo s[0] = true
  · have HD : Hid (wordB s.data.toList = s.data.toList.all isLd) := by
      unfold wordB; rw [hd, h2, decide_eq_true (p := 1 ≤ s.data.toList.length) (by omega), decide_eq_true (p := s.data.toList.length ≤ 10) (by omega)]; rfl
    have H1 : Hid ((s.data.toList.take 1).all isLd = true) := by
      have := all_snoc isLd s 0 hp
      have e : isLd s[0] = true := by unfold isLd; rw [h2]; rfl
      show _ = _
      rw [e] at this; simpa using this
    clear hd hl
    go_enter Try.func28, Try.ntmps28
    go_wp2_with (go_at_call 47; refine (bk_4 _ _ h2).mono ?_; rintro e w' ⟨rfl, rfl⟩)
    go_loop [3] (fun i => ∃ k : Nat, 1 ≤ k ∧ k ≤ s.size ∧ i = .int .i64 k ∧ (s.data.toList.take k).all isLd = true) (fun i => s.size - (intOf i).toNat)
    case atStart => exact ⟨1, Nat.le_refl _, by omega, rfl, H1.out⟩
    case round =>
      obtain ⟨k, hk1, hk, rfl, hall⟩ := hrel
      have HA : Hid ((s.data.toList.take k).all isLd = true) := hall
      clear hall
      by_cases hlt : k < s.size
      · have HS := Lib.hid (all_snoc isLd s k hlt)
        by_cases h3 : isLo s[k] = true
        · have HE : Hid (isLd s[k] = true) := by show _ = _; unfold isLd; rw [h3]; rfl
          go_wp2_with (go_at_call 47; refine (bk_4 _ _ h3).mono ?_; rintro e w' ⟨rfl, rfl⟩)
          go_round
          case rel => exact ⟨k + 1, by omega, by omega, by go_num, by rw [HS.out, HA.out, HE.out]; rfl⟩
          case measure => simp [intOf]; omega
        · have h3 : isLo s[k] = false := by simpa using h3
          by_cases h4 : isDi s[k] = true
          · have HE : Hid (isLd s[k] = true) := by show _ = _; unfold isLd; rw [h4]; simp
            go_wp2_with (go_at_call 47; refine (bk_3 _ _ h3 h4).mono ?_; rintro e w' ⟨rfl, rfl⟩)
            go_round
            case rel => exact ⟨k + 1, by omega, by omega, by go_num, by rw [HS.out, HA.out, HE.out]; rfl⟩
            case measure => simp [intOf]; omega
          · have h4 : isDi s[k] = false := by simpa using h4
            have HE : Hid (isLd s[k] = false) := by show _ = _; unfold isLd; rw [h3, h4]; rfl
            go_wp2_with (go_at_call 47; refine (bk_0 _ _ h3 h4).mono ?_; rintro e w' ⟨⟨kk, hq4, hq3, rfl⟩, rfl⟩)
            go_ret
            exact ⟨ret_bool (by rw [HD.out, all_not isLd s k hlt HE.out]), rfl⟩
      · go_wp2
        go_ret
        exact ⟨ret_bool (by rw [HD.out, ← HA.out, List.take_of_length_le (by simp; omega)]), rfl⟩
  · have h2 : isLo s[0] = false := by simpa using h2
    have HD : Hid (wordB s.data.toList = false) := by
      show _ = _
      unfold wordB; rw [hd, h2]; simp
    clear hd hl
    go_enter Try.func28, Try.ntmps28
    by_cases h4 : isDi s[0] = true
    · go_wp2_with (go_at_call 47; refine (bk_3 _ _ h2 h4).mono ?_; rintro e w' ⟨rfl, rfl⟩)
      go_ret
      exact ⟨ret_bool (by rw [HD.out]), rfl⟩
    · have h4 : isDi s[0] = false := by simpa using h4
      go_wp2_with (go_at_call 47; refine (bk_0 _ _ h2 h4).mono ?_; rintro e w' ⟨⟨kk, hq4, hq3, rfl⟩, rfl⟩)
      go_ret
      exact ⟨ret_bool (by rw [HD.out]), rfl⟩

set_option maxHeartbeats 400000 in
theorem sword_any (s : ByteArray) (w : World) (hs : s.size ≤ maxLen) :
    Calls Try.prog 44 #[.string s] w fun e w' => e = .returned (.bool (wordB s.data.toList)) ∧ w = w' := by
  unfold maxLen at hs
  go_enter Try.func44, Try.ntmps44
  go_wp2
  go_loop [3] (fun i => ∃ k : Nat, k ≤ s.size ∧ i = .int .i64 k ∧ ((s.data.toList.take k).all isLd = true ∧ (0 < k → isLo (s.data.toList.headD 0) = true))) (fun i => s.size - (intOf i).toNat)
  case atStart => exact ⟨0, Nat.zero_le _, rfl, rfl, fun h => absurd h (by omega)⟩
  case round =>
    obtain ⟨k, hk, rfl, hall⟩ := hrel
    have HA := Lib.hid hall
    clear hall
    by_cases hlt : k < s.size
    · have HS := Lib.hid (all_snoc isLd s k hlt)
      by_cases h3 : isLo s[k] = true
      · have h3' := of_decide_eq_true h3
        have HE : Hid (isLd s[k] = true ∧ (k = 0 → isLo (s.data.toList.headD 0) = true)) := by
          refine ⟨by unfold isLd; rw [h3]; rfl, fun hk0 => ?_⟩
          subst hk0; rw [head_at s hlt]; exact h3
        clear h3
        go_wp2
        go_round
        case rel =>
          refine ⟨k + 1, by omega, by go_num, by rw [HS.out, HA.out.1, HE.out.1]; rfl, fun _ => ?_⟩
          by_cases hk0 : k = 0
          · exact HE.out.2 hk0
          · exact HA.out.2 (by omega)
        case measure => simp [intOf]; omega
      · have h3 : isLo s[k] = false := by simpa using h3
        have h3' : (s[k].toNat : Int) < 97 ∨ (97 ≤ (s[k].toNat : Int) ∧ 122 < (s[k].toNat : Int) ∧ decide ((s[k].toNat : Int) ≤ 122) = false) := by
          have := of_decide_eq_false h3
          by_cases hq : (s[k].toNat : Int) < 97
          · exact .inl hq
          · exact .inr ⟨by omega, by omega, decide_eq_false (by omega)⟩
        by_cases h5 : k = 0
        · subst h5
          have HF : Hid (isLo (s.data.toList.headD 0) = false) := by show _ = _; rw [head_at s hlt]; exact h3
          clear h3
          rcases h3' with h3' | ⟨h3', h3'', h3d⟩
          all_goals
            go_wp2
            go_ret
            exact ⟨ret_bool (by unfold wordB; rw [HF.out]; simp), rfl⟩
        · have h5' : 0 < k := by omega
          have h5b : ((k : Int) == 0) = false := by simp; omega
          by_cases h4 : isDi s[k] = true
          · have h4' := of_decide_eq_true h4
            have HE : Hid (isLd s[k] = true) := by show _ = _; unfold isLd; rw [h4]; simp
            have h3q : (s[k].toNat : Int) < 97 := by omega
            clear h3 h4 h3'
            go_wp2
            go_round
            case rel => exact ⟨k + 1, by omega, by go_num, by rw [HS.out, HA.out.1, HE.out]; rfl, fun _ => HA.out.2 h5'⟩
            case measure => simp [intOf]; omega
          · have h4 : isDi s[k] = false := by simpa using h4
            have h4' := of_decide_eq_false h4
            have HE : Hid (s.data.toList.all isLd = false) := all_not isLd s k hlt (by unfold isLd; rw [h3, h4]; rfl)
            clear h3 h4
            have h4q : (s[k].toNat : Int) < 48 ∨ 57 < (s[k].toNat : Int) := by omega
            rcases h4q with h4q | h4q
            all_goals
              rcases h3' with h3' | ⟨h3', h3'', h3d⟩
            all_goals
              try (exfalso; omega)
            all_goals
              go_wp2
              go_ret
              exact ⟨ret_bool (by unfold wordB; rw [HE.out]; simp), rfl⟩
    · go_wp2_with (go_at_call 45; refine (in_any _ _ _ _).mono ?_; rintro e w' ⟨rfl, rfl⟩)
      go_ret
      have hk' : k = s.size := by omega
      have hAll : s.data.toList.all isLd = true := by rw [← HA.out.1, List.take_of_length_le (by simp; omega)]
      refine ⟨ret_bool ?_, rfl⟩
      unfold wordB
      rw [hAll]
      have e1 : s.data.toList.length = s.size := by simp
      by_cases hz : s.size = 0
      · rw [decide_eq_false (p := 1 ≤ s.data.toList.length) (by omega), decide_eq_false (p := (1 : Int) ≤ (s.size : Int)) (by omega)]; rfl
      · rw [HA.out.2 (by omega), decide_eq_true (p := 1 ≤ s.data.toList.length) (by omega), decide_eq_true (p := (1 : Int) ≤ (s.size : Int)) (by omega)]
        rw [Bool.eq_iff_iff]
        simp
        try omega
end Go.Proofs.Ytplcdadedpbkpaa
end
section
/- The contracts of WordValid, one for each answer. -/
namespace Go.Proofs.Ytplcdadedpbkpaa
open Go.RowKit
set_option linter.unusedVariables false

theorem iword_t (s : ByteArray) (w : World) (hs : s.size ≤ maxLen) (h : wordB s.data.toList = true) :
    Calls Try.prog 28 #[.string s] w fun e w' => e = .returned (.bool true) ∧ w = w' := by
  have := iword_any s w hs; rw [h] at this; exact this
theorem iword_f (s : ByteArray) (w : World) (hs : s.size ≤ maxLen) (h : wordB s.data.toList = false) :
    Calls Try.prog 28 #[.string s] w fun e w' => e = .returned (.bool false) ∧ w = w' := by
  have := iword_any s w hs; rw [h] at this; exact this
theorem sword_t (s : ByteArray) (w : World) (hs : s.size ≤ maxLen) (h : wordB s.data.toList = true) :
    Calls Try.prog 44 #[.string s] w fun e w' => e = .returned (.bool true) ∧ w = w' := by
  have := sword_any s w hs; rw [h] at this; exact this
theorem sword_f (s : ByteArray) (w : World) (hs : s.size ≤ maxLen) (h : wordB s.data.toList = false) :
    Calls Try.prog 44 #[.string s] w fun e w' => e = .returned (.bool false) ∧ w = w' := by
  have := sword_any s w hs; rw [h] at this; exact this

end Go.Proofs.Ytplcdadedpbkpaa
end
section
/- The contracts of LineValid. -/
namespace Go.Proofs.Ytplcdadedpbkpaa
open Go.RowKit
set_option linter.unusedVariables false

/-! ### Lines -/
set_option maxHeartbeats 400000 in
theorem iline_any (s : ByteArray) (w : World) (hs : s.size ≤ maxLen) :
    Calls Try.prog 41 #[.string s] w fun e w' => e = .returned (.bool (lineB s.data.toList)) ∧ w = w' := by
  unfold maxLen at hs
  have hl : s.data.toList.length = s.size := by simp
  by_cases h1 : 60 < s.size
  · go_enter Try.func41, Try.ntmps41
    go_wp2
    go_ret
    exact ⟨ret_bool (by unfold lineB; rw [decide_eq_false (by omega)]; rfl), rfl⟩
  have HL := Lib.hid hl
  clear hl
  go_enter Try.func41, Try.ntmps41
  go_wp2
  go_loop [3] (fun i => ∃ k : Nat, k ≤ s.size ∧ i = .int .i64 k ∧ (s.data.toList.take k).all isLn = true) (fun i => s.size - (intOf i).toNat)
  case atStart => exact ⟨0, Nat.zero_le _, rfl, rfl⟩
  case round =>
    obtain ⟨k, hk, rfl, hall⟩ := hrel
    have HA := Lib.hid hall
    clear hall
    by_cases hlt : k < s.size
    · have HS := Lib.hid (all_snoc isLn s k hlt)
      by_cases h3 : isLn s[k] = true
      · have HE := Lib.hid h3
        have hkd := kind_ln h3
        go_wp2_with (go_at_call 47; refine (bk_ln _ _ h3).mono ?_; rintro e w' ⟨⟨kk, hq, rfl⟩, rfl⟩)
        go_round
        case rel => exact ⟨k + 1, by omega, by go_num, by rw [HS.out, HA.out, HE.out]; rfl⟩
        case measure => simp [intOf]; omega
      · have h3 : isLn s[k] = false := by simpa using h3
        have HE : Hid (s.data.toList.all isLn = false) := all_not isLn s k hlt h3
        go_wp2_with (go_at_call 47; refine (bk_nl _ _ h3).mono ?_; rintro e w' ⟨rfl, rfl⟩)
        go_ret
        exact ⟨ret_bool (by unfold lineB; rw [HE.out]; simp), rfl⟩
    · have hAll : Hid (s.data.toList.all isLn = true) := by
        have := HA.out
        rw [List.take_of_length_le (by simp; omega)] at this; exact this
      clear HA
      by_cases h0 : s.size = 0
      · go_wp2
        go_ret
        refine ⟨ret_bool ?_, rfl⟩
        unfold lineB
        rw [hAll.out, List.eq_nil_of_length_eq_zero (HL.out.trans h0)]
        rfl
      · have hp : 0 < s.size := by omega
        have hh := Lib.hid (head_at s hp)
        have hla := Lib.hid (last_at s hp)
        have HZ := Lib.hid h0
        have hb0 : ((s.size : Int) == 0) = false := beq_eq_false_iff_ne.mpr (by omega)
        clear h0
        go_wp2
        all_goals
          go_ret
          refine ⟨ret_bool ?_, rfl⟩
          unfold lineB
          rw [hAll.out, hh.out, hla.out, decide_eq_true (p := s.data.toList.length ≤ 60) (by have := HL.out; omega), show s.data.toList.isEmpty = false by rw [List.isEmpty_eq_false_iff]; intro e; have := HL.out; rw [e] at this; exact HZ.out this.symm]
          rw [Bool.eq_iff_iff]
          simp
          try omega

set_option maxHeartbeats 400000 in
theorem sline_any (s : ByteArray) (w : World) (hs : s.size ≤ maxLen) :
    Calls Try.prog 46 #[.string s] w fun e w' => e = .returned (.bool (lineB s.data.toList)) ∧ w = w' := by
  unfold maxLen at hs
  have HL := Lib.hid (show s.data.toList.length = s.size by simp)
  go_enter Try.func46, Try.ntmps46
  go_wp2
  go_loop [3] (fun i => ∃ k : Nat, k ≤ s.size ∧ i = .int .i64 k ∧ (s.data.toList.take k).all isLn = true) (fun i => s.size - (intOf i).toNat)
  case atStart => exact ⟨0, Nat.zero_le _, rfl, rfl⟩
  case round =>
    obtain ⟨k, hk, rfl, hall⟩ := hrel
    have HA := Lib.hid hall
    clear hall
    by_cases hlt : k < s.size
    · have HS := Lib.hid (all_snoc isLn s k hlt)
      by_cases h3 : isLn s[k] = true
      · have HE := Lib.hid h3
        have h4 := of_decide_eq_true h3
        clear h3
        go_wp2
        go_round
        case rel => exact ⟨k + 1, by omega, by go_num, by rw [HS.out, HA.out, HE.out]; rfl⟩
        case measure => simp [intOf]; omega
      · have h3 : isLn s[k] = false := by simpa using h3
        have HE : Hid (s.data.toList.all isLn = false) := all_not isLn s k hlt h3
        have h4 : (s[k].toNat : Int) < 32 ∨ 126 < (s[k].toNat : Int) := by have := of_decide_eq_false h3; omega
        clear h3
        rcases h4 with h4 | h4
        all_goals
          go_wp2
          go_ret
          exact ⟨ret_bool (by unfold lineB; rw [HE.out]; simp), rfl⟩
    · have hAll : Hid (s.data.toList.all isLn = true) := by
        have := HA.out
        rw [List.take_of_length_le (by simp; omega)] at this; exact this
      clear HA
      by_cases h60 : 60 < s.size
      · go_wp2
        go_ret
        refine ⟨ret_bool ?_, rfl⟩
        unfold lineB
        rw [decide_eq_false (p := s.data.toList.length ≤ 60) (by have := HL.out; omega)]
        rfl
      have hd60 : decide ((s.size : Int) ≤ 60) = true := decide_eq_true (by omega)
      by_cases h0 : s.size = 0
      · have HN := Lib.hid (List.eq_nil_of_length_eq_zero (HL.out.trans h0))
        have hE : s.toList = [] := by rw [ByteArray.toList_eq]; exact HN.out
        have hE2 : s.toList.isEmpty = true := by rw [hE]; rfl
        clear hE
        go_wp2
        go_ret
        refine ⟨ret_bool ?_, rfl⟩
        unfold lineB
        rw [HN.out]
        rfl
      · have hp : 0 < s.size := by omega
        have hh := Lib.hid (head_at s hp)
        have hla := Lib.hid (last_at s hp)
        have HZ := Lib.hid h0
        have hE2 : s.toList.isEmpty = false := by
          rw [List.isEmpty_eq_false_iff, ByteArray.toList_eq]; intro e; have := HL.out; rw [e] at this; exact h0 this.symm
        clear h0
        go_wp2
        all_goals
          go_ret
          refine ⟨ret_bool ?_, rfl⟩
          unfold lineB
          rw [hAll.out, hh.out, hla.out, decide_eq_true (p := s.data.toList.length ≤ 60) (by have := HL.out; omega), show s.data.toList.isEmpty = false by rw [List.isEmpty_eq_false_iff]; intro e; have := HL.out; rw [e] at this; exact HZ.out this.symm]
          rw [Bool.eq_iff_iff]
          simp
          try omega
/-! ### Numbers that are read -/
theorem bk_d (c : UInt8) (w : World) (h : isDi c = true) :
    Calls Try.prog 47 #[.int .u8 (c.toNat : Int)] w fun e w' => e = .returned (.int .i64 3) ∧ w = w' :=
  bk_3 c w (by unfold isDi at h; have := of_decide_eq_true h; unfold isLo; exact decide_eq_false (by omega)) h
theorem iline_t (s : ByteArray) (w : World) (hs : s.size ≤ maxLen) (h : lineB s.data.toList = true) :
    Calls Try.prog 41 #[.string s] w fun e w' => e = .returned (.bool true) ∧ w = w' := by
  have := iline_any s w hs; rw [h] at this; exact this
theorem iline_f (s : ByteArray) (w : World) (hs : s.size ≤ maxLen) (h : lineB s.data.toList = false) :
    Calls Try.prog 41 #[.string s] w fun e w' => e = .returned (.bool false) ∧ w = w' := by
  have := iline_any s w hs; rw [h] at this; exact this
theorem sline_t (s : ByteArray) (w : World) (hs : s.size ≤ maxLen) (h : lineB s.data.toList = true) :
    Calls Try.prog 46 #[.string s] w fun e w' => e = .returned (.bool true) ∧ w = w' := by
  have := sline_any s w hs; rw [h] at this; exact this
theorem sline_f (s : ByteArray) (w : World) (hs : s.size ≤ maxLen) (h : lineB s.data.toList = false) :
    Calls Try.prog 46 #[.string s] w fun e w' => e = .returned (.bool false) ∧ w = w' := by
  have := sline_any s w hs; rw [h] at this; exact this

end Go.Proofs.Ytplcdadedpbkpaa
end
section
/- One byte as a text. -/
namespace Go.Proofs.Ytplcdadedpbkpaa
open Go.RowKit
set_option linter.unusedVariables false

theorem rest_step (r : Nat) (hr : 0 < r) (t : List UInt8) : preT (r / 10) ++ ([dg (r % 10)] ++ t) = preT r ++ t := by
  rw [preT_pos hr, numT_eq r, List.append_assoc]
theorem tod (r : Nat) : ((r : Int) % 10).toNat = r % 10 := by omega

/-- The byte of a number. -/
def byteOf (x : Int) : UInt8 := UInt8.ofNat x.toNat
/-- string([]byte{x}) of one byte. -/
theorem run_one (w : World) (x : Int) :
    (convert 22 9 (.slice (some ⟨w.heap.size, 0, none⟩) 1 1)).run Try.prog (w.alloc (.cells #[.int .u8 x] 5)) = .ok (.string ⟨#[byteOf x]⟩) (w.alloc (.cells #[.int .u8 x] 5)) := by
  rw [run_convert_bytes_string _ 22 9 5 (some ⟨w.heap.size, 0, none⟩) 1 1 Try.underlying22 Try.underlying5 Try.underlying9]
  have hl := run_loadCells_list (P := Try.prog) (w.alloc (.cells #[.int .u8 x] 5)) ⟨w.heap.size, 0, none⟩ ([x].map (Value.int .u8)) (fun j v hj => by
    match j, hj with
    | 0, hj => simp at hj; subst hj; simp [Addr.add])
  simp only [List.length_map, List.length_singleton] at hl
  rw [run_bytesToString _ _ 1 1 _ hl]
  rfl

theorem dg_int (r : Nat) : byteOf (48 + (r : Int) % 10) = dg (r % 10) := by
  unfold byteOf dg; congr 1

end Go.Proofs.Ytplcdadedpbkpaa
end
section
/- Plain facts about slices in memory: what a call may read, and what it made itself. -/
namespace Go.Proofs.Ytplcdadedpbkpaa
open Go.RowKit
set_option linter.unusedVariables false

/-- A slice of n elements of m cells each, as a call may read it: its cells lie in a block below B. -/
def Sees (w : World) (B m : Nat) (A : Option Addr) (n : Nat) (xs : List Value) : Prop :=
  xs.length = n * m ∧ (0 < n → ∃ b off, A = some ⟨b, off, none⟩ ∧ b < B ∧ ∀ j u, xs[j]? = some u → w.cell? ⟨b, off + j, none⟩ = some u)
section
variable {w w' : World} {B B' m n : Nat} {A : Option Addr} {xs : List Value}
theorem Sees.none_ : Sees w B m A 0 [] := ⟨by simp, fun h => absurd h (by omega)⟩
theorem Sees.keep (h : Sees w B m A n xs) (hk : ∀ p : Addr, p.block < B → w'.cell? p = w.cell? p) : Sees w' B m A n xs :=
  ⟨h.1, fun hn => by
    obtain ⟨b, off, e, hb, hc⟩ := h.2 hn
    exact ⟨b, off, e, hb, fun j u hu => (hk ⟨b, off + j, none⟩ hb).trans (hc j u hu)⟩⟩
theorem Sees.more (h : Sees w B m A n xs) (hB : B ≤ B') : Sees w B' m A n xs :=
  ⟨h.1, fun hn => by
    obtain ⟨b, off, e, hb, hc⟩ := h.2 hn
    exact ⟨b, off, e, by omega, hc⟩⟩
theorem Sees.below (h : Sees w B m A n xs) (hb : Below B' w w') (hB : B ≤ B') : Sees w' B m A n xs := h.keep fun _ hp => hb.cell (Nat.lt_of_lt_of_le hp hB)
theorem Sees.drew (h : Sees w B m A n xs) : Sees w.drew B m A n xs := h
theorem Sees.drewN (h : Sees w B m A n xs) (k : Nat) : Sees (w.drewN k) B m A n xs := h
theorem Sees.alloc (h : Sees w B m A n xs) (hB : B ≤ w.heap.size) (o : Obj) : Sees (w.alloc o) B m A n xs := h.below ((Below.refl _ _).alloc hB o) (Nat.le_refl _)
theorem Sees.set (h : Sees w B m A n xs) {p : Addr} (hp : B ≤ p.block) (u : Value) : Sees (w.setCell p u) B m A n xs := h.below ((Below.refl _ _).setCell hp u) (Nat.le_refl _)
theorem Sees.grown (h : Sees w B m A n xs) {row : Option Nat} (hg : w.grownBy w' row) (hB : B ≤ w.heap.size) (hr : ∀ g, row = some g → B ≤ g) : Sees w' B m A n xs :=
  h.keep fun p hp => World.cell?_of_block (hg.block p.block (by omega) (fun e => by have := hr _ e.symm; omega))
theorem Sees.of_own {base e c : Nat} (h : w.ownsRow base e m (.slice A n c) n xs) : Sees w w.heap.size m A n xs := by
  refine ⟨h.1, fun hn => ?_⟩
  rcases h.2 with ⟨_, h0⟩ | ⟨g, cap, cur, hv, _, hh, _, _, _, ht⟩
  · omega
  · have hA : A = some ⟨g, 0, none⟩ := by injection hv
    subst hA
    refine ⟨g, 0, rfl, (Array.getElem?_eq_some_iff.mp hh).1, fun j u hu => ?_⟩
    have hx := h.cells (g := g) rfl j u hu
    have e2 : (⟨g, 0, none⟩ : Addr).add j = ⟨g, 0 + j, none⟩ := by cases j <;> simp [Addr.add]
    rw [e2] at hx
    exact hx
/-- The rest of a slice. -/
theorem Sees.cut {b off : Nat} (h : Sees w B m (some ⟨b, off, none⟩) n xs) {k : Nat} (hk : k ≤ n) : Sees w B m (some ⟨b, off + k * m, none⟩) (n - k) (xs.drop (k * m)) := by
  refine ⟨by rw [List.length_drop, h.1, Nat.sub_mul], fun hn => ?_⟩
  obtain ⟨b', off', e, hb, hc⟩ := h.2 (by omega)
  injection e with e
  injection e with e1 e2 _
  subst e1; subst e2
  refine ⟨b, off + k * m, rfl, hb, fun j u hu => ?_⟩
  rw [List.getElem?_drop] at hu
  rw [Nat.add_assoc]
  exact hc _ u hu
theorem Sees.rest (h : Sees w B m A n xs) {k : Nat} (hk : k ≤ n) : Sees w B m (A.map fun x => x.add (k * m)) (n - k) (xs.drop (k * m)) := by
  by_cases hn : 0 < n
  · obtain ⟨b, off, e, _⟩ := h.2 hn
    subst e
    have e2 : (⟨b, off, none⟩ : Addr).add (k * m) = ⟨b, off + k * m, none⟩ := by
      generalize k * m = x
      cases x <;> simp [Addr.add]
    show Sees w B m (some ((⟨b, off, none⟩ : Addr).add (k * m))) (n - k) (xs.drop (k * m))
    rw [e2]
    exact h.cut hk
  · exact ⟨by rw [List.length_drop, h.1, Nat.sub_mul], fun h2 => absurd h2 (by omega)⟩
theorem Sees.nothing {A' : Option Addr} (h : Sees w B m A 0 xs) : Sees w B m A' 0 [] := ⟨by simp, fun h => absurd h (by omega)⟩
/-- One cell of an element. -/
theorem Sees.at (h : Sees w B m A n xs) {k j : Nat} (hk : k < n) (hj : j < m) : ∃ b off, A = some ⟨b, off, none⟩ ∧ b < B ∧ (∀ j u, xs[j]? = some u → w.cell? ⟨b, off + j, none⟩ = some u) := by
  obtain ⟨b, off, e, hb, hc⟩ := h.2 (by omega)
  exact ⟨b, off, e, hb, hc⟩
end

/-! ### Lists of elements of m cells each -/
def flat {α : Type} (C : α → List Value) (hs : List α) : List Value := hs.flatMap C
section
variable {α : Type} {C : α → List Value} {m : Nat}
theorem flat_nil : flat C [] = [] := rfl
theorem flat_append (xs ys : List α) : flat C (xs ++ ys) = flat C xs ++ flat C ys := by simp [flat]
theorem flat_one (a : α) : flat C [a] = C a := by simp [flat]
theorem flat_len (hm : ∀ a, (C a).length = m) (hs : List α) : (flat C hs).length = hs.length * m := by
  induction hs with
  | nil => simp [flat]
  | cons a t ih => rw [show flat C (a :: t) = C a ++ flat C t from rfl, List.length_append, hm, ih, List.length_cons, Nat.succ_mul]; omega
theorem flat_at (hm : ∀ a, (C a).length = m) (hs : List α) (i j : Nat) (hi : i < hs.length) (hj : j < m) : (flat C hs)[i * m + j]? = (C hs[i])[j]? := by
  induction hs generalizing i with
  | nil => simp at hi
  | cons a t ih =>
    rw [show flat C (a :: t) = C a ++ flat C t from rfl]
    cases i with
    | zero => rw [List.getElem?_append_left (by rw [hm]; omega)]; simp
    | succ i =>
      rw [List.getElem?_append_right (by rw [hm, Nat.succ_mul]; omega), hm, show (i + 1) * m + j - m = i * m + j by rw [Nat.succ_mul]; omega]
      have := ih i (by simpa using hi)
      rw [this]; rfl
theorem flat_get (hm : ∀ a, (C a).length = m) (hs : List α) {i j : Nat} {a : α} {u : Value} (hi : hs[i]? = some a) (hu : (C a)[j]? = some u) : (flat C hs)[i * m + j]? = some u := by
  obtain ⟨h1, h2⟩ := List.getElem?_eq_some_iff.mp hi
  have hj : j < m := by rw [← hm a]; exact (List.getElem?_eq_some_iff.mp hu).1
  rw [flat_at hm hs i j h1 hj, h2]; exact hu
theorem flat_drop (hm : ∀ a, (C a).length = m) (hs : List α) (k : Nat) : flat C (hs.drop k) = (flat C hs).drop (k * m) := by
  induction hs generalizing k with
  | nil => simp [flat]
  | cons b t ih =>
    cases k with
    | zero => simp
    | succ k =>
      rw [List.drop_succ_cons, ih k, show flat C (b :: t) = C b ++ flat C t from rfl, List.drop_append, hm, show (k + 1) * m - m = k * m by rw [Nat.succ_mul]; omega]
      rw [List.drop_of_length_le (l := C b) (by rw [hm, Nat.succ_mul]; omega), List.nil_append]
theorem flat_set (hm : ∀ a, (C a).length = m) (hs : List α) {k j : Nat} {a a' : α} {u : Value} (hk : hs[k]? = some a) (hj : j < m) (hu : (C a).set j u = C a') : (flat C hs).set (k * m + j) u = flat C (hs.set k a') := by
  induction hs generalizing k with
  | nil => simp at hk
  | cons b t ih =>
    rw [show flat C (b :: t) = C b ++ flat C t from rfl]
    cases k with
    | zero =>
      obtain rfl : b = a := by simpa using hk
      rw [List.set_append_left _ _ (by rw [hm]; omega), Nat.zero_mul, Nat.zero_add, hu]
      rfl
    | succ k =>
      rw [List.set_append_right _ _ (by rw [hm, Nat.succ_mul]; omega), hm, show (k + 1) * m + j - m = k * m + j by rw [Nat.succ_mul]; omega]
      rw [ih (k := k) (by simpa using hk)]
      rfl
theorem take_more {hs : List α} {k : Nat} {a : α} (h : hs[k]? = some a) : hs.take (k + 1) = hs.take k ++ [a] := by
  rw [List.take_add_one, h]; rfl
theorem get_of {hs : List α} {k n : Nat} (hn : n = hs.length) (hk : k < n) : ∃ a, hs[k]? = some a :=
  ⟨hs[k]'(by omega), List.getElem?_eq_getElem (by omega)⟩
theorem all_more (p : α → Bool) {hs : List α} {k : Nat} {a : α} (h : hs[k]? = some a) : (hs.take (k + 1)).all p = ((hs.take k).all p && p a) := by
  rw [take_more h]; simp
theorem all_no (p : α → Bool) {hs : List α} {k : Nat} {a : α} (h : hs[k]? = some a) (hp : p a = false) : hs.all p = false := by
  rw [Bool.eq_false_iff]; intro ha
  have := List.all_eq_true.mp ha a (List.mem_of_getElem? h)
  rw [hp] at this; cases this
theorem take_all {hs : List α} {k n : Nat} (hn : n = hs.length) (hk : ¬ k < n) : hs.take k = hs := List.take_of_length_le (by omega)
end

/-! ### A row that is filled from its head on -/
def setAll (ys : List Value) (p : Nat) : List Value → List Value
  | [] => ys
  | u :: t => setAll (ys.set p u) (p + 1) t
theorem setAll_len (us : List Value) : ∀ (ys : List Value) (p : Nat), (setAll ys p us).length = ys.length := by
  induction us with
  | nil => intro ys p; rfl
  | cons u t ih => intro ys p; rw [setAll, ih, List.length_set]
theorem setAll_take (us : List Value) : ∀ (ys : List Value) (p : Nat), p + us.length ≤ ys.length → (setAll ys p us).take (p + us.length) = ys.take p ++ us := by
  induction us with
  | nil => intro ys p _; simp [setAll]
  | cons u t ih =>
    intro ys p h
    rw [List.length_cons] at h
    rw [setAll, List.length_cons, show p + (t.length + 1) = p + 1 + t.length by omega, ih _ _ (by rw [List.length_set]; omega)]
    rw [List.take_set, List.take_add_one, List.getElem?_eq_getElem (by omega)]
    rw [List.set_append_right _ _ (by simp; omega)]
    simp [Nat.min_eq_left (show p ≤ ys.length by omega)]
theorem fill_step {α : Type} {C : α → List Value} {m n k : Nat} (hm : ∀ a, (C a).length = m) {hs : List α} {a : α} {ys : List Value} (hy : ys.length = n * m) (hn : n = hs.length) (ht : ys.take (k * m) = flat C (hs.take k)) (hk : hs[k]? = some a) :
    (setAll ys (k * m) (C a)).length = n * m ∧ (setAll ys (k * m) (C a)).take ((k + 1) * m) = flat C (hs.take (k + 1)) := by
  have hlt : k < hs.length := (List.getElem?_eq_some_iff.mp hk).1
  refine ⟨by rw [setAll_len, hy], ?_⟩
  have h1 : (k + 1) * m ≤ n * m := Nat.mul_le_mul_right m (by omega)
  rw [Nat.succ_mul] at h1 ⊢
  have := setAll_take (C a) ys (k * m) (by rw [hm]; omega)
  rw [hm] at this
  rw [this, ht, take_more hk, flat_append, flat_one]
theorem fill_end {α : Type} {C : α → List Value} {m n k : Nat} {hs : List α} {ys : List Value} (hy : ys.length = n * m) (hn : n = hs.length) (ht : ys.take (k * m) = flat C (hs.take k)) (hk : ¬ k < n) (hk2 : k ≤ n) : ys = flat C hs := by
  obtain rfl : k = n := by omega
  rw [List.take_of_length_le (by omega), take_all hn hk] at ht
  exact ht

/-- make([]T, n), n a variable. -/
theorem make_row {P : Program} (t e : TypeId) (i : TypeInfo) (z : Value) (ht : P.underlying t = some (.slice e)) (hi : P.info? e = some i) (hz : i.zero = some z)
    (n : Nat) (hb : i.bytes * n ≤ 281474976710656) (h63 : n ≤ 9223372036854775807) (w : World) :
    (Instr.makeSlice t (.int .i64 (n : Int)) (.int .i64 (n : Int))).run P w = .ok (.slice (some ⟨w.heap.size, 0, none⟩) n n) (w.alloc (.cells (madeCells z.cells (n * i.size)) e)) := by
  have hb' : (i.bytes : Int) * (n : Int) ≤ 281474976710656 := by
    have h : ((i.bytes * n : Nat) : Int) ≤ 281474976710656 := by omega
    rwa [Int.natCast_mul] at h
  have hr := run_make (P := P) w t e i z ht hi hz .i64 .i64 n n (by omega) (by omega) hb' (by omega)
  simp only [Int.toNat_natCast] at hr
  exact hr

theorem made_row {P : Program} (t e : TypeId) (z : Value) (m bytes : Nat) (ht : P.underlying t = some (.slice e)) (hinfo : (P.info? e).map (fun i => (i.zero, i.size, i.bytes)) = some (some z, m, bytes))
    (n : Nat) (hb : bytes * n ≤ 281474976710656) (h63 : n ≤ 9223372036854775807) :
    ∃ cs : Array Value, cs.size = n * m ∧ ∀ w : World, (Instr.makeSlice t (.int .i64 (n : Int)) (.int .i64 (n : Int))).run P w = .ok (.slice (some ⟨w.heap.size, 0, none⟩) n n) (w.alloc (.cells cs e)) := by
  obtain ⟨i, hi, hz, hs, hby⟩ := info_parts hinfo
  refine ⟨madeCells z.cells (n * i.size), by rw [size_madeCells, hs], fun w => make_row t e i z ht hi hz n (by rw [hby]; exact hb) h63 w⟩

/-- Two texts, one behind the other. -/
theorem add_run (P : Program) (a b : ByteArray) (h : a.size + b.size ≤ 100000000) : ∀ w : World, (Op.stringOp .add a b).run P w = .ok (.string (a ++ b)) w :=
  fun w => run_string_add_sum w a b (by omega)

/-! ### Worlds in which one row may have changed -/
section
variable {w w1 w2 : World} {row : Option Nat}
theorem gtrans (h1 : w.grownBy w1 row) (h2 : w1.grownBy w2 row) : w.grownBy w2 row :=
  ⟨h2.os.trans h1.os, h2.tape.trans h1.tape, h2.output.trans h1.output, Nat.le_trans h1.size h2.size, fun k hk hne => (h2.block k (Nat.lt_of_lt_of_le hk h1.size) hne).trans (h1.block k hk hne)⟩
theorem gbelow (h : w.grownBy w1 row) (hb : Below w1.heap.size w1 w2) : w.grownBy w2 row :=
  ⟨hb.os.trans h.os, hb.tape.trans h.tape, hb.output.trans h.output, Nat.le_trans h.size hb.size, fun i hi hne => (hb.block i (Nat.lt_of_lt_of_le hi h.size)).trans (h.block i hi hne)⟩
theorem gnone (h : w.grownBy w1 none) : Below w.heap.size w w1 := ⟨h.os, h.tape, h.output, h.size, fun k hk => h.block k hk (by simp)⟩
theorem of_below (h : Below w.heap.size w w1) (row : Option Nat) : w.grownBy w1 row := ⟨h.os, h.tape, h.output, h.size, fun i hi _ => h.block i hi⟩
theorem grefl (w : World) (row : Option Nat) : w.grownBy w row := ⟨rfl, rfl, rfl, Nat.le_refl _, fun _ _ _ => rfl⟩
/-- A row behind a call that made memory alone. -/
theorem own_call {base e size n : Nat} {v : Value} {xs : List Value} (h : w.ownsRow base e size v n xs) (hb : Below w.heap.size w w1) : w1.ownsRow base e size v n xs :=
  h.kept (row := none) (of_below hb none) (by cases hv : v.ownBlock with
    | none => exact .inl rfl
    | some g => exact .inr (by simp))
theorem own_more {base base' e size n : Nat} {v : Value} {xs : List Value} (h : w.ownsRow base e size v n xs) (hb : base' ≤ base) : w.ownsRow base' e size v n xs :=
  ⟨h.1, h.2.elim Or.inl (fun ⟨g, cap, cur, hv, hg, r⟩ => Or.inr ⟨g, cap, cur, hv, Nat.le_trans hb hg, r⟩)⟩
theorem own_form {base e size n c : Nat} {A : Option Addr} {xs : List Value} (h : w.ownsRow base e size (.slice A n c) n xs) (hn : 0 < n) : ∃ g, A = some ⟨g, 0, none⟩ ∧ base ≤ g ∧ g < w.heap.size := by
  rcases h.2 with ⟨_, h0⟩ | ⟨g, cap, cur, hv, hb, hh, _⟩
  · omega
  · exact ⟨g, by injection hv, hb, (Array.getElem?_eq_some_iff.mp hh).1⟩
theorem own_cap {base e size n c : Nat} {A : Option Addr} {xs : List Value} (h : w.ownsRow base e size (.slice A n c) n xs) : n ≤ c := by
  rcases h.2 with ⟨hv, h0⟩ | ⟨g, cap, cur, hv, _, _, hc, _⟩
  · omega
  · injection hv with _ _ h3
    subst h3; exact hc
/-- An element of a row. -/
theorem own_at {base e size n c g : Nat} {xs : List Value} (h : w.ownsRow base e size (.slice (some ⟨g, 0, none⟩) n c) n xs) {j : Nat} {u : Value} (hu : xs[j]? = some u) : w.cell? ⟨g, j, none⟩ = some u ∧ w.frozen? ⟨g, j, none⟩ = false := by
  have hj : j < n * size := by rw [← h.1]; exact (List.getElem?_eq_some_iff.mp hu).1
  exact ⟨by rw [h.cellAt j hj, hu], h.frozenAt j⟩
theorem own_some {base e size n c g : Nat} {xs : List Value} (h : w.ownsRow base e size (.slice (some ⟨g, 0, none⟩) n c) n xs) {j : Nat} (hj : j < n * size) : ∃ u, w.cell? ⟨g, j, none⟩ = some u := by
  rw [h.cellAt j hj]
  exact ⟨xs[j]'(by rw [h.1]; exact hj), List.getElem?_eq_getElem (by rw [h.1]; exact hj)⟩
end

/-! ### append of a whole list onto a row of the call's own -/
section
variable {P : Program} {w : World}
theorem append_nothing {base e size n : Nat} {t ty : TypeId} {i : TypeInfo} {v : Value} {xs : List Value} (ht : P.underlying t = some (.slice e)) (hi : P.info? e = some i) (ho : w.ownsRow base e size v n xs) (c : Nat) :
    (Builtin.append_ #[t, t] ty #[v, .slice none 0 c]).run P w = .ok v w := by
  rcases ho.2 with ⟨hv, _⟩ | ⟨g, cap, cur, hv, _, _, hle, _⟩
  · subst hv
    simp [Builtin.append_, run_underlying ht, sizeOf, typeInfo, hi, Builtin.lenOf, Builtin.firstCells]
  · subst hv
    simp [Builtin.append_, run_underlying ht, sizeOf, typeInfo, hi, Builtin.lenOf, Builtin.firstCells, hle, storeCells]
theorem append_list {base e size bytes n m c B : Nat} {t ty : TypeId} {i : TypeInfo} {z v : Value} {xs news : List Value} {A : Option Addr} (ht : P.underlying t = some (.slice e)) (hi : P.info? e = some i) (hz : i.zero = some z)
    (hsize : i.size = size) (hby : i.bytes = bytes) (hzs : z.cells.size = size) (hsz : 0 < size) (ho : w.ownsRow base e size v n xs) (hr : Sees w B size A m news) (h1 : ∀ u ∈ news, u.oneCell' = true)
    (h63 : n + m ≤ maxLen) (hbytes : (n + m) * bytes ≤ 140737488355328) (hbase : base ≤ w.heap.size) :
    ∃ v' w', (Builtin.append_ #[t, t] ty #[v, .slice A m c]).run P w = .ok v' w' ∧ w'.ownsRow base e size v' (n + m) (xs ++ news) ∧ w.grownBy w' v.ownBlock ∧ (v'.ownBlock = v.ownBlock ∨ v'.ownBlock = some w.heap.size) := by
  cases A with
  | none =>
    have hm : m = 0 := by
      rcases Nat.eq_zero_or_pos m with h | h
      · exact h
      · obtain ⟨b, off, e, _⟩ := hr.2 h; cases e
    subst hm
    have hnw : news = [] := List.eq_nil_of_length_eq_zero (by rw [hr.1]; omega)
    subst hnw
    exact ⟨v, w, append_nothing ht hi ho c, by simpa using ho, grefl w _, .inl rfl⟩
  | some ad =>
    have hcell : ∀ j u, news[j]? = some u → w.cell? (ad.add j) = some u := by
      intro j u hu
      rcases Nat.eq_zero_or_pos m with h | h
      · subst h
        have hnw : news = [] := List.eq_nil_of_length_eq_zero (by rw [hr.1]; omega)
        rw [hnw] at hu; simp at hu
      · obtain ⟨b, off, e, _, hc⟩ := hr.2 h
        injection e with e
        subst e
        have e2 : (⟨b, off, none⟩ : Addr).add j = ⟨b, off + j, none⟩ := by cases j <;> simp [Addr.add]
        rw [e2]; exact hc j u hu
    obtain ⟨v', w', hrun, h2, h3, _, h5⟩ := run_append_own_at (P := P) w base t ty e i z size bytes ht hi hz hsize hby hzs hsz v n xs ho ad m c news hr.1 hcell h1 h63 hbytes hbase
    exact ⟨v', w', hrun, h2, h3, h5⟩
theorem wp_append_list {o : Oper} {a : Act} {K : Act → World → Prop} {Q : Exit → Act → World → Prop} (s x : Operand) (t : TypeId)
    (ho : o.op = .call { callee := .builtin .append, args := #[s, x], argTypes := #[t, t] })
    (base e size bytes n m c B : Nat) (i : TypeInfo) (z v : Value) (xs news : List Value) (A : Option Addr) (ht : P.underlying t = some (.slice e)) (hi : P.info? e = some i) (hz : i.zero = some z)
    (hsize : i.size = size) (hby : i.bytes = bytes) (hzs : z.cells.size = size) (hsz : 0 < size) (hs : a.eval s = v) (hx : a.eval x = .slice A m c) (hown : w.ownsRow base e size v n xs) (hr : Sees w B size A m news) (h1 : ∀ u ∈ news, u.oneCell' = true)
    (h63 : n + m ≤ maxLen) (hbytes : (n + m) * bytes ≤ 140737488355328) (hbase : base ≤ w.heap.size)
    (h : ∀ v' w', w'.ownsRow base e size v' (n + m) (xs ++ news) → w.grownBy w' v.ownBlock → (v'.ownBlock = v.ownBlock ∨ v'.ownBlock = some w.heap.size) → K (a.put o.dst v') w') : o.wp P a w K Q := by
  obtain ⟨v', w', hrun, h2, h3, h4⟩ := append_list (P := P) (ty := o.type) (c := c) ht hi hz hsize hby hzs hsz hown hr h1 h63 hbytes hbase
  unfold Oper.wp execOp
  simp only [ho, resolve, invoke, builtin, Sem.run_bind, Sem.run_pure, Result.andThen_ok, List.map_toArray, List.map_cons, List.map_nil, hs, hx, hrun]
  exact h v' w' h2 h3 h4
theorem wpList_append_list {ops : Array Oper} {rest : List Oper} {o : Oper} {a : Act} {Q : Exit → Act → World → Prop} (hgd : o.guard = none) (s x : Operand) (t : TypeId)
    (ho : o.op = .call { callee := .builtin .append, args := #[s, x], argTypes := #[t, t] })
    (base e size bytes n m c B : Nat) (i : TypeInfo) (z v : Value) (xs news : List Value) (A : Option Addr) (ht : P.underlying t = some (.slice e)) (hi : P.info? e = some i) (hz : i.zero = some z)
    (hsize : i.size = size) (hby : i.bytes = bytes) (hzs : z.cells.size = size) (hsz : 0 < size) (hs : a.eval s = v) (hx : a.eval x = .slice A m c) (hown : w.ownsRow base e size v n xs) (hr : Sees w B size A m news) (h1 : ∀ u ∈ news, u.oneCell' = true)
    (h63 : n + m ≤ maxLen) (hbytes : (n + m) * bytes ≤ 140737488355328) (hbase : base ≤ w.heap.size)
    (h : ∀ v' w', w'.ownsRow base e size v' (n + m) (xs ++ news) → w.grownBy w' v.ownBlock → (v'.ownBlock = v.ownBlock ∨ v'.ownBlock = some w.heap.size) → wpList P ops Q rest (a.put o.dst v') w') : wpList P ops Q (o :: rest) a w :=
  wpList_plain hgd fun _ hK => wp_append_list s x t ho base e size bytes n m c B i z v xs news A ht hi hz hsize hby hzs hsz hs hx hown hr h1 h63 hbytes hbase fun v' w' h2 h3 h4 => hK _ _ (h v' w' h2 h3 h4)
end
/-- append of one element that was laid into a block of its own, as one step of a region that draws its order. -/
theorem step_append_one {P : Program} {w : World} {ops : Array Oper} {o : Oper} {a : Act} {K : Act → World → Prop} {Q : Exit → Act → World → Prop} {E : Prop} (hgd : o.guard = none) (s x : Operand) (t : TypeId)
    (ho : o.op = .call { callee := .builtin .append, args := #[s, x], argTypes := #[t, t] })
    (base : Nat) (e : TypeId) (i : TypeInfo) (z : Value) (size bytes : Nat) (ht : P.underlying t = some (.slice e)) (hi : P.info? e = some i) (hz : i.zero = some z)
    (hsize : i.size = size) (hby : i.bytes = bytes) (hzs : z.cells.size = size) (hsz : 0 < size)
    (v : Value) (n : Nat) (xs : List Value) (hs : a.eval s = v) (g : Nat) (news : List Value) (hx : a.eval x = .slice (some ⟨g, 0, none⟩) 1 1)
    (hown : w.ownsRow base e size v n xs) (hnew : w.heap[g]? = some (.cells news.toArray e (0, 0))) (hl : news.length = size) (h1 : ∀ u ∈ news, u.oneCell' = true)
    (h63 : n + 1 ≤ maxLen) (hbytes : (n + 1) * bytes ≤ 140737488355328) (hbase : base ≤ w.heap.size)
    (h : ∀ g' cap w', w'.ownsRow base e size (.slice (some ⟨g', 0, none⟩) (n + 1) cap) (n + 1) (xs ++ news) → w.grownBy w' v.ownBlock → K (a.put o.dst (.slice (some ⟨g', 0, none⟩) (n + 1) cap)) w') :
    if Region.wanted o (yielded ops a.tmps) = true then Oper.wp P o a w K Q else E :=
  step_append_lies w hgd s x t ho base e i z size bytes ht hi hz hsize hby hzs hsz v n xs hs hown ⟨g, 0, none⟩ 1 1 news hx (by rw [hl]; omega) (World.news_of_block (cs := news.toArray) hnew) h1 (by omega) h63 hbytes hbase w.heap.size rfl
    (fun g' cap w' h2 h3 _ _ => h g' cap w' h2 h3)
theorem heap_new_at (w : World) (o : Obj) (n : Nat) (h : n = w.heap.size) : (w.alloc o).heap[n]? = some o := by subst h; exact heap_alloc_new w o
/-- What a row's value looks like. -/
theorem own_slice {w : World} {base e size n : Nat} {v : Value} {xs : List Value} (h : w.ownsRow base e size v n xs) : ∃ A c, v = .slice A n c := by
  rcases h.2 with ⟨hv, h0⟩ | ⟨g, cap, cur, hv, _⟩
  · exact ⟨none, 0, by rw [hv, h0]⟩
  · exact ⟨_, _, hv⟩
end Go.Proofs.Ytplcdadedpbkpaa
end
section
/- The contract of the function that makes the texts of marks. -/
namespace Go.Proofs.Ytplcdadedpbkpaa
open Go.RowKit
set_option linter.unusedVariables false

/-- The text of a mark. -/
def mtxt (k : Nat) : ByteArray := ⟨(109 :: preT k).toArray⟩

theorem preT_len (k : Nat) (h : k < 1000000000000000) : (preT k).length ≤ 15 := by
  unfold preT
  split
  · simp
  · exact numT_len 14 k (by omega)

end Go.Proofs.Ytplcdadedpbkpaa
end
