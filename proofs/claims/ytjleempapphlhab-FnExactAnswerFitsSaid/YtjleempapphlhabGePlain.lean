/- Parts of the proof: Plain. -/
import Derived.WalkKit
import Derived.Below
section
namespace Go.Proofs.Ytjleempapphlhab
open Go.RowKit
set_option linter.unusedVariables false
/-- The kind of a byte, as the program's table of bytes has it. -/
def kind (c : Int) : Int :=
  if 97 ≤ c ∧ c ≤ 122 then 4 else if 48 ≤ c ∧ c ≤ 57 then 3 else if c = 32 then 1 else if 32 < c ∧ c ≤ 126 then 2 else 0
def isLo (c : UInt8) : Bool := decide (97 ≤ (c.toNat : Int) ∧ (c.toNat : Int) ≤ 122)
def isDi (c : UInt8) : Bool := decide (48 ≤ (c.toNat : Int) ∧ (c.toNat : Int) ≤ 57)
def isLd (c : UInt8) : Bool := isLo c || isDi c
/-- A valid word. -/
def wordB (l : List UInt8) : Bool := decide (1 ≤ l.length) && decide (l.length ≤ 10) && isLo (l.headD 0) && l.all isLd
theorem ret_int {k : IntKind} {a b : Int} (h : a = b) : Ending.returned (.int k a) = .returned (.int k b) := by rw [h]
theorem ret_str {a b : ByteArray} (h : a = b) : Ending.returned (.string a) = .returned (.string b) := by rw [h]
theorem str_of {t : ByteArray} {l : List UInt8} (h : t.data.toList = l) : t = ⟨l.toArray⟩ := by
  subst h; rfl
theorem cat_list (a b : ByteArray) : (a ++ b).data.toList = a.data.toList ++ b.data.toList := by simp
theorem ret_bool {a b : Bool} (h : a = b) : Ending.returned (.bool a) = .returned (.bool b) := by rw [h]
theorem take_snoc (s : ByteArray) (k : Nat) (h : k < s.size) : s.data.toList.take (k + 1) = s.data.toList.take k ++ [s[k]] := by
  rw [List.take_succ_eq_append_getElem (by simpa using h)]; rfl
theorem all_snoc (p : UInt8 → Bool) (s : ByteArray) (k : Nat) (h : k < s.size) : (s.data.toList.take (k + 1)).all p = ((s.data.toList.take k).all p && p s[k]) := by
  rw [take_snoc s k h]; simp
theorem all_not (p : UInt8 → Bool) (s : ByteArray) (k : Nat) (h : k < s.size) (hp : p s[k] = false) : s.data.toList.all p = false := by
  have : s[k] ∈ s.data.toList := by
    have : s[k] = s.data.toList[k]'(by simpa using h) := rfl
    rw [this]; exact List.getElem_mem _
  rw [Bool.eq_false_iff]; intro ha
  rw [List.all_eq_true] at ha
  rw [ha _ this] at hp; cases hp
theorem head_get (l : List UInt8) (h : 0 < l.length) : l.headD 0 = l[0] := by
  cases l with
  | nil => simp at h
  | cons c t => rfl
theorem head_at (s : ByteArray) (h : 0 < s.size) : s.data.toList.headD 0 = s[0] :=
  head_get s.data.toList (by simpa using h)
def dg (d : Nat) : UInt8 := UInt8.ofNat (48 + d)
def numT (n : Nat) : List UInt8 := if n < 10 then [dg n] else numT (n / 10) ++ [dg (n % 10)]
termination_by n
def preT (r : Nat) : List UInt8 := if r = 0 then [] else numT r
theorem numT_eq (n : Nat) : numT n = preT (n / 10) ++ [dg (n % 10)] := by
  rw [numT]
  by_cases h : n < 10
  · rw [if_pos h, preT, if_pos (by omega), Nat.mod_eq_of_lt h]; rfl
  · rw [if_neg h, preT, if_neg (by omega)]
theorem preT_pos {r : Nat} (h : 0 < r) : preT r = numT r := by rw [preT, if_neg (by omega)]
def vstep (a : Int) (c : UInt8) : Int := 10 * a + ((c.toNat : Int) - 48)
def val (l : List UInt8) : Int := l.foldl vstep 0
theorem numT_len (k : Nat) : ∀ n, n < 10 ^ (k + 1) → (numT n).length ≤ k + 1 := by
  induction k with
  | zero => intro n h; rw [numT, if_pos (by omega)]; simp
  | succ k ih =>
    intro n h
    rw [numT]
    split
    · simp
    · rw [List.length_append]
      have := ih (n / 10) (by rw [Nat.pow_succ] at h; omega)
      simp; omega
end Go.Proofs.Ytjleempapphlhab
end
