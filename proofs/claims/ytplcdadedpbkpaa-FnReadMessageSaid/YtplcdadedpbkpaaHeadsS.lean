/- The contracts of the model's functions of chapter 3: first heads, set heads. -/
import Derived.Test.YtplcdadedpbkpaaHeads
namespace Go.Proofs.Ytplcdadedpbkpaa
open Go.RowKit
set_option linter.unusedVariables false

theorem take_none {α : Type} {p : α → Bool} {hs : List α} {k : Nat} {a : α} (h : hs[k]? = some a) (h1 : ∀ s ∈ hs.take k, p s = false) (h2 : p a = true) : hs.find? p = some a := by
  have e : hs = hs.take k ++ (a :: hs.drop (k + 1)) := by
    obtain ⟨hk, he⟩ := List.getElem?_eq_some_iff.mp h
    conv => lhs; rw [← List.take_append_drop k hs]
    rw [List.drop_eq_getElem_cons hk, he]
  rw [e, List.find?_append]
  have : (hs.take k).find? p = none := by
    rw [List.find?_eq_none]; intro x hx; simp [h1 x hx]
  rw [this]
  simp [h2]
theorem find_none {α : Type} {p : α → Bool} {hs : List α} (h1 : ∀ s ∈ hs, p s = false) : hs.find? p = none := by
  rw [List.find?_eq_none]; intro x hx; simp [h1 x hx]

theorem shl_f (A : Option Addr) (n c : Nat) (hs : List HeadM) (w : World) (hn : n = hs.length) (hc : n ≤ maxLen) (hr : Sees w w.heap.size 2 A n (flat headC hs)) (hm : headMax hs) (hv : headsB hs = false) :
    Calls Try.prog 35 #[.slice A n c] w (RowP w 9 1 0 []) := by
  have hn0 : 0 < n := by
    rcases Nat.eq_zero_or_pos n with h | h
    · have : hs = [] := List.eq_nil_of_length_eq_zero (by omega)
      rw [this] at hv; cases hv
    · exact h
  have HO := Lib.hid (World.ownsRow_lit (base := w.heap.size) (e := 9) (size := 1) w #[] 0 (Nat.le_refl _) (Nat.zero_le _) rfl)
  have hcv : Calls Try.prog 42 #[.slice A n c] (w.alloc (.cells #[] 9)) fun e w' => e = .returned (.bool false) ∧ (w.alloc (.cells #[] 9)) = w' := by
    have := shv_any A n c hs (w.alloc (.cells #[] 9)) hn hc ((hr.alloc (Nat.le_refl _) _).more (by simp)) hm
    rw [hv] at this; exact this
  have HCV := Lib.hid hcv
  clear hr hn hm hv hcv
  unfold maxLen at hc
  go_enter Try.func35, Try.ntmps35
  go_wp2
  go_loop [3, 4] (fun o i => i = .int .i64 0 ∧ o = .slice (some ⟨w.heap.size, 0, none⟩) 0 0) (fun _ _ => 0)
  case atStart => exact ⟨rfl, rfl⟩
  case round =>
    obtain ⟨rfl, rfl⟩ := hrel
    go_wp2_with fail
    refine HCV.out.mono ?_
    rintro e w1 ⟨rfl, rfl⟩
    go_wp2
    go_ret
    exact ⟨_, _, rfl, HO.out, bnew _ _⟩

/-- The lines of some heads, as the model has them. -/
theorem shl_any (A : Option Addr) (n c : Nat) (hs : List HeadM) (w : World) (hn : n = hs.length) (hc : n ≤ maxLen) (hr : Sees w w.heap.size 2 A n (flat headC hs)) (hm : headMax hs) :
    Calls Try.prog 35 #[.slice A n c] w (RowP w 9 1 (linesOf hs).length (flat strC (linesOf hs))) := by
  unfold linesOf
  by_cases hv : headsB hs = true
  · rw [if_pos hv, List.length_map, ← hn]
    exact shl_t A n c hs w hn hc hr hm hv
  · rw [if_neg hv]
    exact shl_f A n c hs w hn hc hr hm (by simpa using hv)

/-- The first head with a name. -/
def nameB (nm : ByteArray) (p : HeadM) : Bool := p.x0.toList == nm.toList
def firstH (hs : List HeadM) (nm : ByteArray) : Option HeadM := if headsB hs = true then hs.find? (nameB nm) else none
def firstV (o : Option HeadM) : Value := match o with
  | some p => .tuple #[.string p.x1, .bool true]
  | none => .tuple #[.string ⟨#[]⟩, .bool false]

end Go.Proofs.Ytplcdadedpbkpaa
