/- The contracts of the model's functions of chapter 3. -/
import Derived.Test.YtplcdadedpbkpaaGa
import Derived.Test.YtplcdadedpbkpaaTHead
import Derived.Deep.QuietTactic
import Derived.BigQuiet
namespace Go.Proofs.Ytplcdadedpbkpaa
open Go.RowKit
set_option linter.unusedVariables false

def headB (p : HeadM) : Bool := wordB p.x0.data.toList && lineB p.x1.data.toList
def headsB (hs : List HeadM) : Bool := decide (hs.length ≤ 8) && hs.all headB

theorem heads_max {hs : List HeadM} (hm : headMax hs) {k : Nat} {p : HeadM} (hk : hs[k]? = some p) : p.x0.size ≤ maxLen ∧ p.x1.size ≤ maxLen := by
  have h := hm p (List.mem_of_getElem? hk)
  have h0 : (p.x0.size : Int) ≤ (maxLen : Int) := h.1
  have h1 : (p.x1.size : Int) ≤ (maxLen : Int) := h.2
  exact ⟨by omega, by omega⟩

set_option maxHeartbeats 1000000 in
theorem shv_any (A : Option Addr) (n c : Nat) (hs : List HeadM) (w : World) (hn : n = hs.length) (hc : n ≤ maxLen) (hr : Sees w w.heap.size 2 A n (flat headC hs)) (hm : headMax hs) :
    Calls Try.prog 42 #[.slice A n c] w fun e w' => e = .returned (.bool (headsB hs)) ∧ w = w' := by
  unfold maxLen at hc
  have HR := Lib.hid hr
  have HM := Lib.hid hm
  have HN := Lib.hid hn
  clear hr hm hn
  go_enter Try.func42, Try.ntmps42
  go_wp2
  go_loop [3] (fun i => ∃ k : Nat, k ≤ n ∧ i = .int .i64 k ∧ (hs.take k).all headB = true) (fun i => n - (intOf i).toNat)
  case atStart => exact ⟨0, Nat.zero_le _, rfl, rfl⟩
  case round =>
    obtain ⟨k, hk, rfl, hall⟩ := hrel
    have HA := Lib.hid hall
    clear hall
    by_cases hlt : k < n
    · obtain ⟨b, off, rfl, hb, hcell⟩ := HR.out.2 (by omega)
      obtain ⟨⟨x, y⟩, hp⟩ := get_of HN.out hlt
      have HP := Lib.hid hp
      have HX := Lib.hid (heads_max HM.out hp)
      obtain ⟨c0, c1⟩ := head_cells hcell hp
      clear hcell hb hp
      by_cases h1 : wordB x.data.toList = true
      · have H1 := Lib.hid h1
        clear h1
        go_wp2_with fail
        refine (sword_t _ _ HX.out.1 H1.out).mono ?_
        rintro e w' ⟨rfl, rfl⟩
        by_cases h2 : lineB y.data.toList = true
        · have H2 := Lib.hid h2
          clear h2
          go_wp2_with fail
          refine (sline_t _ _ HX.out.2 H2.out).mono ?_
          rintro e w' ⟨rfl, rfl⟩
          go_wp2
          go_round
          case rel => exact ⟨k + 1, by omega, by go_num, by rw [all_more headB HP.out, HA.out]; unfold headB; rw [H1.out, H2.out]; rfl⟩
          case measure => simp [intOf]; omega
        · have H2 : Hid (lineB y.data.toList = false) := Lib.hid (by simpa using h2)
          clear h2
          go_wp2_with fail
          refine (sline_f _ _ HX.out.2 H2.out).mono ?_
          rintro e w' ⟨rfl, rfl⟩
          go_wp2
          go_ret
          refine ⟨ret_bool ?_, rfl⟩
          unfold headsB
          rw [all_no headB HP.out (by unfold headB; rw [H2.out, Bool.and_false]), Bool.and_false]
      · have H1 : Hid (wordB x.data.toList = false) := Lib.hid (by simpa using h1)
        clear h1
        go_wp2_with fail
        refine (sword_f _ _ HX.out.1 H1.out).mono ?_
        rintro e w' ⟨rfl, rfl⟩
        go_wp2
        go_ret
        refine ⟨ret_bool ?_, rfl⟩
        unfold headsB
        rw [all_no headB HP.out (by unfold headB; rw [H1.out, Bool.false_and]), Bool.and_false]
    · go_wp2
      go_ret
      refine ⟨ret_bool ?_, rfl⟩
      have h1 := HA.out
      rw [take_all HN.out hlt] at h1
      unfold headsB
      rw [h1, Bool.and_true, ← HN.out]
      congr 1
      exact propext ⟨fun h => by omega, fun h => by omega⟩

/-- The line of a head. -/
def headL (p : HeadM) : ByteArray := p.x0 ++ ⟨#[58, 32]⟩ ++ p.x1
def linesOf (hs : List HeadM) : List ByteArray := if headsB hs = true then hs.map headL else []
theorem headB_size {p : HeadM} (h : headB p = true) : p.x0.size ≤ 10 ∧ p.x1.size ≤ 60 := by
  unfold headB at h
  rw [Bool.and_eq_true] at h
  have e0 : p.x0.data.toList.length = p.x0.size := by simp
  have e1 : p.x1.data.toList.length = p.x1.size := by simp
  refine ⟨by have := word_len h.1; omega, ?_⟩
  have := h.2
  unfold lineB at this
  simp only [Bool.and_eq_true, decide_eq_true_eq] at this
  omega
theorem headsB_at {hs : List HeadM} (h : headsB hs = true) {k : Nat} {p : HeadM} (hk : hs[k]? = some p) : headB p = true := by
  unfold headsB at h
  rw [Bool.and_eq_true] at h
  exact List.all_eq_true.mp h.2 p (List.mem_of_getElem? hk)
theorem headsB_len {hs : List HeadM} (h : headsB hs = true) : hs.length ≤ 8 := by
  unfold headsB at h
  rw [Bool.and_eq_true] at h
  exact of_decide_eq_true h.1
/-- A result that is a list in new memory. -/
def RowP (w : World) (E m : Nat) (n : Nat) (xs : List Value) (e : Ending) (w' : World) : Prop :=
  ∃ A c, e = .returned (.slice A n c) ∧ w'.ownsRow w.heap.size E m (.slice A n c) n xs ∧ Below w.heap.size w w'
theorem flat_map {α β : Type} {C : β → List Value} (f : α → β) (hs : List α) : flat C (hs.map f) = flat (fun a => C (f a)) hs := by simp [flat, List.flatMap_map]

set_option maxHeartbeats 2000000 in
theorem shl_t (A : Option Addr) (n c : Nat) (hs : List HeadM) (w : World) (hn : n = hs.length) (hc : n ≤ maxLen) (hr : Sees w w.heap.size 2 A n (flat headC hs)) (hm : headMax hs) (hv : headsB hs = true) :
    Calls Try.prog 35 #[.slice A n c] w (RowP w 9 1 n (flat strC (hs.map headL))) := by
  obtain ⟨i0, hi0, hz0, hz1, hz2⟩ := info_parts info_string
  have hn8 : n ≤ 8 := by rw [hn]; exact headsB_len hv
  have HR := Lib.hid hr
  have HN := Lib.hid hn
  have HM := Lib.hid hm
  have HV := Lib.hid hv
  have HO := Lib.hid (World.ownsRow_lit (base := w.heap.size) (e := 9) (size := 1) w #[] 0 (Nat.le_refl _) (Nat.zero_le _) rfl)
  have hcv : ∀ W : World, Below w.heap.size w W → Calls Try.prog 42 #[.slice A n c] W fun e w' => e = .returned (.bool true) ∧ W = w' := by
    intro W hb
    have := shv_any A n c hs W hn hc ((hr.below hb (Nat.le_refl _)).more hb.size) hm
    rw [hv] at this; exact this
  have HCV := Lib.hid hcv
  clear hr hn hm hv hcv
  unfold maxLen at hc
  go_enter Try.func35, Try.ntmps35
  go_wp2
  go_loopw [3, 4] (fun o i wr => ∃ k : Nat, ∃ A2 c2, k ≤ n ∧ i = .int .i64 k ∧ o = .slice A2 k c2 ∧ wr.ownsRow w.heap.size 9 1 (.slice A2 k c2) k (flat strC ((hs.take k).map headL)) ∧ Below w.heap.size w wr) (fun _ i _ => n - (intOf i).toNat)
  case atStart => exact ⟨0, _, _, Nat.zero_le _, rfl, rfl, HO.out, bnew _ _⟩
  case round =>
    obtain ⟨k, A2, c2, hk, rfl, rfl, hown, hbel⟩ := hrel
    have HW := Lib.hid hown
    have HB := Lib.hid hbel
    clear hown hbel
    by_cases hlt : k < n
    · obtain ⟨b, off, hA, hb, hcell⟩ := (HR.out.below HB.out (Nat.le_refl _)).2 (by omega)
      subst hA
      obtain ⟨p, hp⟩ := get_of HN.out hlt
      have HP := Lib.hid hp
      obtain ⟨c0, c1⟩ := head_cells hcell hp
      obtain ⟨s0, s1⟩ := headB_size (headsB_at HV.out hp)
      have hne : (Value.slice A2 k c2).ownBlock ≠ some b := fun e => by have := HW.out.lt b e; omega
      have HNE := Lib.hid hne
      have hsz := HB.out.size
      have a1 := add_run Try.prog p.x0 ⟨#[58, 32]⟩ (by show _ + 2 ≤ _; omega)
      have a2 := add_run Try.prog (p.x0 ++ ⟨#[58, 32]⟩) p.x1 (by rw [size_cat]; show _ + 2 + _ ≤ _; omega)
      clear hcell hp hne
      go_wp2_with fail
      refine (HCV.out _ HB.out).mono ?_
      rintro e w1 ⟨rfl, rfl⟩
      go_wp2
      go_region_held3 (fun w' => w'.cell? ⟨b, off + k * 2, none⟩ = some (.string p.x0) ∧ w'.cell? ⟨b, off + k * 2 + 1, none⟩ = some (.string p.x1))
        (first
          | go_keep
          | (go_split_ands
             refine ⟨?_, ?_⟩
             · (rw [hgrow.cell_far _ (by simp; omega) (Ne.symm HNE.out)]; assumption)
             · (rw [hgrow.cell_far _ (by simp; omega) (Ne.symm HNE.out)]; assumption)))
        ((refine step_append_lies _ (by rfl) _ _ _ (by rfl) w.heap.size 9 i0 _ 1 16 Try.underlying23 hi0 hz0 hz1 hz2 rfl (by omega) (.slice A2 k c2) k _ (by rfl) ((HW.out.alloc _).drew)
            ⟨wr.heap.size, 0, none⟩ 1 1 [.string (headL p)] (by rfl) (by rfl) (World.news_of_block (cs := #[.string (headL p)]) (t := 9) (fr := (0, 0)) (heap_alloc_new wr _)) (by simp [Value.oneCell'])
            (by omega) (by unfold maxLen; omega) (by omega) (by simp; omega) (wr.heap.size + 1) (by simp) ?_; intro gg cap w1 hown1 hgrow hat hlt1))
      clear a1 a2
      go_wp2
      go_roundw
      case rel =>
        refine ⟨k + 1, _, _, by omega, by go_num, rfl, ?_, ?_⟩
        · have := take_more HP.out
          rw [this, List.map_append, flat_append]
          exact hown1
        · have h0 := ((HB.out.alloc HB.out.size (.cells #[.string (headL p)] 9)))
          exact (bdrew h0).grown hgrow h0.size (fun g hg => (HW.out.lt g hg).1)
      case measure => simp [intOf]; omega
    · go_wp2
      go_ret
      have h0 := HW.out
      obtain rfl : k = n := by omega
      rw [take_all HN.out hlt] at h0
      exact ⟨_, _, rfl, h0, HB.out⟩
end Go.Proofs.Ytplcdadedpbkpaa
