/- The contracts of the model's functions of chapter 4: lines of messages. -/
import Derived.Test.YtplcdadedpbkpaaMsg
import Derived.Test.YtplcdadedpbkpaaAddrT
import Derived.Test.YtplcdadedpbkpaaNums
import Derived.Test.YtplcdadedpbkpaaCopy
import Derived.RegionTactic
import Derived.BigRegion
import Derived.Deep.RegionLaw
import Derived.Deep.RegionHeld3
import Derived.StillTailTactics
namespace Go.Proofs.Ytplcdadedpbkpaa
open Go.RowKit
set_option linter.unusedVariables false
set_option maxRecDepth 20000

/-- The first line of a message. -/
def firstL (p : MsgM) : ByteArray := if (p.x0.toList == []) = true then (⟨#[97, 110, 115, 119, 101, 114, 32]⟩ : ByteArray) ++ textS p.x3 else p.x0 ++ ⟨#[32]⟩ ++ textA p.x1 p.x2
def msgL (p : MsgM) : List ByteArray := if msgB p = true then firstL p :: (p.h.map headL ++ ⟨#[]⟩ :: p.b) else []

theorem str_ones' (ls : List ByteArray) : ∀ u ∈ flat strC ls, u.oneCell' = true := by
  intro u hu
  unfold flat at hu
  rw [List.mem_flatMap] at hu
  obtain ⟨p, _, hp⟩ := hu
  simp [strC] at hp
  rw [hp]; rfl
theorem msgB_parts {p : MsgM} (h : msgB p = true) : (reqB p || ansB p) = true ∧ headsB p.h = true ∧ p.b.length ≤ 8 ∧ p.b.all lineN = true := by
  unfold msgB bodyB at h
  simp only [Bool.and_eq_true, decide_eq_true_eq] at h
  exact ⟨h.1.1, h.1.2, h.2.1, h.2.2⟩

set_option maxHeartbeats 4000000 in
theorem sml_t (x0 x1 x2 : ByteArray) (x3 : Int) (A4 : Option Addr) (n4 c4 : Nat) (h4 : List HeadM) (A5 : Option Addr) (n5 c5 : Nat) (b5 : List ByteArray) (w : World) (m0 : x0.size ≤ maxLen) (m1 : x1.size ≤ maxLen) (m2 : x2.size ≤ maxLen)
    (hn4 : n4 = h4.length) (hc4 : n4 ≤ maxLen) (hm4 : headMax h4) (hn5 : n5 = b5.length) (hc5 : n5 ≤ maxLen) (hm5 : ∀ s ∈ b5, s.size ≤ maxLen) (hr4 : Sees w w.heap.size 2 A4 n4 (flat headC h4)) (hr5 : Sees w w.heap.size 1 A5 n5 (flat strC b5))
    (hv : msgB ⟨x0, x1, x2, x3, h4, b5⟩ = true) :
    Calls Try.prog 13 #[.agg #[.string x0, .string x1, .string x2, .int .i64 x3, .slice A4 n4 c4, .slice A5 n5 c5]] w
      (RowP w 9 1 (1 + n4 + 1 + n5) (flat strC (firstL ⟨x0, x1, x2, x3, h4, b5⟩ :: (h4.map headL ++ ⟨#[]⟩ :: b5)))) := by
  obtain ⟨i0, hi0, hz0, hz1, hz2⟩ := info_parts info_string
  obtain ⟨hra, hhv, hb8, hba⟩ := msgB_parts hv
  have hn8 : n4 ≤ 8 := by rw [hn4]; exact headsB_len hhv
  have hn58 : n5 ≤ 8 := by rw [hn5]; exact hb8
  have hcv := smv_any x0 x1 x2 x3 A4 n4 c4 h4 A5 n5 c5 b5 (w.alloc (.cells #[.string x0, .string x1, .string x2, .int .i64 x3, .slice A4 n4 c4, .slice A5 n5 c5] 29)) m0 m1 m2 hn4 hc4 hm4 hn5 hc5 hm5
    ((hr4.alloc (Nat.le_refl _) _).more (by simp)) ((hr5.alloc (Nat.le_refl _) _).more (by simp))
  rw [hv] at hcv
  have HCV := Lib.hid hcv
  have M1 := Lib.hid m1
  have M2 := Lib.hid m2
  have HN4 := Lib.hid hn4
  have HC4 := Lib.hid hc4
  have HM4 := Lib.hid hm4
  have HN5 := Lib.hid hn5
  have HR4 := Lib.hid hr4
  have HR5 := Lib.hid hr5
  have HHV := Lib.hid hhv
  have BX0 := Lib.hid (Holds.new w 29 #[.string x0, .string x1, .string x2, .int .i64 x3, .slice A4 n4 c4, .slice A5 n5 c5])
  have HB0 := Lib.hid (bnew w (.cells #[.string x0, .string x1, .string x2, .int .i64 x3, .slice A4 n4 c4, .slice A5 n5 c5] 29))
  have hx10 : x0.size ≤ 10 ∧ (textA x1 x2).size ≤ 25 ∧ (textS x3).size ≤ 7 := by
    rw [Bool.or_eq_true] at hra
    have hl : ∀ s : ByteArray, s.data.toList.length = s.size := fun s => by simp
    have hA : ∀ u h : ByteArray, (wordB u.data.toList && wordB h.data.toList) = true → (textA u h).size ≤ 25 := by
      intro u h hv
      unfold textA
      rw [if_pos hv]
      rw [Bool.and_eq_true] at hv
      have h1 := word_len hv.1
      have h2 := word_len hv.2
      rw [hl] at h1 h2
      show (addrT u.data.toList h.data.toList).toArray.size ≤ 25
      unfold addrT
      simp
      omega
    have hT : (textS x3).size ≤ 7 := by
      unfold textS textN
      split
      · have := numT_len7 x3.toNat (by omega)
        show (numT x3.toNat).toArray.size ≤ 7
        simpa using this
      · decide
    rcases hra with h | h
    · unfold reqB at h
      simp only [Bool.and_eq_true] at h
      have := word_len h.1.1.1
      rw [hl] at this
      exact ⟨by omega, hA _ _ (by rw [Bool.and_eq_true]; exact h.2), hT⟩
    · unfold ansB at h
      simp only [Bool.and_eq_true] at h
      have h0 := eq_of_beq h.1.1
      have h1 := eq_of_beq h.2.1
      rw [ByteArray.toList_eq] at h0 h1
      have e0 := hl x0
      rw [h0] at e0
      refine ⟨by simp at e0; omega, ?_, hT⟩
      unfold textA
      rw [if_neg (by rw [h1, wordB_nil, Bool.false_and]; simp)]
      decide
  clear m0 m1 m2 hn4 hc4 hm4 hn5 hc5 hm5 hr4 hr5 hcv hhv hb8 hba hv
  go_enter Try.func13, Try.ntmps13
  go_wp2_with fail
  refine HCV.out.mono ?_
  rintro e w1 ⟨rfl, hb1⟩
  have BX1 := Lib.hid (BX0.out.call hb1)
  have HB1 := Lib.hid (btrans HB0.out hb1)
  clear hb1
  have c0q := BX1.out.cell 0 _ rfl
  have c1q := BX1.out.cell 1 _ rfl
  have c2q := BX1.out.cell 2 _ rfl
  have a1 := add_run Try.prog x0 ⟨#[32]⟩ (by show _ + 1 ≤ _; omega)
  have a2 := add_run Try.prog (x0 ++ ⟨#[32]⟩) (textA x1 x2) (by rw [size_cat]; show _ + 1 + _ ≤ _; omega)
  go_wp2
  go_region_held3 (fun w' => w'.cell? ⟨w.heap.size, 0, none⟩ = some (.string x0) ∧ w'.cell? ⟨w.heap.size, 1, none⟩ = some (.string x1) ∧ w'.cell? ⟨w.heap.size, 2, none⟩ = some (.string x2))
    (first | go_keep | exact ⟨BX2.out.cell 0 _ rfl, BX2.out.cell 1 _ rfl, BX2.out.cell 2 _ rfl⟩)
    (first | (go_at_call 33; refine (sat_all _ _ _ M1.out M2.out).mono ?_; rintro e w2 ⟨rfl, hb2⟩; have BX2 := Lib.hid (BX1.out.drew.call hb2); have HB2 := Lib.hid (btrans (bdrew HB1.out) hb2); clear hb2))
  clear a1 a2 c0q c1q c2q
  have c0q := BX2.out.cell 0 _ rfl
  by_cases e0 : (x0.toList == []) = true
  · have c3q := BX2.out.cell 3 _ rfl
    have a3 := add_run Try.prog ⟨#[97, 110, 115, 119, 101, 114, 32]⟩ (textS x3) (by show 7 + _ ≤ _; omega)
    go_wp2_with fail
    refine (snum_any _ _).mono ?_
    rintro e w3 ⟨rfl, hb3⟩
    have BX3 := Lib.hid (BX2.out.call hb3)
    have HB3 := Lib.hid (btrans HB2.out hb3)
    clear hb3 c0q c3q
    have HFL : Hid (firstL ⟨x0, x1, x2, x3, h4, b5⟩ = ⟨#[97, 110, 115, 119, 101, 114, 32]⟩ ++ textS x3) := Lib.hid (by unfold firstL; rw [if_pos e0])
    have c4q := BX3.out.alloc (.cells #[.string (⟨#[97, 110, 115, 119, 101, 114, 32]⟩ ++ textS x3)] 9) |>.cell 4 _ rfl
    go_wp2_with fail
    refine (shl_t A4 n4 c4 h4 _ HN4.out HC4.out (((HR4.out.below HB3.out (Nat.le_refl _)).alloc HB3.out.size _).more (by have := HB3.out.size; simp; omega)) HM4.out HHV.out).mono ?_
    rintro e w4 ⟨A6, c6, rfl, hown4, hb4⟩
    have hz4 := hb4.size
    simp at hz4
    have hzi := HB3.out.size
    have hlti := BX3.out.lt
    have BX4 := Lib.hid ((BX3.out.alloc _).call hb4)
    have HB4 := Lib.hid (btrans (HB3.out.alloc hzi (.cells #[.string (⟨#[97, 110, 115, 119, 101, 114, 32]⟩ ++ textS x3)] 9)) hb4)
    have HO4 := Lib.hid (own_more (base' := w.heap.size + 1) hown4 (by simp; omega))
    have HL4 := Lib.hid (own_call (World.ownsRow_lit (base := w.heap.size + 1) (e := 9) (size := 1) w3 #[.string (⟨#[97, 110, 115, 119, 101, 114, 32]⟩ ++ textS x3)] 1 hlti (by unfold maxLen; omega) rfl) hb4)
    clear hb4 hown4 c4q
    go_wp2_with (at_builtin; refine wpList_append_list rfl _ _ 23 rfl (w.heap.size + 1) 9 1 16 1 n4 c6 w4.heap.size i0 _ (.slice (some ⟨w3.heap.size, 0, none⟩) 1 1) [.string (⟨#[97, 110, 115, 119, 101, 114, 32]⟩ ++ textS x3)] (flat strC (h4.map headL)) A6 Try.underlying23 hi0 hz0 hz1 hz2 rfl (by omega) rfl rfl HL4.out (Sees.of_own HO4.out) (str_ones' _) (by unfold maxLen; omega) (by omega) (by omega) ?_; intro v5 w5 hown5 hg5 hat5; obtain ⟨A7, c7, hv5⟩ := own_slice hown5; subst hv5; have HW5 := Lib.hid hown5; have HG5 := Lib.hid hg5; clear hown5 hg5 hat5)
    have BX5 := Lib.hid (BX4.out.grown HG5.out (by simp; omega))
    have HB5 := Lib.hid (HB4.out.grown HG5.out (by omega) (fun g hg => by simp [Value.ownBlock] at hg; omega))
    have hz5 := HB5.out.size
    have c5q := BX5.out.cell 5 _ rfl
    go_region_held3 (fun w' => w'.cell? ⟨w.heap.size, 5, none⟩ = some (.slice A5 n5 c5))
      (first | go_keep | (rw [hgrow6.cell_far ⟨w.heap.size, 5, none⟩ (show w.heap.size < _ by simp; omega) (fun e => by have h0 := (HW5.out.lt w.heap.size e.symm).1; omega)]; assumption) | (rw [hgrow7.cell_far ⟨w.heap.size, 5, none⟩ (show w.heap.size < _ by omega) (fun e => by have h0 := (hown6.lt w.heap.size e.symm).1; omega)]; assumption))
      (first
        | (refine step_append_lies _ (by rfl) _ _ _ (by rfl) (w.heap.size + 1) 9 i0 _ 1 16 Try.underlying23 hi0 hz0 hz1 hz2 rfl (by omega) (.slice A7 (1 + n4) c7) (1 + n4) _ (by rfl) ((HW5.out.alloc _).drew)
            ⟨w5.heap.size, 0, none⟩ 1 1 [.string ⟨#[]⟩] (by rfl) (by rfl) (World.news_of_block (cs := #[.string ⟨#[]⟩]) (t := 9) (fr := (0, 0)) (heap_alloc_new w5 _)) (by simp [Value.oneCell'])
            (by omega) (by unfold maxLen; omega) (by omega) (by simp; omega) (w5.heap.size + 1) (by simp) ?_; intro gg cap w6 hown6 hgrow6 hat6 hlt6; have hz6 := hgrow6.size; simp at hz6; have HB6 := Lib.hid ((bdrew (HB5.out.alloc hz5 (.cells #[.string ⟨#[]⟩] 9))).grown hgrow6 (by simp; omega) (fun g hg => by have := HW5.out.lt _ hg; omega)))
        | (refine step_append_list rfl (.tmp 31) (.tmp 33) 23 rfl (w.heap.size + 1) 9 1 16 (1 + n4 + 1) n5 c5 w.heap.size i0 (.string ⟨#[]⟩) (.slice (some ⟨gg, 0, none⟩) (1 + n4 + 1) cap) ([Value.string (⟨#[97, 110, 115, 119, 101, 114, 32]⟩ ++ textS x3)] ++ flat strC (h4.map headL) ++ [Value.string ⟨#[]⟩]) (flat strC b5) A5 Try.underlying23 hi0 hz0 hz1 hz2 rfl (by omega) rfl rfl hown6 (HR5.out.below HB6.out (Nat.le_refl _)) (str_ones' _) (by unfold maxLen; omega) (by omega) (by omega) ?_; intro A8 c8 w7 hown7 hgrow7))
    go_wp2
    go_ret
    refine ⟨_, _, rfl, own_more (base' := w.heap.size) (base := w.heap.size + 1) ?_ (by omega), HB6.out.grown hgrow7 (by omega) (fun g hg => by have := hown6.lt _ hg; omega)⟩
    rw [HFL.out, show flat strC ((⟨#[97, 110, 115, 119, 101, 114, 32]⟩ ++ textS x3) :: (h4.map headL ++ ⟨#[]⟩ :: b5)) = [Value.string (⟨#[97, 110, 115, 119, 101, 114, 32]⟩ ++ textS x3)] ++ flat strC (h4.map headL) ++ [Value.string ⟨#[]⟩] ++ flat strC b5 by simp [flat, strC]]
    exact hown7

  · have e0 : (x0.toList == []) = false := by simpa using e0
    have HFL : Hid (firstL ⟨x0, x1, x2, x3, h4, b5⟩ = x0 ++ ⟨#[32]⟩ ++ textA x1 x2) := Lib.hid (by unfold firstL; rw [if_neg (by rw [e0]; simp)])
    have c4q := BX2.out.alloc (.cells #[.string (x0 ++ ⟨#[32]⟩ ++ textA x1 x2)] 9) |>.cell 4 _ rfl
    go_wp2_with fail
    refine (shl_t A4 n4 c4 h4 _ HN4.out HC4.out (((HR4.out.below HB2.out (Nat.le_refl _)).alloc HB2.out.size _).more (by have := HB2.out.size; simp; omega)) HM4.out HHV.out).mono ?_
    rintro e w4 ⟨A6, c6, rfl, hown4, hb4⟩
    have hz4 := hb4.size
    simp at hz4
    have hzi := HB2.out.size
    have hlti := BX2.out.lt
    have BX4 := Lib.hid ((BX2.out.alloc _).call hb4)
    have HB4 := Lib.hid (btrans (HB2.out.alloc hzi (.cells #[.string (x0 ++ ⟨#[32]⟩ ++ textA x1 x2)] 9)) hb4)
    have HO4 := Lib.hid (own_more (base' := w.heap.size + 1) hown4 (by simp; omega))
    have HL4 := Lib.hid (own_call (World.ownsRow_lit (base := w.heap.size + 1) (e := 9) (size := 1) w2 #[.string (x0 ++ ⟨#[32]⟩ ++ textA x1 x2)] 1 hlti (by unfold maxLen; omega) rfl) hb4)
    clear hb4 hown4 c4q
    go_wp2_with (at_builtin; refine wpList_append_list rfl _ _ 23 rfl (w.heap.size + 1) 9 1 16 1 n4 c6 w4.heap.size i0 _ (.slice (some ⟨w2.heap.size, 0, none⟩) 1 1) [.string (x0 ++ ⟨#[32]⟩ ++ textA x1 x2)] (flat strC (h4.map headL)) A6 Try.underlying23 hi0 hz0 hz1 hz2 rfl (by omega) rfl rfl HL4.out (Sees.of_own HO4.out) (str_ones' _) (by unfold maxLen; omega) (by omega) (by omega) ?_; intro v5 w5 hown5 hg5 hat5; obtain ⟨A7, c7, hv5⟩ := own_slice hown5; subst hv5; have HW5 := Lib.hid hown5; have HG5 := Lib.hid hg5; clear hown5 hg5 hat5)
    have BX5 := Lib.hid (BX4.out.grown HG5.out (by simp; omega))
    have HB5 := Lib.hid (HB4.out.grown HG5.out (by omega) (fun g hg => by simp [Value.ownBlock] at hg; omega))
    have hz5 := HB5.out.size
    have c5q := BX5.out.cell 5 _ rfl
    go_region_held3 (fun w' => w'.cell? ⟨w.heap.size, 5, none⟩ = some (.slice A5 n5 c5))
      (first | go_keep | (rw [hgrow6.cell_far ⟨w.heap.size, 5, none⟩ (show w.heap.size < _ by simp; omega) (fun e => by have h0 := (HW5.out.lt w.heap.size e.symm).1; omega)]; assumption) | (rw [hgrow7.cell_far ⟨w.heap.size, 5, none⟩ (show w.heap.size < _ by omega) (fun e => by have h0 := (hown6.lt w.heap.size e.symm).1; omega)]; assumption))
      (first
        | (refine step_append_lies _ (by rfl) _ _ _ (by rfl) (w.heap.size + 1) 9 i0 _ 1 16 Try.underlying23 hi0 hz0 hz1 hz2 rfl (by omega) (.slice A7 (1 + n4) c7) (1 + n4) _ (by rfl) ((HW5.out.alloc _).drew)
            ⟨w5.heap.size, 0, none⟩ 1 1 [.string ⟨#[]⟩] (by rfl) (by rfl) (World.news_of_block (cs := #[.string ⟨#[]⟩]) (t := 9) (fr := (0, 0)) (heap_alloc_new w5 _)) (by simp [Value.oneCell'])
            (by omega) (by unfold maxLen; omega) (by omega) (by simp; omega) (w5.heap.size + 1) (by simp) ?_; intro gg cap w6 hown6 hgrow6 hat6 hlt6; have hz6 := hgrow6.size; simp at hz6; have HB6 := Lib.hid ((bdrew (HB5.out.alloc hz5 (.cells #[.string ⟨#[]⟩] 9))).grown hgrow6 (by simp; omega) (fun g hg => by have := HW5.out.lt _ hg; omega)))
        | (refine step_append_list rfl (.tmp 31) (.tmp 33) 23 rfl (w.heap.size + 1) 9 1 16 (1 + n4 + 1) n5 c5 w.heap.size i0 (.string ⟨#[]⟩) (.slice (some ⟨gg, 0, none⟩) (1 + n4 + 1) cap) ([Value.string (x0 ++ ⟨#[32]⟩ ++ textA x1 x2)] ++ flat strC (h4.map headL) ++ [Value.string ⟨#[]⟩]) (flat strC b5) A5 Try.underlying23 hi0 hz0 hz1 hz2 rfl (by omega) rfl rfl hown6 (HR5.out.below HB6.out (Nat.le_refl _)) (str_ones' _) (by unfold maxLen; omega) (by omega) (by omega) ?_; intro A8 c8 w7 hown7 hgrow7))
    go_wp2
    go_ret
    refine ⟨_, _, rfl, own_more (base' := w.heap.size) (base := w.heap.size + 1) ?_ (by omega), HB6.out.grown hgrow7 (by omega) (fun g hg => by have := hown6.lt _ hg; omega)⟩
    rw [HFL.out, show flat strC ((x0 ++ ⟨#[32]⟩ ++ textA x1 x2) :: (h4.map headL ++ ⟨#[]⟩ :: b5)) = [Value.string (x0 ++ ⟨#[32]⟩ ++ textA x1 x2)] ++ flat strC (h4.map headL) ++ [Value.string ⟨#[]⟩] ++ flat strC b5 by simp [flat, strC]]
    exact hown7


theorem sml_any (x0 x1 x2 : ByteArray) (x3 : Int) (A4 : Option Addr) (n4 c4 : Nat) (h4 : List HeadM) (A5 : Option Addr) (n5 c5 : Nat) (b5 : List ByteArray) (w : World) (m0 : x0.size ≤ maxLen) (m1 : x1.size ≤ maxLen) (m2 : x2.size ≤ maxLen)
    (hn4 : n4 = h4.length) (hc4 : n4 ≤ maxLen) (hm4 : headMax h4) (hn5 : n5 = b5.length) (hc5 : n5 ≤ maxLen) (hm5 : ∀ s ∈ b5, s.size ≤ maxLen) (hr4 : Sees w w.heap.size 2 A4 n4 (flat headC h4)) (hr5 : Sees w w.heap.size 1 A5 n5 (flat strC b5)) :
    Calls Try.prog 13 #[.agg #[.string x0, .string x1, .string x2, .int .i64 x3, .slice A4 n4 c4, .slice A5 n5 c5]] w
      (RowP w 9 1 (msgL ⟨x0, x1, x2, x3, h4, b5⟩).length (flat strC (msgL ⟨x0, x1, x2, x3, h4, b5⟩))) := by
  unfold msgL
  by_cases hv : msgB ⟨x0, x1, x2, x3, h4, b5⟩ = true
  · rw [if_pos hv, show (firstL ⟨x0, x1, x2, x3, h4, b5⟩ :: (h4.map headL ++ ⟨#[]⟩ :: b5)).length = 1 + n4 + 1 + n5 by simp [hn4, hn5]; omega]
    exact sml_t x0 x1 x2 x3 A4 n4 c4 h4 A5 n5 c5 b5 w m0 m1 m2 hn4 hc4 hm4 hn5 hc5 hm5 hr4 hr5 hv
  · rw [if_neg hv]
    have hv : msgB ⟨x0, x1, x2, x3, h4, b5⟩ = false := by simpa using hv
    have hcv := smv_any x0 x1 x2 x3 A4 n4 c4 h4 A5 n5 c5 b5 (w.alloc (.cells #[.string x0, .string x1, .string x2, .int .i64 x3, .slice A4 n4 c4, .slice A5 n5 c5] 29)) m0 m1 m2 hn4 hc4 hm4 hn5 hc5 hm5
      ((hr4.alloc (Nat.le_refl _) _).more (by simp)) ((hr5.alloc (Nat.le_refl _) _).more (by simp))
    rw [hv] at hcv
    have HCV := Lib.hid hcv
    have HB0 := Lib.hid (bnew w (.cells #[.string x0, .string x1, .string x2, .int .i64 x3, .slice A4 n4 c4, .slice A5 n5 c5] 29))
    clear hcv m0 m1 m2 hn4 hc4 hm4 hn5 hc5 hm5 hr4 hr5 hv
    go_enter Try.func13, Try.ntmps13
    go_wp2_with fail
    refine HCV.out.mono ?_
    rintro e w1 ⟨rfl, hb1⟩
    have HB1 := Lib.hid (btrans HB0.out hb1)
    clear hb1
    go_wp2
    go_ret
    exact ⟨_, _, rfl, World.ownsRow_lit (base := w.heap.size) (e := 9) (size := 1) w1 #[] 0 HB1.out.size (Nat.zero_le _) rfl, HB1.out.alloc HB1.out.size _⟩
end Go.Proofs.Ytplcdadedpbkpaa
