/- The contracts of the program's functions of chapter 4: lines of messages. -/
import Derived.Test.YtplcdadedpbkpaaIMsgV
import Derived.Test.YtplcdadedpbkpaaIHeadsR
import Derived.Test.YtplcdadedpbkpaaMsgL
namespace Go.Proofs.Ytplcdadedpbkpaa
open Go.RowKit
set_option linter.unusedVariables false
set_option maxRecDepth 20000

theorem msg_first_size {p : MsgM} (hv : msgB p = true) : p.x0.size ≤ 10 ∧ (textA p.x1 p.x2).size ≤ 25 ∧ (textS p.x3).size ≤ 7 := by
  have hra := (msgB_parts hv).1
  rw [Bool.or_eq_true] at hra
  have hl : ∀ s : ByteArray, s.data.toList.length = s.size := fun s => by simp
  have hA : ∀ u h : ByteArray, (wordB u.data.toList && wordB h.data.toList) = true → (textA u h).size ≤ 25 := by
    intro u h hv
    unfold textA
    rw [if_pos hv]
    rw [Bool.and_eq_true] at hv
    have h1 := word_len hv.1
    have h2 := word_len hv.2
    rw [hl] at h1 h2
    show (addrT u.data.toList h.data.toList).toArray.size ≤ 25
    unfold addrT
    simp
    omega
  have hT : (textS p.x3).size ≤ 7 := by
    unfold textS textN
    split
    · have := numT_len7 p.x3.toNat (by omega)
      show (numT p.x3.toNat).toArray.size ≤ 7
      simpa using this
    · decide
  rcases hra with h | h
  · unfold reqB at h
    simp only [Bool.and_eq_true] at h
    have := word_len h.1.1.1
    rw [hl] at this
    exact ⟨by omega, hA _ _ (by rw [Bool.and_eq_true]; exact h.2), hT⟩
  · unfold ansB at h
    simp only [Bool.and_eq_true] at h
    have h0 := eq_of_beq h.1.1
    have h1 := eq_of_beq h.2.1
    rw [ByteArray.toList_eq] at h0 h1
    have e0 := hl p.x0
    rw [h0] at e0
    refine ⟨by simp at e0; omega, ?_, hT⟩
    unfold textA
    rw [if_neg (by rw [h1, wordB_nil, Bool.false_and]; simp)]
    decide

set_option maxHeartbeats 2000000 in
theorem isl_any (x0 x1 x2 : ByteArray) (x3 : Int) (v4 v5 : Value) (h4 : List HeadM) (b5 : List ByteArray) (w : World) (m0 : x0.size ≤ 10) (m1 : x1.size ≤ maxLen) (m2 : x2.size ≤ maxLen) (ma : (textA x1 x2).size ≤ 25) (mt : (textS x3).size ≤ 7) :
    Calls Try.prog 31 #[.agg #[.string x0, .string x1, .string x2, .int .i64 x3, v4, v5]] w fun e w' => e = .returned (.string (firstL ⟨x0, x1, x2, x3, h4, b5⟩)) ∧ Below w.heap.size w w' := by
  have M1 := Lib.hid m1
  have M2 := Lib.hid m2
  clear m1 m2
  have BX0 := Lib.hid (Holds.new w 29 #[.string x0, .string x1, .string x2, .int .i64 x3, v4, v5])
  have HB0 := Lib.hid (bnew w (.cells #[.string x0, .string x1, .string x2, .int .i64 x3, v4, v5] 29))
  by_cases e0 : (x0.toList == []) = true
  · have a3 := add_run Try.prog ⟨#[97, 110, 115, 119, 101, 114, 32]⟩ (textS x3) (by show 7 + _ ≤ _; omega)
    have HFL : Hid (firstL ⟨x0, x1, x2, x3, h4, b5⟩ = ⟨#[97, 110, 115, 119, 101, 114, 32]⟩ ++ textS x3) := Lib.hid (by unfold firstL; rw [if_pos e0])
    go_enter Try.func31, Try.ntmps31
    go_wp2_with fail
    refine (inum_any _ _).mono ?_
    rintro e w' ⟨rfl, rfl⟩
    go_wp2
    go_ret
    exact ⟨by rw [HFL.out]; rfl, HB0.out⟩
  · have e0 : (x0.toList == []) = false := by simpa using e0
    have HFL : Hid (firstL ⟨x0, x1, x2, x3, h4, b5⟩ = x0 ++ ⟨#[32]⟩ ++ textA x1 x2) := Lib.hid (by unfold firstL; rw [if_neg (by rw [e0]; simp)])
    have a1 := add_run Try.prog x0 ⟨#[32]⟩ (by show _ + 1 ≤ _; omega)
    have a2 := add_run Try.prog (x0 ++ ⟨#[32]⟩) (textA x1 x2) (by rw [size_cat]; show _ + 1 + _ ≤ _; omega)
    go_enter Try.func31, Try.ntmps31
    have c0q := BX0.out.cell 0 _ rfl
    have c1q := BX0.out.cell 1 _ rfl
    have c2q := BX0.out.cell 2 _ rfl
    go_wp2
    go_region_held3 (fun w' => w'.cell? ⟨w.heap.size, 0, none⟩ = some (.string x0) ∧ w'.cell? ⟨w.heap.size, 1, none⟩ = some (.string x1) ∧ w'.cell? ⟨w.heap.size, 2, none⟩ = some (.string x2))
      (first | go_keep | exact ⟨BX2.out.cell 0 _ rfl, BX2.out.cell 1 _ rfl, BX2.out.cell 2 _ rfl⟩)
      (first | (go_at_call 52; refine (iat_all _ _ _ M1.out M2.out).mono ?_; rintro e w2 ⟨rfl, hb2⟩; have BX2 := Lib.hid (BX0.out.drew.call hb2); have HB2 := Lib.hid (btrans (bdrew HB0.out) hb2); clear hb2))
    go_wp2
    go_ret
    exact ⟨by rw [HFL.out]; rfl, HB2.out⟩

theorem flat_cons1 (s : ByteArray) (l : List ByteArray) : flat strC (s :: l) = .string s :: flat strC l := by simp [flat, strC]

set_option maxHeartbeats 4000000 in
theorem iml_t (x0 x1 x2 : ByteArray) (x3 : Int) (A4 : Option Addr) (n4 c4 : Nat) (h4 : List HeadM) (A5 : Option Addr) (n5 c5 : Nat) (b5 : List ByteArray) (w : World) (m0 : x0.size ≤ maxLen) (m1 : x1.size ≤ maxLen) (m2 : x2.size ≤ maxLen)
    (hn4 : n4 = h4.length) (hc4 : n4 ≤ maxLen) (hm4 : headMax h4) (hn5 : n5 = b5.length) (hc5 : n5 ≤ maxLen) (hm5 : ∀ s ∈ b5, s.size ≤ maxLen) (hr4 : Sees w w.heap.size 2 A4 n4 (flat headC h4)) (hr5 : Sees w w.heap.size 1 A5 n5 (flat strC b5))
    (hv : msgB ⟨x0, x1, x2, x3, h4, b5⟩ = true) :
    Calls Try.prog 11 #[.agg #[.string x0, .string x1, .string x2, .int .i64 x3, .slice A4 n4 c4, .slice A5 n5 c5]] w
      (RowP w 9 1 (1 + n4 + 1 + n5) (flat strC (firstL ⟨x0, x1, x2, x3, h4, b5⟩ :: (h4.map headL ++ ⟨#[]⟩ :: b5)))) := by
  obtain ⟨i0, hi0, hz0, hz1, hz2⟩ := info_parts info_string
  obtain ⟨hra, hhv, hb8, hba⟩ := msgB_parts hv
  have hn8 : n4 ≤ 8 := by rw [hn4]; exact headsB_len hhv
  have hn58 : n5 ≤ 8 := by rw [hn5]; exact hb8
  have hcv := imv_any x0 x1 x2 x3 A4 n4 c4 h4 A5 n5 c5 b5 (w.alloc (.cells #[.string x0, .string x1, .string x2, .int .i64 x3, .slice A4 n4 c4, .slice A5 n5 c5] 29)) m0 m1 m2 hn4 hc4 hm4 hn5 hc5 hm5
    ((hr4.alloc (Nat.le_refl _) _).more (by simp)) ((hr5.alloc (Nat.le_refl _) _).more (by simp))
  rw [hv] at hcv
  have HCV := Lib.hid hcv
  have HSL := Lib.hid (fun W : World => isl_any x0 x1 x2 x3 (.slice A4 n4 c4) (.slice A5 n5 c5) h4 b5 W (msg_first_size hv).1 m1 m2 (msg_first_size hv).2.1 (msg_first_size hv).2.2)
  have HN4 := Lib.hid hn4
  have HC4 := Lib.hid hc4
  have HM4 := Lib.hid hm4
  have HN5 := Lib.hid hn5
  have HR4 := Lib.hid hr4
  have HR5 := Lib.hid hr5
  have HHV := Lib.hid hhv
  have BX0 := Lib.hid (Holds.new w 29 #[.string x0, .string x1, .string x2, .int .i64 x3, .slice A4 n4 c4, .slice A5 n5 c5])
  have HB0 := Lib.hid (bnew w (.cells #[.string x0, .string x1, .string x2, .int .i64 x3, .slice A4 n4 c4, .slice A5 n5 c5] 29))
  obtain ⟨f, hf⟩ : ∃ f, firstL ⟨x0, x1, x2, x3, h4, b5⟩ = f := ⟨_, rfl⟩
  rw [hf] at HSL
  rw [hf]
  clear m0 m1 m2 hn4 hc4 hm4 hn5 hc5 hm5 hr4 hr5 hcv hhv hb8 hba hv hf hra
  go_enter Try.func11, Try.ntmps11
  go_wp2_with fail
  refine HCV.out.mono ?_
  rintro e w1 ⟨rfl, hb1⟩
  have BX1 := Lib.hid (BX0.out.call hb1)
  have HB1 := Lib.hid (btrans HB0.out hb1)
  clear hb1
  obtain ⟨q0, q1, q2, q3, q4, q5⟩ := six_cells BX1.out
  go_wp2_with fail
  refine (HSL.out _).mono ?_
  rintro e w3 ⟨rfl, hb3⟩
  have BX3 := Lib.hid (BX1.out.call hb3)
  have HB3 := Lib.hid (btrans HB1.out hb3)
  clear hb3 q0 q1 q2 q3 q4 q5
  have c4q := BX3.out.alloc (.cells #[.string f] 9) |>.cell 4 _ rfl
  go_wp2_with fail
  refine (ihl_t A4 n4 c4 h4 _ HN4.out HC4.out (((HR4.out.below HB3.out (Nat.le_refl _)).alloc HB3.out.size _).more (by have := HB3.out.size; simp; omega)) HM4.out HHV.out).mono ?_
  rintro e w4 ⟨A6, c6, rfl, hown4, hb4⟩
  have hy4 := hb4.size
  simp at hy4
  have hyi := HB3.out.size
  have hlti := BX3.out.lt
  have BX4 := Lib.hid ((BX3.out.alloc _).call hb4)
  have HB4 := Lib.hid (btrans (HB3.out.alloc hyi (.cells #[.string f] 9)) hb4)
  have HO4 := Lib.hid (own_more (base' := w.heap.size + 1) hown4 (by simp; omega))
  have HL4 := Lib.hid (own_call (World.ownsRow_lit (base := w.heap.size + 1) (e := 9) (size := 1) w3 #[.string f] 1 hlti (by unfold maxLen; omega) rfl) hb4)
  clear hb4 hown4 c4q
  go_wp2_with (first
    | (at_builtin; refine wpList_append_list rfl _ _ 23 rfl (w.heap.size + 1) 9 1 16 1 n4 c6 w4.heap.size i0 _ (.slice (some ⟨w3.heap.size, 0, none⟩) 1 1) [.string f] (flat strC (h4.map headL)) A6 Try.underlying23 hi0 hz0 hz1 hz2 rfl (by omega) rfl rfl HL4.out (Sees.of_own HO4.out) (str_ones' _) (by unfold maxLen; omega) (by omega) (by omega) ?_; intro v5 w5 hown5 hg5 hat5; obtain ⟨A7, c7, hv5⟩ := own_slice hown5; subst hv5; have HW5 := Lib.hid hown5; have HG5 := Lib.hid hg5; clear hown5 hg5 hat5; have BX5 := Lib.hid (BX4.out.grown HG5.out (by simp; omega)); have HB5 := Lib.hid (HB4.out.grown HG5.out (by omega) (fun g hg => by simp [Value.ownBlock] at hg; omega)); have hy5 := HB5.out.size; have c5q := BX5.out.cell 5 _ rfl)
    | (at_builtin; refine wpList_append_own _ rfl _ _ 23 rfl (w.heap.size + 1) 9 i0 _ 1 16 Try.underlying23 hi0 hz0 hz1 hz2 rfl (by omega) (.slice A7 (1 + n4) c7) (1 + n4) _ rfl (HW5.out.alloc _) ⟨w5.heap.size, 0, none⟩ 1 1 [.string ⟨#[]⟩] rfl rfl (World.news_of_block (cs := #[.string ⟨#[]⟩]) (t := 9) (fr := (0, 0)) (heap_alloc_new w5 _)) (by simp [Value.oneCell']) (by unfold maxLen; omega) (by omega) (by simp; omega) ?_; intro v6 w6 hown6 hg6 _; obtain ⟨A8, c8, hv6⟩ := own_slice hown6; subst hv6; have HW6 := Lib.hid hown6; have HG6 := Lib.hid hg6; have hg6s := hg6.size; simp at hg6s; have hl6 := BX5.out.lt; have c6q := ((BX5.out.alloc (.cells #[.string ⟨#[]⟩] 9)).gr (Gr.of_grown hg6) (by intro e; have h0 := (HW5.out.lt w.heap.size e).1; omega)).cell 5 _ rfl; have HB6 := Lib.hid ((HB5.out.alloc hy5 (.cells #[.string ⟨#[]⟩] 9)).grown hg6 (by simp; omega) (fun g hg => by have := HW5.out.lt _ hg; omega)); clear hown6 hg6 c5q)
    | (at_builtin; refine wpList_append_list rfl _ _ 23 rfl (w.heap.size + 1) 9 1 16 (1 + n4 + 1) n5 c5 w.heap.size i0 _ (.slice A8 (1 + n4 + 1) c8) ([Value.string f] ++ flat strC (h4.map headL) ++ [Value.string ⟨#[]⟩]) (flat strC b5) A5 Try.underlying23 hi0 hz0 hz1 hz2 rfl (by omega) rfl rfl HW6.out (HR5.out.below HB6.out (Nat.le_refl _)) (str_ones' _) (by unfold maxLen; omega) (by omega) (by omega) ?_; intro v7 w7 hown7 hgrow7 _))
  go_ret
  obtain ⟨A9, c9, hv9⟩ := own_slice hown7
  subst hv9
  refine ⟨_, _, rfl, own_more (base' := w.heap.size) (base := w.heap.size + 1) ?_ (by omega), HB6.out.grown hgrow7 (by omega) (fun g hg => by have := HW6.out.lt _ hg; omega)⟩
  rw [show flat strC (f :: (h4.map headL ++ ⟨#[]⟩ :: b5)) = [Value.string f] ++ flat strC (h4.map headL) ++ [Value.string ⟨#[]⟩] ++ flat strC b5 by simp [flat, strC]]
  exact hown7

theorem iml_any (x0 x1 x2 : ByteArray) (x3 : Int) (A4 : Option Addr) (n4 c4 : Nat) (h4 : List HeadM) (A5 : Option Addr) (n5 c5 : Nat) (b5 : List ByteArray) (w : World) (m0 : x0.size ≤ maxLen) (m1 : x1.size ≤ maxLen) (m2 : x2.size ≤ maxLen)
    (hn4 : n4 = h4.length) (hc4 : n4 ≤ maxLen) (hm4 : headMax h4) (hn5 : n5 = b5.length) (hc5 : n5 ≤ maxLen) (hm5 : ∀ s ∈ b5, s.size ≤ maxLen) (hr4 : Sees w w.heap.size 2 A4 n4 (flat headC h4)) (hr5 : Sees w w.heap.size 1 A5 n5 (flat strC b5)) :
    Calls Try.prog 11 #[.agg #[.string x0, .string x1, .string x2, .int .i64 x3, .slice A4 n4 c4, .slice A5 n5 c5]] w
      (RowP w 9 1 (msgL ⟨x0, x1, x2, x3, h4, b5⟩).length (flat strC (msgL ⟨x0, x1, x2, x3, h4, b5⟩))) := by
  unfold msgL
  by_cases hv : msgB ⟨x0, x1, x2, x3, h4, b5⟩ = true
  · rw [if_pos hv, show (firstL ⟨x0, x1, x2, x3, h4, b5⟩ :: (h4.map headL ++ ⟨#[]⟩ :: b5)).length = 1 + n4 + 1 + n5 by simp [hn4, hn5]; omega]
    exact iml_t x0 x1 x2 x3 A4 n4 c4 h4 A5 n5 c5 b5 w m0 m1 m2 hn4 hc4 hm4 hn5 hc5 hm5 hr4 hr5 hv
  · rw [if_neg hv]
    have hv : msgB ⟨x0, x1, x2, x3, h4, b5⟩ = false := by simpa using hv
    have hcv := imv_any x0 x1 x2 x3 A4 n4 c4 h4 A5 n5 c5 b5 (w.alloc (.cells #[.string x0, .string x1, .string x2, .int .i64 x3, .slice A4 n4 c4, .slice A5 n5 c5] 29)) m0 m1 m2 hn4 hc4 hm4 hn5 hc5 hm5
      ((hr4.alloc (Nat.le_refl _) _).more (by simp)) ((hr5.alloc (Nat.le_refl _) _).more (by simp))
    rw [hv] at hcv
    have HCV := Lib.hid hcv
    have HB0 := Lib.hid (bnew w (.cells #[.string x0, .string x1, .string x2, .int .i64 x3, .slice A4 n4 c4, .slice A5 n5 c5] 29))
    clear hcv m0 m1 m2 hn4 hc4 hm4 hn5 hc5 hm5 hr4 hr5 hv
    go_enter Try.func11, Try.ntmps11
    go_wp2_with fail
    refine HCV.out.mono ?_
    rintro e w1 ⟨rfl, hb1⟩
    have HB1 := Lib.hid (btrans HB0.out hb1)
    clear hb1
    go_wp2
    go_ret
    exact ⟨_, _, rfl, ⟨rfl, .inl ⟨rfl, rfl⟩⟩, HB1.out⟩
end Go.Proofs.Ytplcdadedpbkpaa
