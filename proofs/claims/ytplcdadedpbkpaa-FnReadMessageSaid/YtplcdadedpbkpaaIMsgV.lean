/- The contracts of the program's functions of chapter 4: valid messages. -/
import Derived.Test.YtplcdadedpbkpaaMsg
import Derived.Test.YtplcdadedpbkpaaIHeadsV
namespace Go.Proofs.Ytplcdadedpbkpaa
open Go.RowKit
set_option linter.unusedVariables false
set_option maxRecDepth 20000

theorem icd_any (cd : Int) (w : World) :
    Calls Try.prog 48 #[.int .i64 cd] w fun e w' => e = .returned (.bool (decide (100 ≤ cd) && decide (cd ≤ 699))) ∧ w = w' := by
  by_cases h1 : 100 ≤ cd <;> by_cases h2 : cd ≤ 699
  all_goals
    go_enter Try.func48, Try.ntmps48
    go_wp2
    go_ret
    exact ⟨ret_bool (by simp [h1, h2]), rfl⟩

set_option maxHeartbeats 1000000 in
theorem ibv_any (A5 : Option Addr) (n5 c5 : Nat) (b5 : List ByteArray) (w : World) (hn5 : n5 = b5.length) (hc5 : n5 ≤ maxLen) (hm5 : ∀ s ∈ b5, s.size ≤ maxLen) (hr5 : Sees w w.heap.size 1 A5 n5 (flat strC b5)) :
    Calls Try.prog 20 #[.slice A5 n5 c5] w fun e w' => e = .returned (.bool (bodyB b5)) ∧ w = w' := by
  unfold maxLen at hc5
  have HR := Lib.hid hr5
  have HM := Lib.hid hm5
  have HN := Lib.hid hn5
  clear hr5 hm5 hn5
  by_cases h8 : 8 < n5
  · go_enter Try.func20, Try.ntmps20
    go_wp2
    go_ret
    exact ⟨ret_bool (by unfold bodyB; rw [← HN.out, decide_eq_false (by omega)]; rfl), rfl⟩
  have HD : Hid (decide (b5.length ≤ 8) = true) := Lib.hid (decide_eq_true (by rw [← HN.out]; omega))
  go_enter Try.func20, Try.ntmps20
  go_wp2
  go_loop [3] (fun i => ∃ k : Nat, k ≤ n5 ∧ i = .int .i64 k ∧ (b5.take k).all lineN = true) (fun i => n5 - (intOf i).toNat)
  case atStart => exact ⟨0, Nat.zero_le _, rfl, rfl⟩
  case round =>
    obtain ⟨k, hk, rfl, hall⟩ := hrel
    have HA := Lib.hid hall
    clear hall
    by_cases hlt : k < n5
    · obtain ⟨b, off, rfl, hb, hcell⟩ := HR.out.2 (by omega)
      obtain ⟨s, hp⟩ := get_of HN.out hlt
      have HP := Lib.hid hp
      have HX := Lib.hid (HM.out s (List.mem_of_getElem? hp))
      have c0 := str_cell hcell hp
      clear hcell hb hp
      obtain ⟨v, hv⟩ : ∃ v, (s.toList == []) = v := ⟨_, rfl⟩
      have HV := Lib.hid hv
      cases v
      · by_cases h1 : lineB s.data.toList = true
        · have H1 := Lib.hid h1
          clear h1
          go_wp2_with fail
          refine (iline_t _ _ HX.out H1.out).mono ?_
          rintro e w' ⟨rfl, rfl⟩
          go_wp2
          go_round
          case rel => exact ⟨k + 1, by omega, by go_num, by rw [all_more lineN HP.out, HA.out]; unfold lineN; rw [H1.out, HV.out]; rfl⟩
          case measure => simp [intOf]; omega
        · have H1 : Hid (lineB s.data.toList = false) := Lib.hid (by simpa using h1)
          clear h1
          go_wp2_with fail
          refine (iline_f _ _ HX.out H1.out).mono ?_
          rintro e w' ⟨rfl, rfl⟩
          go_wp2
          go_ret
          refine ⟨ret_bool ?_, rfl⟩
          unfold bodyB
          rw [all_no lineN HP.out (by unfold lineN; rw [H1.out]; rfl), Bool.and_false]
      · go_wp2
        go_ret
        refine ⟨ret_bool ?_, rfl⟩
        unfold bodyB
        rw [all_no lineN HP.out (by unfold lineN; rw [HV.out, Bool.and_comm]; rfl), Bool.and_false]
    · go_wp2
      go_ret
      refine ⟨ret_bool ?_, rfl⟩
      have h1 := HA.out
      rw [take_all HN.out hlt] at h1
      unfold bodyB
      rw [h1, HD.out]; rfl

/-- The start of a message is valid. -/
def startB (p : MsgM) : Bool := reqB p || ansB p

set_option maxHeartbeats 2000000 in
theorem isv_any (x0 x1 x2 : ByteArray) (x3 : Int) (v4 v5 : Value) (h4 : List HeadM) (b5 : List ByteArray) (w : World) (m0 : x0.size ≤ maxLen) (m1 : x1.size ≤ maxLen) (m2 : x2.size ≤ maxLen) :
    Calls Try.prog 29 #[.agg #[.string x0, .string x1, .string x2, .int .i64 x3, v4, v5]] w fun e w' => e = .returned (.bool (startB ⟨x0, x1, x2, x3, h4, b5⟩)) ∧ Below w.heap.size w w' := by
  have M0 := Lib.hid m0
  have M1 := Lib.hid m1
  have M2 := Lib.hid m2
  clear m0 m1 m2
  have BX0 := Lib.hid (Holds.new w 29 #[.string x0, .string x1, .string x2, .int .i64 x3, v4, v5])
  have HB0 := Lib.hid (bnew w (.cells #[.string x0, .string x1, .string x2, .int .i64 x3, v4, v5] 29))
  by_cases e0 : (x0.toList == []) = true
  · have E0 := Lib.hid e0
    have HW : Hid (wordB x0.data.toList = false) := Lib.hid (by
      cases h : wordB x0.data.toList
      · rfl
      · have := word_ne h
        rw [e0] at this; cases this)
    obtain ⟨v, hv⟩ : ∃ v, v = (decide (100 ≤ x3) && decide (x3 ≤ 699)) := ⟨_, rfl⟩
    have hcv : ∀ W : World, Calls Try.prog 48 #[.int .i64 x3] W fun e w' => e = .returned (.bool v) ∧ W = w' := fun W => by rw [hv]; exact icd_any x3 W
    have HV := Lib.hid hv
    have HCV := Lib.hid hcv
    clear hv hcv
    go_enter Try.func29, Try.ntmps29
    go_wp2_with fail
    refine (HCV.out _).mono ?_
    rintro e w' ⟨rfl, rfl⟩
    cases v
    · go_wp2
      go_ret
      exact ⟨ret_bool (by unfold startB reqB ansB; rw [HW.out, E0.out, ← HV.out]; rfl), HB0.out⟩
    · by_cases e1 : (x1.toList == []) = true
      · by_cases e2 : (x2.toList == []) = true
        · have E1 := Lib.hid e1
          have E2 := Lib.hid e2
          go_wp2
          go_ret
          exact ⟨ret_bool (by unfold startB reqB ansB; rw [HW.out, E0.out, ← HV.out, E1.out, E2.out]; rfl), HB0.out⟩
        · have e2 : (x2.toList == []) = false := by simpa using e2
          have E1 := Lib.hid e1
          have E2 := Lib.hid e2
          go_wp2
          go_ret
          exact ⟨ret_bool (by unfold startB reqB ansB; rw [HW.out, E0.out, ← HV.out, E1.out, E2.out]; rfl), HB0.out⟩
      · have e1 : (x1.toList == []) = false := by simpa using e1
        have E1 := Lib.hid e1
        go_wp2
        go_ret
        exact ⟨ret_bool (by unfold startB reqB ansB; rw [HW.out, E0.out, ← HV.out, E1.out]; rfl), HB0.out⟩
  · have e0 : (x0.toList == []) = false := by simpa using e0
    have E0 := Lib.hid e0
    have HA : Hid (ansB ⟨x0, x1, x2, x3, h4, b5⟩ = false) := Lib.hid (by unfold ansB; rw [E0.out]; rfl)
    by_cases h1 : (x0.toList == ansL) = true
    · have H1 := Lib.hid h1
      unfold ansL at h1
      go_enter Try.func29, Try.ntmps29
      go_wp2
      go_ret
      exact ⟨ret_bool (by unfold startB; rw [HA.out]; unfold reqB; rw [H1.out, Bool.or_false]; simp), HB0.out⟩
    · have h1 : (x0.toList == ansL) = false := by simpa using h1
      have H1 := Lib.hid h1
      unfold ansL at h1
      by_cases h0 : wordB x0.data.toList = true
      · have H0 := Lib.hid h0
        clear h0
        by_cases h3 : x3 = 0
        · have H3 := Lib.hid h3
          have h3b : (x3 == 0) = true := by rw [h3]; rfl
          clear h3
          go_enter Try.func29, Try.ntmps29
          go_wp2_with fail
          refine (iword_t _ _ M0.out H0.out).mono ?_
          rintro e w' ⟨rfl, rfl⟩
          go_wp2_with fail
          refine (iav_any _ _ _ M1.out M2.out).mono ?_
          rintro e w1 ⟨rfl, hb1⟩
          have HB1 := Lib.hid (btrans HB0.out hb1)
          clear hb1
          go_wp2
          go_ret
          exact ⟨ret_bool (by unfold startB; rw [HA.out]; unfold reqB; rw [H1.out, H0.out, H3.out, Bool.or_false]; simp), HB1.out⟩
        · have h3b : (x3 == 0) = false := beq_eq_false_iff_ne.mpr h3
          have H3 := Lib.hid h3
          clear h3
          go_enter Try.func29, Try.ntmps29
          go_wp2_with fail
          refine (iword_t _ _ M0.out H0.out).mono ?_
          rintro e w' ⟨rfl, rfl⟩
          go_wp2
          go_ret
          exact ⟨ret_bool (by unfold startB; rw [HA.out]; unfold reqB; rw [decide_eq_false H3.out, Bool.or_false]; simp), HB0.out⟩
      · have h0 : wordB x0.data.toList = false := by simpa using h0
        have H0 := Lib.hid h0
        clear h0
        go_enter Try.func29, Try.ntmps29
        go_wp2_with fail
        refine (iword_f _ _ M0.out H0.out).mono ?_
        rintro e w' ⟨rfl, rfl⟩
        go_wp2
        go_ret
        exact ⟨ret_bool (by unfold startB; rw [HA.out]; unfold reqB; rw [H0.out]; rfl), HB0.out⟩

theorem msgB_is (p : MsgM) : msgB p = (startB p && headsB p.h && bodyB p.b) := rfl

set_option maxHeartbeats 1000000 in
theorem imv_any (x0 x1 x2 : ByteArray) (x3 : Int) (A4 : Option Addr) (n4 c4 : Nat) (h4 : List HeadM) (A5 : Option Addr) (n5 c5 : Nat) (b5 : List ByteArray) (w : World) (m0 : x0.size ≤ maxLen) (m1 : x1.size ≤ maxLen) (m2 : x2.size ≤ maxLen)
    (hn4 : n4 = h4.length) (hc4 : n4 ≤ maxLen) (hm4 : headMax h4) (hn5 : n5 = b5.length) (hc5 : n5 ≤ maxLen) (hm5 : ∀ s ∈ b5, s.size ≤ maxLen) (hr4 : Sees w w.heap.size 2 A4 n4 (flat headC h4)) (hr5 : Sees w w.heap.size 1 A5 n5 (flat strC b5)) :
    Calls Try.prog 9 #[.agg #[.string x0, .string x1, .string x2, .int .i64 x3, .slice A4 n4 c4, .slice A5 n5 c5]] w fun e w' => e = .returned (.bool (msgB ⟨x0, x1, x2, x3, h4, b5⟩)) ∧ Below w.heap.size w w' := by
  have M0 := Lib.hid m0
  have M1 := Lib.hid m1
  have M2 := Lib.hid m2
  have HN4 := Lib.hid hn4
  have HC4 := Lib.hid hc4
  have HM4 := Lib.hid hm4
  have HN5 := Lib.hid hn5
  have HC5 := Lib.hid hc5
  have HM5 := Lib.hid hm5
  have HR4 := Lib.hid hr4
  have HR5 := Lib.hid hr5
  clear m0 m1 m2 hn4 hc4 hm4 hn5 hc5 hm5 hr4 hr5
  have BX0 := Lib.hid (Holds.new w 29 #[.string x0, .string x1, .string x2, .int .i64 x3, .slice A4 n4 c4, .slice A5 n5 c5])
  have HB0 := Lib.hid (bnew w (.cells #[.string x0, .string x1, .string x2, .int .i64 x3, .slice A4 n4 c4, .slice A5 n5 c5] 29))
  obtain ⟨v, hv⟩ : ∃ v, startB ⟨x0, x1, x2, x3, h4, b5⟩ = v := ⟨_, rfl⟩
  have hcv : ∀ W : World, Calls Try.prog 29 #[.agg #[.string x0, .string x1, .string x2, .int .i64 x3, .slice A4 n4 c4, .slice A5 n5 c5]] W fun e w' => e = .returned (.bool v) ∧ Below W.heap.size W w' := fun W => by rw [← hv]; exact isv_any _ _ _ _ _ _ _ _ W M0.out M1.out M2.out
  obtain ⟨v2, hv2⟩ : ∃ v2, headsB h4 = v2 := ⟨_, rfl⟩
  have hcv2 : ∀ W : World, Sees W W.heap.size 2 A4 n4 (flat headC h4) → Calls Try.prog 30 #[.slice A4 n4 c4] W fun e w' => e = .returned (.bool v2) ∧ Below W.heap.size W w' := fun W h => by rw [← hv2]; exact ihv_any A4 n4 c4 h4 W HN4.out HC4.out h HM4.out
  have HV := Lib.hid hv
  have HV2 := Lib.hid hv2
  have HCV := Lib.hid hcv
  have HCV2 := Lib.hid hcv2
  clear hv hv2 hcv hcv2
  go_enter Try.func9, Try.ntmps9
  go_wp2_with fail
  refine (HCV.out _).mono ?_
  rintro e w1 ⟨rfl, hb1⟩
  have BX1 := Lib.hid (BX0.out.call hb1)
  have HB1 := Lib.hid (btrans HB0.out hb1)
  clear hb1
  cases v
  · go_wp2
    go_ret
    exact ⟨ret_bool (by rw [msgB_is, HV.out]; rfl), HB1.out⟩
  have c4q := BX1.out.cell 4 _ rfl
  go_wp2_with fail
  refine (HCV2.out _ ((HR4.out.below HB1.out (Nat.le_refl _)).more HB1.out.size)).mono ?_
  rintro e w2 ⟨rfl, hb2⟩
  have BX2 := Lib.hid (BX1.out.call hb2)
  have HB2 := Lib.hid (btrans HB1.out hb2)
  clear hb2 c4q
  cases v2
  · go_wp2
    go_ret
    exact ⟨ret_bool (by rw [msgB_is, HV.out]; show _ = (true && headsB h4 && _); rw [HV2.out]; rfl), HB2.out⟩
  have c5q := BX2.out.cell 5 _ rfl
  go_wp2_with fail
  refine (ibv_any A5 n5 c5 b5 _ HN5.out HC5.out HM5.out ((HR5.out.below HB2.out (Nat.le_refl _)).more HB2.out.size)).mono ?_
  rintro e w' ⟨rfl, rfl⟩
  go_wp2
  go_ret
  exact ⟨ret_bool (by rw [msgB_is, HV.out]; show _ = (true && headsB h4 && bodyB b5); rw [HV2.out]; rfl), HB2.out⟩
end Go.Proofs.Ytplcdadedpbkpaa
