/- The contracts of the model's functions of chapter 4: valid messages. -/
import Derived.Test.YtplcdadedpbkpaaHeadsR
import Derived.Test.YtplcdadedpbkpaaAddrS
import Derived.Test.YtplcdadedpbkpaaGr
namespace Go.Proofs.Ytplcdadedpbkpaa
open Go.RowKit
set_option linter.unusedVariables false
set_option maxRecDepth 20000

/-- A message. -/
structure MsgM where
  x0 : ByteArray
  x1 : ByteArray
  x2 : ByteArray
  x3 : Int
  h : List HeadM
  b : List ByteArray
/-- The word answer. -/
def ansL : List UInt8 := [97, 110, 115, 119, 101, 114]
def reqB (p : MsgM) : Bool := wordB p.x0.data.toList && !(p.x0.toList == ansL) && decide (p.x3 = 0) && (wordB p.x1.data.toList && wordB p.x2.data.toList)
def ansB (p : MsgM) : Bool := (p.x0.toList == []) && (decide (100 ≤ p.x3) && decide (p.x3 ≤ 699)) && ((p.x1.toList == []) && (p.x2.toList == []))
def lineN (s : ByteArray) : Bool := lineB s.data.toList && !(s.toList == [])
def bodyB (bs : List ByteArray) : Bool := decide (bs.length ≤ 8) && bs.all lineN
def msgB (p : MsgM) : Bool := (reqB p || ansB p) && headsB p.h && bodyB p.b

theorem word_ne {s : ByteArray} (h : wordB s.data.toList = true) : (s.toList == []) = false := by
  have := word_len h
  rw [ByteArray.toList_eq, beq_eq_false_iff_ne]
  intro e
  rw [e] at this
  simp at this

set_option maxHeartbeats 4000000 in
theorem smv_any (x0 x1 x2 : ByteArray) (x3 : Int) (A4 : Option Addr) (n4 c4 : Nat) (h4 : List HeadM) (A5 : Option Addr) (n5 c5 : Nat) (b5 : List ByteArray) (w : World) (m0 : x0.size ≤ maxLen) (m1 : x1.size ≤ maxLen) (m2 : x2.size ≤ maxLen)
    (hn4 : n4 = h4.length) (hc4 : n4 ≤ maxLen) (hm4 : headMax h4) (hn5 : n5 = b5.length) (hc5 : n5 ≤ maxLen) (hm5 : ∀ s ∈ b5, s.size ≤ maxLen) (hr4 : Sees w w.heap.size 2 A4 n4 (flat headC h4)) (hr5 : Sees w w.heap.size 1 A5 n5 (flat strC b5)) :
    Calls Try.prog 26 #[.agg #[.string x0, .string x1, .string x2, .int .i64 x3, .slice A4 n4 c4, .slice A5 n5 c5]] w fun e w' => e = .returned (.bool (msgB ⟨x0, x1, x2, x3, h4, b5⟩)) ∧ Below w.heap.size w w' := by
  have M0 := Lib.hid m0
  have M1 := Lib.hid m1
  have M2 := Lib.hid m2
  have HN4 := Lib.hid hn4
  have HC4 := Lib.hid hc4
  have HM4 := Lib.hid hm4
  have HN5 := Lib.hid hn5
  have HM5 := Lib.hid hm5
  have HR4 := Lib.hid hr4
  have HR5 := Lib.hid hr5
  unfold maxLen at hc5
  clear m0 m1 m2 hn4 hc4 hm4 hn5 hm5 hr4 hr5
  have BX0 := Lib.hid (Holds.new w 29 #[.string x0, .string x1, .string x2, .int .i64 x3, .slice A4 n4 c4, .slice A5 n5 c5])
  have HB0 := Lib.hid (bnew w (.cells #[.string x0, .string x1, .string x2, .int .i64 x3, .slice A4 n4 c4, .slice A5 n5 c5] 29))
  by_cases h0 : wordB x0.data.toList = true
  · have H0 := Lib.hid h0
    have e0 := word_ne h0
    have E0 := Lib.hid e0
    clear h0
    by_cases h1 : (x0.toList == ansL) = true
    · have H1 := Lib.hid h1
      unfold ansL at h1
      go_enter Try.func26, Try.ntmps26
      go_wp2_with fail
      refine (sword_t _ _ M0.out H0.out).mono ?_
      rintro e w' ⟨rfl, rfl⟩
      go_wp2
      have HRA : Hid ((reqB ⟨x0, x1, x2, x3, h4, b5⟩ || ansB ⟨x0, x1, x2, x3, h4, b5⟩) = false) := Lib.hid (by unfold reqB ansB; rw [H1.out, E0.out]; simp)
      go_loopw [5] (fun i wr => ∃ k : Nat, k ≤ n5 ∧ i = .int .i64 k ∧ (b5.take k).all lineN = true ∧ Holds wr w.heap.size 29 #[.string x0, .string x1, .string x2, .int .i64 x3, .slice A4 n4 c4, .slice A5 n5 c5] ∧ Below w.heap.size w wr) (fun i _ => n5 - (intOf i).toNat)
      case atStart => exact ⟨0, Nat.zero_le _, rfl, rfl, BX0.out, HB0.out⟩
      case round =>
        obtain ⟨k, hk, rfl, hall, hbx, hbel⟩ := hrel
        have HA := Lib.hid hall
        have BX := Lib.hid hbx
        have HB := Lib.hid hbel
        have d4 := hbx.cell 4 _ rfl
        have d5 := hbx.cell 5 _ rfl
        clear hall hbx hbel
        by_cases hlt : k < n5
        · obtain ⟨b, off, rfl, hb, hcell⟩ := (HR5.out.below HB.out (Nat.le_refl _)).2 (by omega)
          obtain ⟨s, hp⟩ := get_of HN5.out hlt
          have HP := Lib.hid hp
          have HX := Lib.hid (HM5.out s (List.mem_of_getElem? hp))
          have c0 := str_cell hcell hp
          clear hcell hb hp
          by_cases h1 : lineB s.data.toList = true
          · have H1 := Lib.hid h1
            clear h1
            obtain ⟨v, hv⟩ : ∃ v, (s.toList == []) = v := ⟨_, rfl⟩
            have HV := Lib.hid hv
            cases v
            · go_wp2_with fail
              refine (sline_t _ _ HX.out H1.out).mono ?_
              rintro e w' ⟨rfl, rfl⟩
              go_wp2
              go_roundw
              case rel => exact ⟨k + 1, by omega, by go_num, by rw [all_more lineN HP.out, HA.out]; unfold lineN; rw [H1.out, HV.out]; rfl, BX.out, HB.out⟩
              case measure => simp [intOf]; omega
            · go_wp2_with fail
              refine (sline_t _ _ HX.out H1.out).mono ?_
              rintro e w' ⟨rfl, rfl⟩
              go_wp2
              go_ret
              refine ⟨ret_bool ?_, HB.out⟩
              unfold msgB bodyB
              rw [all_no lineN HP.out (by unfold lineN; rw [HV.out, Bool.and_comm]; rfl), Bool.and_false, Bool.and_false]
          · have H1 : Hid (lineB s.data.toList = false) := Lib.hid (by simpa using h1)
            clear h1
            go_wp2_with fail
            refine (sline_f _ _ HX.out H1.out).mono ?_
            rintro e w' ⟨rfl, rfl⟩
            go_wp2
            go_ret
            refine ⟨ret_bool ?_, HB.out⟩
            unfold msgB bodyB
            rw [all_no lineN HP.out (by unfold lineN; rw [H1.out]; rfl), Bool.and_false, Bool.and_false]
        · have hA : b5.all lineN = true := by
            have := HA.out
            rw [take_all HN5.out hlt] at this
            exact this
          have HAA := Lib.hid hA
          clear hA
          go_wp2
          go_ret
          refine ⟨ret_bool ?_, HB.out⟩
          unfold msgB
          rw [HRA.out, Bool.false_and, Bool.false_and]

    · have h1 : (x0.toList == ansL) = false := by simpa using h1
      have H1 := Lib.hid h1
      unfold ansL at h1
      by_cases h3 : x3 = 0
      · have H3 := Lib.hid h3
        have h3b : (x3 == 0) = true := by rw [h3]; rfl
        clear h3
        by_cases h2 : (wordB x1.data.toList && wordB x2.data.toList) = true
        · have H2 := Lib.hid h2
          clear h2
          go_enter Try.func26, Try.ntmps26
          go_wp2_with fail
          refine (sword_t _ _ M0.out H0.out).mono ?_
          rintro e w' ⟨rfl, rfl⟩
          go_wp2_with fail
          refine (sav_any _ _ _ M1.out M2.out).mono ?_
          rintro e w1 ⟨rfl, hb1⟩
          have BX1 := Lib.hid (BX0.out.call hb1)
          have HB1 := Lib.hid (btrans HB0.out hb1)
          have c0q := BX1.out.cell 0 _ rfl
          have c2q := BX1.out.cell 3 _ rfl
          clear hb1
          rw [H2.out]
          go_wp2
          have HRA : Hid ((reqB ⟨x0, x1, x2, x3, h4, b5⟩ || ansB ⟨x0, x1, x2, x3, h4, b5⟩) = true) := Lib.hid (by unfold reqB ansB; rw [H0.out, H1.out, E0.out, H2.out, H3.out]; rfl)
          go_loopw [5] (fun i wr => ∃ k : Nat, k ≤ n5 ∧ i = .int .i64 k ∧ (b5.take k).all lineN = true ∧ Holds wr w.heap.size 29 #[.string x0, .string x1, .string x2, .int .i64 x3, .slice A4 n4 c4, .slice A5 n5 c5] ∧ Below w.heap.size w wr) (fun i _ => n5 - (intOf i).toNat)
          case atStart => exact ⟨0, Nat.zero_le _, rfl, rfl, BX1.out, HB1.out⟩
          case round =>
            obtain ⟨k, hk, rfl, hall, hbx, hbel⟩ := hrel
            have HA := Lib.hid hall
            have BX := Lib.hid hbx
            have HB := Lib.hid hbel
            have d4 := hbx.cell 4 _ rfl
            have d5 := hbx.cell 5 _ rfl
            clear hall hbx hbel
            by_cases hlt : k < n5
            · obtain ⟨b, off, rfl, hb, hcell⟩ := (HR5.out.below HB.out (Nat.le_refl _)).2 (by omega)
              obtain ⟨s, hp⟩ := get_of HN5.out hlt
              have HP := Lib.hid hp
              have HX := Lib.hid (HM5.out s (List.mem_of_getElem? hp))
              have c0 := str_cell hcell hp
              clear hcell hb hp
              by_cases h1 : lineB s.data.toList = true
              · have H1 := Lib.hid h1
                clear h1
                obtain ⟨v, hv⟩ : ∃ v, (s.toList == []) = v := ⟨_, rfl⟩
                have HV := Lib.hid hv
                cases v
                · go_wp2_with fail
                  refine (sline_t _ _ HX.out H1.out).mono ?_
                  rintro e w' ⟨rfl, rfl⟩
                  go_wp2
                  go_roundw
                  case rel => exact ⟨k + 1, by omega, by go_num, by rw [all_more lineN HP.out, HA.out]; unfold lineN; rw [H1.out, HV.out]; rfl, BX.out, HB.out⟩
                  case measure => simp [intOf]; omega
                · go_wp2_with fail
                  refine (sline_t _ _ HX.out H1.out).mono ?_
                  rintro e w' ⟨rfl, rfl⟩
                  go_wp2
                  go_ret
                  refine ⟨ret_bool ?_, HB.out⟩
                  unfold msgB bodyB
                  rw [all_no lineN HP.out (by unfold lineN; rw [HV.out, Bool.and_comm]; rfl), Bool.and_false, Bool.and_false]
              · have H1 : Hid (lineB s.data.toList = false) := Lib.hid (by simpa using h1)
                clear h1
                go_wp2_with fail
                refine (sline_f _ _ HX.out H1.out).mono ?_
                rintro e w' ⟨rfl, rfl⟩
                go_wp2
                go_ret
                refine ⟨ret_bool ?_, HB.out⟩
                unfold msgB bodyB
                rw [all_no lineN HP.out (by unfold lineN; rw [H1.out]; rfl), Bool.and_false, Bool.and_false]
            · have hA : b5.all lineN = true := by
                have := HA.out
                rw [take_all HN5.out hlt] at this
                exact this
              have HAA := Lib.hid hA
              clear hA
              obtain ⟨v, hv⟩ : ∃ v, headsB h4 = v := ⟨_, rfl⟩
              have HV := Lib.hid hv
              have hcv : ∀ W : World, Below w.heap.size w W → Calls Try.prog 42 #[.slice A4 n4 c4] W fun e w' => e = .returned (.bool v) ∧ W = w' := by
                intro W hb
                have := shv_any A4 n4 c4 h4 W HN4.out HC4.out ((HR4.out.below hb (Nat.le_refl _)).more hb.size) HM4.out
                rw [hv] at this; exact this
              have HCV := Lib.hid (hcv _ HB.out)
              clear hv hcv
              cases v
              · go_wp2_with fail
                refine HCV.out.mono ?_
                rintro e w' ⟨rfl, rfl⟩
                go_wp2
                go_ret
                refine ⟨ret_bool ?_, HB.out⟩
                unfold msgB
                show _ = (_ && headsB h4 && _)
                rw [HV.out, Bool.and_false, Bool.false_and]
              · have h8 : decide ((n5 : Int) ≤ 8) = decide (b5.length ≤ 8) := by
                  rw [← HN5.out]
                  exact decide_eq_decide.mpr ⟨fun h => by omega, fun h => by omega⟩
                have H8 := Lib.hid h8
                clear h8
                go_wp2_with fail
                refine HCV.out.mono ?_
                rintro e w' ⟨rfl, rfl⟩
                go_wp2
                go_ret
                refine ⟨ret_bool ?_, HB.out⟩
                unfold msgB bodyB
                show _ = (_ && headsB h4 && (decide (b5.length ≤ 8) && b5.all lineN))
                rw [HRA.out, HV.out, HAA.out, ← H8.out]
                simp

        · have H2 : Hid ((wordB x1.data.toList && wordB x2.data.toList) = false) := Lib.hid (by simpa using h2)
          clear h2
          go_enter Try.func26, Try.ntmps26
          go_wp2_with fail
          refine (sword_t _ _ M0.out H0.out).mono ?_
          rintro e w' ⟨rfl, rfl⟩
          go_wp2_with fail
          refine (sav_any _ _ _ M1.out M2.out).mono ?_
          rintro e w1 ⟨rfl, hb1⟩
          have BX1 := Lib.hid (BX0.out.call hb1)
          have HB1 := Lib.hid (btrans HB0.out hb1)
          have c0q := BX1.out.cell 0 _ rfl
          have c2q := BX1.out.cell 3 _ rfl
          clear hb1
          rw [H2.out]
          go_wp2
          have HRA : Hid ((reqB ⟨x0, x1, x2, x3, h4, b5⟩ || ansB ⟨x0, x1, x2, x3, h4, b5⟩) = false) := Lib.hid (by unfold reqB ansB; rw [E0.out, H2.out]; simp)
          go_loopw [5] (fun i wr => ∃ k : Nat, k ≤ n5 ∧ i = .int .i64 k ∧ (b5.take k).all lineN = true ∧ Holds wr w.heap.size 29 #[.string x0, .string x1, .string x2, .int .i64 x3, .slice A4 n4 c4, .slice A5 n5 c5] ∧ Below w.heap.size w wr) (fun i _ => n5 - (intOf i).toNat)
          case atStart => exact ⟨0, Nat.zero_le _, rfl, rfl, BX1.out, HB1.out⟩
          case round =>
            obtain ⟨k, hk, rfl, hall, hbx, hbel⟩ := hrel
            have HA := Lib.hid hall
            have BX := Lib.hid hbx
            have HB := Lib.hid hbel
            have d4 := hbx.cell 4 _ rfl
            have d5 := hbx.cell 5 _ rfl
            clear hall hbx hbel
            by_cases hlt : k < n5
            · obtain ⟨b, off, rfl, hb, hcell⟩ := (HR5.out.below HB.out (Nat.le_refl _)).2 (by omega)
              obtain ⟨s, hp⟩ := get_of HN5.out hlt
              have HP := Lib.hid hp
              have HX := Lib.hid (HM5.out s (List.mem_of_getElem? hp))
              have c0 := str_cell hcell hp
              clear hcell hb hp
              by_cases h1 : lineB s.data.toList = true
              · have H1 := Lib.hid h1
                clear h1
                obtain ⟨v, hv⟩ : ∃ v, (s.toList == []) = v := ⟨_, rfl⟩
                have HV := Lib.hid hv
                cases v
                · go_wp2_with fail
                  refine (sline_t _ _ HX.out H1.out).mono ?_
                  rintro e w' ⟨rfl, rfl⟩
                  go_wp2
                  go_roundw
                  case rel => exact ⟨k + 1, by omega, by go_num, by rw [all_more lineN HP.out, HA.out]; unfold lineN; rw [H1.out, HV.out]; rfl, BX.out, HB.out⟩
                  case measure => simp [intOf]; omega
                · go_wp2_with fail
                  refine (sline_t _ _ HX.out H1.out).mono ?_
                  rintro e w' ⟨rfl, rfl⟩
                  go_wp2
                  go_ret
                  refine ⟨ret_bool ?_, HB.out⟩
                  unfold msgB bodyB
                  rw [all_no lineN HP.out (by unfold lineN; rw [HV.out, Bool.and_comm]; rfl), Bool.and_false, Bool.and_false]
              · have H1 : Hid (lineB s.data.toList = false) := Lib.hid (by simpa using h1)
                clear h1
                go_wp2_with fail
                refine (sline_f _ _ HX.out H1.out).mono ?_
                rintro e w' ⟨rfl, rfl⟩
                go_wp2
                go_ret
                refine ⟨ret_bool ?_, HB.out⟩
                unfold msgB bodyB
                rw [all_no lineN HP.out (by unfold lineN; rw [H1.out]; rfl), Bool.and_false, Bool.and_false]
            · have hA : b5.all lineN = true := by
                have := HA.out
                rw [take_all HN5.out hlt] at this
                exact this
              have HAA := Lib.hid hA
              clear hA
              go_wp2
              go_ret
              refine ⟨ret_bool ?_, HB.out⟩
              unfold msgB
              rw [HRA.out, Bool.false_and, Bool.false_and]

      · have h3b : (x3 == 0) = false := by rw [beq_eq_false_iff_ne]; exact h3
        have H3 := Lib.hid h3
        clear h3
        go_enter Try.func26, Try.ntmps26
        go_wp2_with fail
        refine (sword_t _ _ M0.out H0.out).mono ?_
        rintro e w' ⟨rfl, rfl⟩
        go_wp2
        have HRA : Hid ((reqB ⟨x0, x1, x2, x3, h4, b5⟩ || ansB ⟨x0, x1, x2, x3, h4, b5⟩) = false) := Lib.hid (by unfold reqB ansB; rw [E0.out, decide_eq_false H3.out]; simp)
        go_loopw [5] (fun i wr => ∃ k : Nat, k ≤ n5 ∧ i = .int .i64 k ∧ (b5.take k).all lineN = true ∧ Holds wr w.heap.size 29 #[.string x0, .string x1, .string x2, .int .i64 x3, .slice A4 n4 c4, .slice A5 n5 c5] ∧ Below w.heap.size w wr) (fun i _ => n5 - (intOf i).toNat)
        case atStart => exact ⟨0, Nat.zero_le _, rfl, rfl, BX0.out, HB0.out⟩
        case round =>
          obtain ⟨k, hk, rfl, hall, hbx, hbel⟩ := hrel
          have HA := Lib.hid hall
          have BX := Lib.hid hbx
          have HB := Lib.hid hbel
          have d4 := hbx.cell 4 _ rfl
          have d5 := hbx.cell 5 _ rfl
          clear hall hbx hbel
          by_cases hlt : k < n5
          · obtain ⟨b, off, rfl, hb, hcell⟩ := (HR5.out.below HB.out (Nat.le_refl _)).2 (by omega)
            obtain ⟨s, hp⟩ := get_of HN5.out hlt
            have HP := Lib.hid hp
            have HX := Lib.hid (HM5.out s (List.mem_of_getElem? hp))
            have c0 := str_cell hcell hp
            clear hcell hb hp
            by_cases h1 : lineB s.data.toList = true
            · have H1 := Lib.hid h1
              clear h1
              obtain ⟨v, hv⟩ : ∃ v, (s.toList == []) = v := ⟨_, rfl⟩
              have HV := Lib.hid hv
              cases v
              · go_wp2_with fail
                refine (sline_t _ _ HX.out H1.out).mono ?_
                rintro e w' ⟨rfl, rfl⟩
                go_wp2
                go_roundw
                case rel => exact ⟨k + 1, by omega, by go_num, by rw [all_more lineN HP.out, HA.out]; unfold lineN; rw [H1.out, HV.out]; rfl, BX.out, HB.out⟩
                case measure => simp [intOf]; omega
              · go_wp2_with fail
                refine (sline_t _ _ HX.out H1.out).mono ?_
                rintro e w' ⟨rfl, rfl⟩
                go_wp2
                go_ret
                refine ⟨ret_bool ?_, HB.out⟩
                unfold msgB bodyB
                rw [all_no lineN HP.out (by unfold lineN; rw [HV.out, Bool.and_comm]; rfl), Bool.and_false, Bool.and_false]
            · have H1 : Hid (lineB s.data.toList = false) := Lib.hid (by simpa using h1)
              clear h1
              go_wp2_with fail
              refine (sline_f _ _ HX.out H1.out).mono ?_
              rintro e w' ⟨rfl, rfl⟩
              go_wp2
              go_ret
              refine ⟨ret_bool ?_, HB.out⟩
              unfold msgB bodyB
              rw [all_no lineN HP.out (by unfold lineN; rw [H1.out]; rfl), Bool.and_false, Bool.and_false]
          · have hA : b5.all lineN = true := by
              have := HA.out
              rw [take_all HN5.out hlt] at this
              exact this
            have HAA := Lib.hid hA
            clear hA
            go_wp2
            go_ret
            refine ⟨ret_bool ?_, HB.out⟩
            unfold msgB
            rw [HRA.out, Bool.false_and, Bool.false_and]

  · have h0 : wordB x0.data.toList = false := by simpa using h0
    have H0 := Lib.hid h0
    clear h0
    by_cases e0 : (x0.toList == []) = true
    · have E0 := Lib.hid e0
      by_cases h4i : 100 ≤ x3 ∧ x3 ≤ 699
      · have H4 := Lib.hid h4i
        have h4b : (decide (100 ≤ x3) && decide (x3 ≤ 699)) = true := by rw [decide_eq_true h4i.1, decide_eq_true h4i.2]; rfl
        have H4b := Lib.hid h4b
        clear h4i h4b
        by_cases h5 : (x1.toList == []) = true
        · by_cases h6 : (x2.toList == []) = true
          · have H5 := Lib.hid h5
            have H6 := Lib.hid h6
            go_enter Try.func26, Try.ntmps26
            go_wp2_with fail
            refine (sword_f _ _ M0.out H0.out).mono ?_
            rintro e w' ⟨rfl, rfl⟩
            go_wp2_with fail
            refine (in_any _ _ _ _).mono ?_
            rintro e w' ⟨rfl, rfl⟩
            rw [H4b.out]
            go_wp2
            have HRA : Hid ((reqB ⟨x0, x1, x2, x3, h4, b5⟩ || ansB ⟨x0, x1, x2, x3, h4, b5⟩) = true) := Lib.hid (by unfold reqB ansB; rw [H0.out, E0.out, H4b.out, H5.out, H6.out]; rfl)
            go_loopw [5] (fun i wr => ∃ k : Nat, k ≤ n5 ∧ i = .int .i64 k ∧ (b5.take k).all lineN = true ∧ Holds wr w.heap.size 29 #[.string x0, .string x1, .string x2, .int .i64 x3, .slice A4 n4 c4, .slice A5 n5 c5] ∧ Below w.heap.size w wr) (fun i _ => n5 - (intOf i).toNat)
            case atStart => exact ⟨0, Nat.zero_le _, rfl, rfl, BX0.out, HB0.out⟩
            case round =>
              obtain ⟨k, hk, rfl, hall, hbx, hbel⟩ := hrel
              have HA := Lib.hid hall
              have BX := Lib.hid hbx
              have HB := Lib.hid hbel
              have d4 := hbx.cell 4 _ rfl
              have d5 := hbx.cell 5 _ rfl
              clear hall hbx hbel
              by_cases hlt : k < n5
              · obtain ⟨b, off, rfl, hb, hcell⟩ := (HR5.out.below HB.out (Nat.le_refl _)).2 (by omega)
                obtain ⟨s, hp⟩ := get_of HN5.out hlt
                have HP := Lib.hid hp
                have HX := Lib.hid (HM5.out s (List.mem_of_getElem? hp))
                have c0 := str_cell hcell hp
                clear hcell hb hp
                by_cases h1 : lineB s.data.toList = true
                · have H1 := Lib.hid h1
                  clear h1
                  obtain ⟨v, hv⟩ : ∃ v, (s.toList == []) = v := ⟨_, rfl⟩
                  have HV := Lib.hid hv
                  cases v
                  · go_wp2_with fail
                    refine (sline_t _ _ HX.out H1.out).mono ?_
                    rintro e w' ⟨rfl, rfl⟩
                    go_wp2
                    go_roundw
                    case rel => exact ⟨k + 1, by omega, by go_num, by rw [all_more lineN HP.out, HA.out]; unfold lineN; rw [H1.out, HV.out]; rfl, BX.out, HB.out⟩
                    case measure => simp [intOf]; omega
                  · go_wp2_with fail
                    refine (sline_t _ _ HX.out H1.out).mono ?_
                    rintro e w' ⟨rfl, rfl⟩
                    go_wp2
                    go_ret
                    refine ⟨ret_bool ?_, HB.out⟩
                    unfold msgB bodyB
                    rw [all_no lineN HP.out (by unfold lineN; rw [HV.out, Bool.and_comm]; rfl), Bool.and_false, Bool.and_false]
                · have H1 : Hid (lineB s.data.toList = false) := Lib.hid (by simpa using h1)
                  clear h1
                  go_wp2_with fail
                  refine (sline_f _ _ HX.out H1.out).mono ?_
                  rintro e w' ⟨rfl, rfl⟩
                  go_wp2
                  go_ret
                  refine ⟨ret_bool ?_, HB.out⟩
                  unfold msgB bodyB
                  rw [all_no lineN HP.out (by unfold lineN; rw [H1.out]; rfl), Bool.and_false, Bool.and_false]
              · have hA : b5.all lineN = true := by
                  have := HA.out
                  rw [take_all HN5.out hlt] at this
                  exact this
                have HAA := Lib.hid hA
                clear hA
                obtain ⟨v, hv⟩ : ∃ v, headsB h4 = v := ⟨_, rfl⟩
                have HV := Lib.hid hv
                have hcv : ∀ W : World, Below w.heap.size w W → Calls Try.prog 42 #[.slice A4 n4 c4] W fun e w' => e = .returned (.bool v) ∧ W = w' := by
                  intro W hb
                  have := shv_any A4 n4 c4 h4 W HN4.out HC4.out ((HR4.out.below hb (Nat.le_refl _)).more hb.size) HM4.out
                  rw [hv] at this; exact this
                have HCV := Lib.hid (hcv _ HB.out)
                clear hv hcv
                cases v
                · go_wp2_with fail
                  refine HCV.out.mono ?_
                  rintro e w' ⟨rfl, rfl⟩
                  go_wp2
                  go_ret
                  refine ⟨ret_bool ?_, HB.out⟩
                  unfold msgB
                  show _ = (_ && headsB h4 && _)
                  rw [HV.out, Bool.and_false, Bool.false_and]
                · have h8 : decide ((n5 : Int) ≤ 8) = decide (b5.length ≤ 8) := by
                    rw [← HN5.out]
                    exact decide_eq_decide.mpr ⟨fun h => by omega, fun h => by omega⟩
                  have H8 := Lib.hid h8
                  clear h8
                  go_wp2_with fail
                  refine HCV.out.mono ?_
                  rintro e w' ⟨rfl, rfl⟩
                  go_wp2
                  go_ret
                  refine ⟨ret_bool ?_, HB.out⟩
                  unfold msgB bodyB
                  show _ = (_ && headsB h4 && (decide (b5.length ≤ 8) && b5.all lineN))
                  rw [HRA.out, HV.out, HAA.out, ← H8.out]
                  simp

          · have h6 : (x2.toList == []) = false := by simpa using h6
            have H5 := Lib.hid h5
            have H6 := Lib.hid h6
            go_enter Try.func26, Try.ntmps26
            go_wp2_with fail
            refine (sword_f _ _ M0.out H0.out).mono ?_
            rintro e w' ⟨rfl, rfl⟩
            go_wp2_with fail
            refine (in_any _ _ _ _).mono ?_
            rintro e w' ⟨rfl, rfl⟩
            rw [H4b.out]
            go_wp2
            have HRA : Hid ((reqB ⟨x0, x1, x2, x3, h4, b5⟩ || ansB ⟨x0, x1, x2, x3, h4, b5⟩) = false) := Lib.hid (by unfold reqB ansB; rw [H0.out, H6.out]; simp)
            go_loopw [5] (fun i wr => ∃ k : Nat, k ≤ n5 ∧ i = .int .i64 k ∧ (b5.take k).all lineN = true ∧ Holds wr w.heap.size 29 #[.string x0, .string x1, .string x2, .int .i64 x3, .slice A4 n4 c4, .slice A5 n5 c5] ∧ Below w.heap.size w wr) (fun i _ => n5 - (intOf i).toNat)
            case atStart => exact ⟨0, Nat.zero_le _, rfl, rfl, BX0.out, HB0.out⟩
            case round =>
              obtain ⟨k, hk, rfl, hall, hbx, hbel⟩ := hrel
              have HA := Lib.hid hall
              have BX := Lib.hid hbx
              have HB := Lib.hid hbel
              have d4 := hbx.cell 4 _ rfl
              have d5 := hbx.cell 5 _ rfl
              clear hall hbx hbel
              by_cases hlt : k < n5
              · obtain ⟨b, off, rfl, hb, hcell⟩ := (HR5.out.below HB.out (Nat.le_refl _)).2 (by omega)
                obtain ⟨s, hp⟩ := get_of HN5.out hlt
                have HP := Lib.hid hp
                have HX := Lib.hid (HM5.out s (List.mem_of_getElem? hp))
                have c0 := str_cell hcell hp
                clear hcell hb hp
                by_cases h1 : lineB s.data.toList = true
                · have H1 := Lib.hid h1
                  clear h1
                  obtain ⟨v, hv⟩ : ∃ v, (s.toList == []) = v := ⟨_, rfl⟩
                  have HV := Lib.hid hv
                  cases v
                  · go_wp2_with fail
                    refine (sline_t _ _ HX.out H1.out).mono ?_
                    rintro e w' ⟨rfl, rfl⟩
                    go_wp2
                    go_roundw
                    case rel => exact ⟨k + 1, by omega, by go_num, by rw [all_more lineN HP.out, HA.out]; unfold lineN; rw [H1.out, HV.out]; rfl, BX.out, HB.out⟩
                    case measure => simp [intOf]; omega
                  · go_wp2_with fail
                    refine (sline_t _ _ HX.out H1.out).mono ?_
                    rintro e w' ⟨rfl, rfl⟩
                    go_wp2
                    go_ret
                    refine ⟨ret_bool ?_, HB.out⟩
                    unfold msgB bodyB
                    rw [all_no lineN HP.out (by unfold lineN; rw [HV.out, Bool.and_comm]; rfl), Bool.and_false, Bool.and_false]
                · have H1 : Hid (lineB s.data.toList = false) := Lib.hid (by simpa using h1)
                  clear h1
                  go_wp2_with fail
                  refine (sline_f _ _ HX.out H1.out).mono ?_
                  rintro e w' ⟨rfl, rfl⟩
                  go_wp2
                  go_ret
                  refine ⟨ret_bool ?_, HB.out⟩
                  unfold msgB bodyB
                  rw [all_no lineN HP.out (by unfold lineN; rw [H1.out]; rfl), Bool.and_false, Bool.and_false]
              · have hA : b5.all lineN = true := by
                  have := HA.out
                  rw [take_all HN5.out hlt] at this
                  exact this
                have HAA := Lib.hid hA
                clear hA
                go_wp2
                go_ret
                refine ⟨ret_bool ?_, HB.out⟩
                unfold msgB
                rw [HRA.out, Bool.false_and, Bool.false_and]

        · have h5 : (x1.toList == []) = false := by simpa using h5
          have H5 := Lib.hid h5
          go_enter Try.func26, Try.ntmps26
          go_wp2_with fail
          refine (sword_f _ _ M0.out H0.out).mono ?_
          rintro e w' ⟨rfl, rfl⟩
          go_wp2_with fail
          refine (in_any _ _ _ _).mono ?_
          rintro e w' ⟨rfl, rfl⟩
          rw [H4b.out]
          go_wp2
          have HRA : Hid ((reqB ⟨x0, x1, x2, x3, h4, b5⟩ || ansB ⟨x0, x1, x2, x3, h4, b5⟩) = false) := Lib.hid (by unfold reqB ansB; rw [H0.out, H5.out]; simp)
          go_loopw [5] (fun i wr => ∃ k : Nat, k ≤ n5 ∧ i = .int .i64 k ∧ (b5.take k).all lineN = true ∧ Holds wr w.heap.size 29 #[.string x0, .string x1, .string x2, .int .i64 x3, .slice A4 n4 c4, .slice A5 n5 c5] ∧ Below w.heap.size w wr) (fun i _ => n5 - (intOf i).toNat)
          case atStart => exact ⟨0, Nat.zero_le _, rfl, rfl, BX0.out, HB0.out⟩
          case round =>
            obtain ⟨k, hk, rfl, hall, hbx, hbel⟩ := hrel
            have HA := Lib.hid hall
            have BX := Lib.hid hbx
            have HB := Lib.hid hbel
            have d4 := hbx.cell 4 _ rfl
            have d5 := hbx.cell 5 _ rfl
            clear hall hbx hbel
            by_cases hlt : k < n5
            · obtain ⟨b, off, rfl, hb, hcell⟩ := (HR5.out.below HB.out (Nat.le_refl _)).2 (by omega)
              obtain ⟨s, hp⟩ := get_of HN5.out hlt
              have HP := Lib.hid hp
              have HX := Lib.hid (HM5.out s (List.mem_of_getElem? hp))
              have c0 := str_cell hcell hp
              clear hcell hb hp
              by_cases h1 : lineB s.data.toList = true
              · have H1 := Lib.hid h1
                clear h1
                obtain ⟨v, hv⟩ : ∃ v, (s.toList == []) = v := ⟨_, rfl⟩
                have HV := Lib.hid hv
                cases v
                · go_wp2_with fail
                  refine (sline_t _ _ HX.out H1.out).mono ?_
                  rintro e w' ⟨rfl, rfl⟩
                  go_wp2
                  go_roundw
                  case rel => exact ⟨k + 1, by omega, by go_num, by rw [all_more lineN HP.out, HA.out]; unfold lineN; rw [H1.out, HV.out]; rfl, BX.out, HB.out⟩
                  case measure => simp [intOf]; omega
                · go_wp2_with fail
                  refine (sline_t _ _ HX.out H1.out).mono ?_
                  rintro e w' ⟨rfl, rfl⟩
                  go_wp2
                  go_ret
                  refine ⟨ret_bool ?_, HB.out⟩
                  unfold msgB bodyB
                  rw [all_no lineN HP.out (by unfold lineN; rw [HV.out, Bool.and_comm]; rfl), Bool.and_false, Bool.and_false]
              · have H1 : Hid (lineB s.data.toList = false) := Lib.hid (by simpa using h1)
                clear h1
                go_wp2_with fail
                refine (sline_f _ _ HX.out H1.out).mono ?_
                rintro e w' ⟨rfl, rfl⟩
                go_wp2
                go_ret
                refine ⟨ret_bool ?_, HB.out⟩
                unfold msgB bodyB
                rw [all_no lineN HP.out (by unfold lineN; rw [H1.out]; rfl), Bool.and_false, Bool.and_false]
            · have hA : b5.all lineN = true := by
                have := HA.out
                rw [take_all HN5.out hlt] at this
                exact this
              have HAA := Lib.hid hA
              clear hA
              go_wp2
              go_ret
              refine ⟨ret_bool ?_, HB.out⟩
              unfold msgB
              rw [HRA.out, Bool.false_and, Bool.false_and]

      · have H4b : Hid ((decide (100 ≤ x3) && decide (x3 ≤ 699)) = false) := Lib.hid (by
          rw [Bool.and_eq_false_iff]
          by_cases hq : 100 ≤ x3
          · exact .inr (decide_eq_false (fun h => h4i ⟨hq, h⟩))
          · exact .inl (decide_eq_false hq))
        clear h4i
        go_enter Try.func26, Try.ntmps26
        go_wp2_with fail
        refine (sword_f _ _ M0.out H0.out).mono ?_
        rintro e w' ⟨rfl, rfl⟩
        go_wp2_with fail
        refine (in_any _ _ _ _).mono ?_
        rintro e w' ⟨rfl, rfl⟩
        rw [H4b.out]
        go_wp2
        have HRA : Hid ((reqB ⟨x0, x1, x2, x3, h4, b5⟩ || ansB ⟨x0, x1, x2, x3, h4, b5⟩) = false) := Lib.hid (by unfold reqB ansB; rw [H0.out, H4b.out]; simp)
        go_loopw [5] (fun i wr => ∃ k : Nat, k ≤ n5 ∧ i = .int .i64 k ∧ (b5.take k).all lineN = true ∧ Holds wr w.heap.size 29 #[.string x0, .string x1, .string x2, .int .i64 x3, .slice A4 n4 c4, .slice A5 n5 c5] ∧ Below w.heap.size w wr) (fun i _ => n5 - (intOf i).toNat)
        case atStart => exact ⟨0, Nat.zero_le _, rfl, rfl, BX0.out, HB0.out⟩
        case round =>
          obtain ⟨k, hk, rfl, hall, hbx, hbel⟩ := hrel
          have HA := Lib.hid hall
          have BX := Lib.hid hbx
          have HB := Lib.hid hbel
          have d4 := hbx.cell 4 _ rfl
          have d5 := hbx.cell 5 _ rfl
          clear hall hbx hbel
          by_cases hlt : k < n5
          · obtain ⟨b, off, rfl, hb, hcell⟩ := (HR5.out.below HB.out (Nat.le_refl _)).2 (by omega)
            obtain ⟨s, hp⟩ := get_of HN5.out hlt
            have HP := Lib.hid hp
            have HX := Lib.hid (HM5.out s (List.mem_of_getElem? hp))
            have c0 := str_cell hcell hp
            clear hcell hb hp
            by_cases h1 : lineB s.data.toList = true
            · have H1 := Lib.hid h1
              clear h1
              obtain ⟨v, hv⟩ : ∃ v, (s.toList == []) = v := ⟨_, rfl⟩
              have HV := Lib.hid hv
              cases v
              · go_wp2_with fail
                refine (sline_t _ _ HX.out H1.out).mono ?_
                rintro e w' ⟨rfl, rfl⟩
                go_wp2
                go_roundw
                case rel => exact ⟨k + 1, by omega, by go_num, by rw [all_more lineN HP.out, HA.out]; unfold lineN; rw [H1.out, HV.out]; rfl, BX.out, HB.out⟩
                case measure => simp [intOf]; omega
              · go_wp2_with fail
                refine (sline_t _ _ HX.out H1.out).mono ?_
                rintro e w' ⟨rfl, rfl⟩
                go_wp2
                go_ret
                refine ⟨ret_bool ?_, HB.out⟩
                unfold msgB bodyB
                rw [all_no lineN HP.out (by unfold lineN; rw [HV.out, Bool.and_comm]; rfl), Bool.and_false, Bool.and_false]
            · have H1 : Hid (lineB s.data.toList = false) := Lib.hid (by simpa using h1)
              clear h1
              go_wp2_with fail
              refine (sline_f _ _ HX.out H1.out).mono ?_
              rintro e w' ⟨rfl, rfl⟩
              go_wp2
              go_ret
              refine ⟨ret_bool ?_, HB.out⟩
              unfold msgB bodyB
              rw [all_no lineN HP.out (by unfold lineN; rw [H1.out]; rfl), Bool.and_false, Bool.and_false]
          · have hA : b5.all lineN = true := by
              have := HA.out
              rw [take_all HN5.out hlt] at this
              exact this
            have HAA := Lib.hid hA
            clear hA
            go_wp2
            go_ret
            refine ⟨ret_bool ?_, HB.out⟩
            unfold msgB
            rw [HRA.out, Bool.false_and, Bool.false_and]

    · have e0 : (x0.toList == []) = false := by simpa using e0
      have E0 := Lib.hid e0
      go_enter Try.func26, Try.ntmps26
      go_wp2_with fail
      refine (sword_f _ _ M0.out H0.out).mono ?_
      rintro e w' ⟨rfl, rfl⟩
      go_wp2
      have HRA : Hid ((reqB ⟨x0, x1, x2, x3, h4, b5⟩ || ansB ⟨x0, x1, x2, x3, h4, b5⟩) = false) := Lib.hid (by unfold reqB ansB; rw [H0.out, E0.out]; simp)
      go_loopw [5] (fun i wr => ∃ k : Nat, k ≤ n5 ∧ i = .int .i64 k ∧ (b5.take k).all lineN = true ∧ Holds wr w.heap.size 29 #[.string x0, .string x1, .string x2, .int .i64 x3, .slice A4 n4 c4, .slice A5 n5 c5] ∧ Below w.heap.size w wr) (fun i _ => n5 - (intOf i).toNat)
      case atStart => exact ⟨0, Nat.zero_le _, rfl, rfl, BX0.out, HB0.out⟩
      case round =>
        obtain ⟨k, hk, rfl, hall, hbx, hbel⟩ := hrel
        have HA := Lib.hid hall
        have BX := Lib.hid hbx
        have HB := Lib.hid hbel
        have d4 := hbx.cell 4 _ rfl
        have d5 := hbx.cell 5 _ rfl
        clear hall hbx hbel
        by_cases hlt : k < n5
        · obtain ⟨b, off, rfl, hb, hcell⟩ := (HR5.out.below HB.out (Nat.le_refl _)).2 (by omega)
          obtain ⟨s, hp⟩ := get_of HN5.out hlt
          have HP := Lib.hid hp
          have HX := Lib.hid (HM5.out s (List.mem_of_getElem? hp))
          have c0 := str_cell hcell hp
          clear hcell hb hp
          by_cases h1 : lineB s.data.toList = true
          · have H1 := Lib.hid h1
            clear h1
            obtain ⟨v, hv⟩ : ∃ v, (s.toList == []) = v := ⟨_, rfl⟩
            have HV := Lib.hid hv
            cases v
            · go_wp2_with fail
              refine (sline_t _ _ HX.out H1.out).mono ?_
              rintro e w' ⟨rfl, rfl⟩
              go_wp2
              go_roundw
              case rel => exact ⟨k + 1, by omega, by go_num, by rw [all_more lineN HP.out, HA.out]; unfold lineN; rw [H1.out, HV.out]; rfl, BX.out, HB.out⟩
              case measure => simp [intOf]; omega
            · go_wp2_with fail
              refine (sline_t _ _ HX.out H1.out).mono ?_
              rintro e w' ⟨rfl, rfl⟩
              go_wp2
              go_ret
              refine ⟨ret_bool ?_, HB.out⟩
              unfold msgB bodyB
              rw [all_no lineN HP.out (by unfold lineN; rw [HV.out, Bool.and_comm]; rfl), Bool.and_false, Bool.and_false]
          · have H1 : Hid (lineB s.data.toList = false) := Lib.hid (by simpa using h1)
            clear h1
            go_wp2_with fail
            refine (sline_f _ _ HX.out H1.out).mono ?_
            rintro e w' ⟨rfl, rfl⟩
            go_wp2
            go_ret
            refine ⟨ret_bool ?_, HB.out⟩
            unfold msgB bodyB
            rw [all_no lineN HP.out (by unfold lineN; rw [H1.out]; rfl), Bool.and_false, Bool.and_false]
        · have hA : b5.all lineN = true := by
            have := HA.out
            rw [take_all HN5.out hlt] at this
            exact this
          have HAA := Lib.hid hA
          clear hA
          go_wp2
          go_ret
          refine ⟨ret_bool ?_, HB.out⟩
          unfold msgB
          rw [HRA.out, Bool.false_and, Bool.false_and]

end Go.Proofs.Ytplcdadedpbkpaa
