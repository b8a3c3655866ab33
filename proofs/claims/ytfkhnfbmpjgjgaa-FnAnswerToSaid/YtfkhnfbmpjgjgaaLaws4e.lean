/- The walk of the law of answers to messages. -/
import Derived.Test.YtfkhnfbmpjgjgaaLaws4d
namespace Go.Proofs.Ytfkhnfbmpjgjgaa
open Go.RowKit
set_option linter.unusedVariables false
set_option maxRecDepth 20000

set_option maxHeartbeats 4000000 in
theorem walk_FnAnswerTo (a0 : Option Addr) (len0 cap0 : Nat) (z0 : List Int) (w : World) (w0 : IsBytes w a0 len0 cap0 z0) :
    Calls Try.prog 6 #[.slice a0 len0 cap0] w fun e w' => e = .returned (.bool true) ∧ Below w.heap.size w w' := by
  obtain ⟨hlc, hcm, hb⟩ := bytes_of w0
  have HB := Lib.hid hb
  have hcm' := hcm
  unfold maxLen at hcm'
  clear w0 hb
  by_cases hbig : (1048576 : Int) < len0
  · go_enter Try.func6, Try.ntmps6
    go_wp2
    go_ret
    exact ⟨rfl, Below.refl _ _⟩
  go_enter Try.func6, Try.ntmps6
  go_wp2_with fail
  refine (drawAt_any _ _ _ _ hlc hcm HB.out).mono ?_
  rintro e w1 ⟨x0, x1, x2, x3, A4, n4, c4, h4, A5, n5, c5, b5, cd, rfl, hcd, hx, hx3, hn4, hn49, hsm4, hn5, hn55, hsm5, hown4, hown5, hb1⟩
  subst hn4
  subst hn5
  have M0 : Hid (x0.size ≤ maxLen) := Lib.hid (by unfold maxLen; omega)
  have M1 : Hid (x1.size ≤ maxLen) := Lib.hid (by unfold maxLen; omega)
  have M2 : Hid (x2.size ≤ maxLen) := Lib.hid (by unfold maxLen; omega)
  have HM4 := Lib.hid (heads_4000 hsm4)
  have HM5 : Hid (∀ s ∈ b5, s.size ≤ maxLen) := Lib.hid (fun s hs => by have := hsm5 s hs; unfold maxLen; omega)
  have HC4 : Hid (h4.length ≤ maxLen) := Lib.hid (by unfold maxLen; omega)
  have HC5 : Hid (b5.length ≤ maxLen) := Lib.hid (by unfold maxLen; omega)
  have BV := Lib.hid (Holds.new w1 28 #[.string x0, .string x1, .string x2, .int .i64 x3, .slice A4 h4.length c4, .slice A5 b5.length c5])
  have HBV := Lib.hid (balloc hb1 (.cells #[.string x0, .string x1, .string x2, .int .i64 x3, .slice A4 h4.length c4, .slice A5 b5.length c5] 28))
  have HO4 := Lib.hid (sees_alloc hown4 (.cells #[.string x0, .string x1, .string x2, .int .i64 x3, .slice A4 h4.length c4, .slice A5 b5.length c5] 28))
  have HO5 := Lib.hid (sees_alloc hown5 (.cells #[.string x0, .string x1, .string x2, .int .i64 x3, .slice A4 h4.length c4, .slice A5 b5.length c5] 28))
  clear hx hx3 hsm4 hsm5 hown4 hown5 hb1
  obtain ⟨r, hr⟩ : ∃ r, ansR ⟨x0, x1, x2, x3, h4, b5⟩ cd = r := ⟨_, rfl⟩
  obtain ⟨v, hv⟩ : ∃ v, ansOk ⟨x0, x1, x2, x3, h4, b5⟩ cd = v := ⟨_, rfl⟩
  have HR := Lib.hid hr
  have HV := Lib.hid hv
  clear hr hv
  go_wp2_with fail
  refine (ians_any x0 x1 x2 x3 A4 h4.length c4 h4 A5 b5.length c5 b5 cd _ M0.out M1.out M2.out rfl HC4.out HM4.out rfl HC5.out HM5.out HO4.out HO5.out).mono ?_
  rw [HR.out, HV.out]
  rintro e w2 ⟨Ax4, cx4, Ax5, cx5, rfl, hownx4, hownx5, _, hb2⟩
  have hfew : r.h.length ≤ maxLen ∧ r.b.length ≤ maxLen := by
    rw [← HR.out]
    unfold ansR
    split
    · refine ⟨Nat.le_trans (List.length_filter_le _ _) HC4.out, Nat.zero_le _⟩
    · exact ⟨Nat.zero_le _, Nat.zero_le _⟩
  obtain ⟨hf4, hf5⟩ := hfew
  have HBV := Lib.hid (balloc (btrans HBV.out hb2) (.cells #[.string r.x0, .string r.x1, .string r.x2, .int .i64 r.x3, .slice Ax4 r.h.length cx4, .slice Ax5 r.b.length cx5] 28))
  have BV := Lib.hid ((BV.out.call hb2).alloc (.cells #[.string r.x0, .string r.x1, .string r.x2, .int .i64 r.x3, .slice Ax4 r.h.length cx4, .slice Ax5 r.b.length cx5] 28))
  have HO4 := Lib.hid (sees_alloc (sees_call HO4.out hb2) (.cells #[.string r.x0, .string r.x1, .string r.x2, .int .i64 r.x3, .slice Ax4 r.h.length cx4, .slice Ax5 r.b.length cx5] 28))
  have HO5 := Lib.hid (sees_alloc (sees_call HO5.out hb2) (.cells #[.string r.x0, .string r.x1, .string r.x2, .int .i64 r.x3, .slice Ax4 r.h.length cx4, .slice Ax5 r.b.length cx5] 28))
  have HX4 := Lib.hid (hownx4.alloc (.cells #[.string r.x0, .string r.x1, .string r.x2, .int .i64 r.x3, .slice Ax4 r.h.length cx4, .slice Ax5 r.b.length cx5] 28))
  have HX5 := Lib.hid (hownx5.alloc (.cells #[.string r.x0, .string r.x1, .string r.x2, .int .i64 r.x3, .slice Ax4 r.h.length cx4, .slice Ax5 r.b.length cx5] 28))
  have BX := Lib.hid (Holds.new w2 28 #[.string r.x0, .string r.x1, .string r.x2, .int .i64 r.x3, .slice Ax4 r.h.length cx4, .slice Ax5 r.b.length cx5])
  clear hb2 hownx4 hownx5
  obtain ⟨q0, q1, q2, q3, q4, q5⟩ := six_cells BV.out
  go_wp2_with fail
  refine (sans_any x0 x1 x2 x3 A4 h4.length c4 h4 A5 b5.length c5 b5 cd _ M0.out M1.out M2.out rfl HC4.out HM4.out rfl HC5.out HM5.out HO4.out HO5.out).mono ?_
  rw [HR.out, HV.out]
  rintro e w3 ⟨Ay4, cy4, Ay5, cy5, rfl, howny4, howny5, _, hb3⟩
  clear q0 q1 q2 q3 q4 q5
  have HBV := Lib.hid (balloc (btrans HBV.out hb3) (.cells #[.string r.x0, .string r.x1, .string r.x2, .int .i64 r.x3, .slice Ay4 r.h.length cy4, .slice Ay5 r.b.length cy5] 28))
  have BV := Lib.hid ((BV.out.call hb3).alloc (.cells #[.string r.x0, .string r.x1, .string r.x2, .int .i64 r.x3, .slice Ay4 r.h.length cy4, .slice Ay5 r.b.length cy5] 28))
  have HO4 := Lib.hid (sees_alloc (sees_call HO4.out hb3) (.cells #[.string r.x0, .string r.x1, .string r.x2, .int .i64 r.x3, .slice Ay4 r.h.length cy4, .slice Ay5 r.b.length cy5] 28))
  have HO5 := Lib.hid (sees_alloc (sees_call HO5.out hb3) (.cells #[.string r.x0, .string r.x1, .string r.x2, .int .i64 r.x3, .slice Ay4 r.h.length cy4, .slice Ay5 r.b.length cy5] 28))
  have HX4 := Lib.hid ((own_call HX4.out hb3).alloc (.cells #[.string r.x0, .string r.x1, .string r.x2, .int .i64 r.x3, .slice Ay4 r.h.length cy4, .slice Ay5 r.b.length cy5] 28))
  have HX5 := Lib.hid ((own_call HX5.out hb3).alloc (.cells #[.string r.x0, .string r.x1, .string r.x2, .int .i64 r.x3, .slice Ay4 r.h.length cy4, .slice Ay5 r.b.length cy5] 28))
  have HY4 := Lib.hid (howny4.alloc (.cells #[.string r.x0, .string r.x1, .string r.x2, .int .i64 r.x3, .slice Ay4 r.h.length cy4, .slice Ay5 r.b.length cy5] 28))
  have HY5 := Lib.hid (howny5.alloc (.cells #[.string r.x0, .string r.x1, .string r.x2, .int .i64 r.x3, .slice Ay4 r.h.length cy4, .slice Ay5 r.b.length cy5] 28))
  have BX := Lib.hid ((BX.out.call hb3).alloc (.cells #[.string r.x0, .string r.x1, .string r.x2, .int .i64 r.x3, .slice Ay4 r.h.length cy4, .slice Ay5 r.b.length cy5] 28))
  clear hb3 howny4 howny5
  obtain ⟨q0, q1, q2, q3, q4, q5⟩ := six_cells BX.out
  go_wp2_with fail
  refine (sameMessage_same r.x0 r.x1 r.x2 r.x3 Ax4 r.h.length cx4 r.h Ax5 r.b.length cx5 r.b Ay4 cy4 Ay5 cy5 _ rfl hf4 rfl hf5 (Sees.of_own HX4.out) (Sees.of_own HY4.out) (Sees.of_own HX5.out) (Sees.of_own HY5.out)).mono ?_
  rintro e w4 ⟨rfl, hb4⟩
  have HBV := Lib.hid (btrans HBV.out hb4)
  have BV := Lib.hid (BV.out.call hb4)
  have HO4 := Lib.hid (sees_call HO4.out hb4)
  have HO5 := Lib.hid (sees_call HO5.out hb4)
  have HX4 := Lib.hid (own_call HX4.out hb4)
  have HX5 := Lib.hid (own_call HX5.out hb4)
  have BX := Lib.hid (BX.out.call hb4)
  clear hb4 q0 q1 q2 q3 q4 q5
  obtain ⟨q0, q1, q2, q3, q4, q5⟩ := six_cells BX.out
  cases v
  · have hz : r = zeroM := by rw [← HR.out]; unfold ansR; rw [if_neg (by rw [HV.out]; simp)]
    have HBF := Lib.hid HBV.out
    have HF4 := Lib.hid HX4.out
    have HF5 := Lib.hid HX5.out
    subst hz
    go_wp2_with fail
    refine (sameMessage_same ⟨#[]⟩ ⟨#[]⟩ ⟨#[]⟩ 0 Ax4 0 cx4 [] Ax5 0 cx5 [] none 0 none 0 _ rfl (Nat.zero_le _) rfl (Nat.zero_le _) (Sees.of_own HF4.out) Sees.none_ (Sees.of_own HF5.out) Sees.none_).mono ?_
    rintro e w5 ⟨rfl, hb5⟩
    have HBF := Lib.hid (btrans HBF.out hb5)
    clear hb5 q0 q1 q2 q3 q4 q5
    go_wp2_with fail
    refine (alive_any _).mono ?_
    rintro e w6 ⟨rfl, rfl⟩
    go_wp2
    go_ret
    exact ⟨rfl, HBF.out⟩
  · have hz : r = ansM ⟨x0, x1, x2, x3, h4, b5⟩ cd := by rw [← HR.out]; unfold ansR; rw [if_pos HV.out]
    have HZ := Lib.hid hz
    clear hz
    obtain ⟨p0, p1, p2, p3, p4, p5⟩ := six_cells BV.out
    go_wp2_with fail
    clear p0 p1 p2 p3 p4 p5 q0 q1 q2 q3 q4 q5
    have hr9 : r.h.length ≤ 900000 := by
      rw [HZ.out]
      exact Nat.le_trans (List.length_filter_le _ _) hn49
    go_loopw [9, 10] (fun a b wr => ∃ at' k : Nat, at' ≤ h4.length ∧ k ≤ r.h.length ∧ a = .int .i64 at' ∧ b = .int .i64 k ∧ (h4.drop at').filter viaB = r.h.drop k ∧ Below w4.heap.size w4 wr) (fun _ b _ => r.h.length - (intOf b).toNat)
    case atStart => exact ⟨0, 0, Nat.zero_le _, Nat.zero_le _, rfl, rfl, by rw [HZ.out]; rfl, Below.refl _ _⟩
    case round =>
      obtain ⟨at', k, hat, hk, rfl, rfl, hfil, hbel⟩ := hrel
      have HF := Lib.hid hfil
      have HB5 := Lib.hid hbel
      clear hfil hbel
      have hx4 := (BX.out.call HB5.out).cell 4 _ rfl
      by_cases hlt : k < r.h.length
      · obtain ⟨xk, hxk⟩ := get_of rfl hlt
        have HXK := Lib.hid hxk
        clear hxk
        have g1 : (0 : Int) ≤ (k : Int) := by omega
        have g2 : (k : Int) < (r.h.length : Int) := by omega
        go_wp2
        go_loopw [9] (fun a wr => ∃ at' : Nat, at' ≤ h4.length ∧ a = .int .i64 at' ∧ (h4.drop at').filter viaB = r.h.drop k ∧ Below w4.heap.size w4 wr) (fun a _ => h4.length - (intOf a).toNat)
        case atStart => exact ⟨at', hat, rfl, HF.out, HB5.out⟩
        case round =>
          clear HF hat hx4 HB5
          obtain ⟨at', hat, rfl, hfil, hbel⟩ := hrel
          have HF := Lib.hid hfil
          have HB5 := Lib.hid hbel
          clear hfil hbel
          have hx4 := (BX.out.call HB5.out).cell 4 _ rfl
          have hm4 := (BV.out.call HB5.out).cell 4 _ rfl
          have hlt2 : at' < h4.length := by
            rcases Nat.lt_or_ge at' h4.length with h | h
            · exact h
            · have e := HF.out
              rw [List.drop_of_length_le h] at e
              have := congrArg List.length e
              simp at this
              omega
          obtain ⟨p, hp⟩ := get_of (hs := h4) rfl hlt2
          have HP := Lib.hid hp
          have g3 : (0 : Int) ≤ (at' : Int) := by omega
          have g4 : (at' : Int) < (h4.length : Int) := by omega
          obtain ⟨b, off, rfl, hb, hcell⟩ := (HO4.out.below HB5.out (Nat.le_refl _)).2 (by omega)
          obtain ⟨b2, off2, rfl, hb2, hcell2⟩ := ((Sees.of_own HX4.out).below HB5.out (Nat.le_refl _)).2 (by omega)
          obtain ⟨c0, c1⟩ := head_cells hcell hp
          obtain ⟨d0, d1⟩ := head_cells hcell2 HXK.out
          clear hcell hb hp hcell2 hb2
          have eqt : ∀ a b : ByteArray, (a.toList == b.toList) = true → a = b := fun a b h => by
            have := eq_of_beq h
            rw [ByteArray.toList_eq, ByteArray.toList_eq] at this
            exact str_of this
          have next : ∀ wr' : World, Below w4.heap.size w4 wr' → p ≠ xk → ∃ at2 : Nat, at2 ≤ h4.length ∧ Value.int IntKind.i64 ((at' : Int) + 1) = .int .i64 at2 ∧ (h4.drop at2).filter viaB = r.h.drop k ∧ Below w4.heap.size w4 wr' := by
            intro wr' hb hne
            refine ⟨at' + 1, hlt2, rfl, ?_, hb⟩
            have e := HF.out
            have e1 := (List.getElem?_eq_some_iff.mp HP.out).2
            have e2 := (List.getElem?_eq_some_iff.mp HXK.out).2
            rw [List.drop_eq_getElem_cons hlt2, e1, List.filter_cons, List.drop_eq_getElem_cons hlt, e2] at e
            rw [List.drop_eq_getElem_cons hlt, e2]
            split at e
            · injection e with e3 e4
              exact absurd e3 hne
            · exact e
          by_cases hpx : p = xk
          · subst hpx
            go_wp2
            go_quiet (fail)
            go_wp2
            go_roundw
            case rel =>
              refine ⟨at' + 1, k + 1, hlt2, hlt, rfl, by go_num, ?_, bdrewN HB5.out _⟩
              have e := HF.out
              have e1 := (List.getElem?_eq_some_iff.mp HP.out).2
              have e2 := (List.getElem?_eq_some_iff.mp HXK.out).2
              rw [List.drop_eq_getElem_cons hlt2, e1, List.filter_cons, List.drop_eq_getElem_cons hlt, e2] at e
              split at e
              · injection e
              · rename_i hv
                have hm : p ∈ r.h := List.mem_of_getElem? HXK.out
                rw [HZ.out] at hm
                exact absurd (List.mem_filter.mp hm).2 hv
            case measure => simp [intOf]; omega
          · by_cases e0 : (p.x0.toList == xk.x0.toList) = true
            · have e1 : (p.x1.toList == xk.x1.toList) = false := by
                cases h : (p.x1.toList == xk.x1.toList) with
                | false => rfl
                | true => exact absurd (by show (⟨p.x0, p.x1⟩ : HeadM) = ⟨xk.x0, xk.x1⟩; rw [eqt _ _ e0, eqt _ _ h]) hpx
              go_wp2
              go_quiet (fail)
              go_wp2
              go_roundw
              case rel => exact next _ (bdrewN HB5.out _) hpx
              case measure => simp [intOf]; omega
            · have e0 : (p.x0.toList == xk.x0.toList) = false := by simpa using e0
              go_wp2
              go_quiet (fail)
              go_wp2
              go_roundw
              case rel => exact next _ (bdrewN HB5.out _) hpx
              case measure => simp [intOf]; omega
      · have hbad := HZ.out
        have hav := ans_valid HV.out
        rw [← HZ.out] at hav
        obtain ⟨hgood, hno⟩ := hav
        have hmx := msg_max hgood
        obtain ⟨⟨m0, m1, m2⟩, hmh, hmb⟩ := hmx
        have ez : ansR r cd = zeroM := by unfold ansR; rw [if_neg (by rw [hno]; simp)]
        have E3 : Hid (r.x3 = cd) := Lib.hid (by rw [HZ.out]; rfl)
        have E5 : Hid (r.b.length = 0) := Lib.hid (by rw [HZ.out]; rfl)
        have HG := Lib.hid hgood
        have HNO := Lib.hid hno
        have EZ := Lib.hid ez
        clear hgood hno ez
        clear hbad
        have BXr := Lib.hid (BX.out.call HB5.out)
        have HX4r := Lib.hid (((Sees.of_own HX4.out).below HB5.out (Nat.le_refl _)).more HB5.out.size)
        have HX5r := Lib.hid (((Sees.of_own HX5.out).below HB5.out (Nat.le_refl _)).more HB5.out.size)
        have HBr := Lib.hid (btrans HBV.out HB5.out)
        clear hx4
        obtain ⟨q0, q1, q2, q3, q4, q5⟩ := six_cells BXr.out
        go_wp2_with fail
        refine (ians_any r.x0 r.x1 r.x2 r.x3 Ax4 r.h.length cx4 r.h Ax5 r.b.length cx5 r.b cd _ m0 m1 m2 rfl hf4 hmh rfl hf5 hmb HX4r.out HX5r.out).mono ?_
        rw [show ansR ⟨r.x0, r.x1, r.x2, r.x3, r.h, r.b⟩ cd = zeroM from EZ.out, show ansOk ⟨r.x0, r.x1, r.x2, r.x3, r.h, r.b⟩ cd = false from HNO.out]
        rintro e w6 ⟨Bx4, dx4, Bx5, dx5, rfl, _, _, _, hb6⟩
        have BXr := Lib.hid ((BXr.out.call hb6).alloc (.cells #[.string zeroM.x0, .string zeroM.x1, .string zeroM.x2, .int .i64 zeroM.x3, .slice Bx4 zeroM.h.length dx4, .slice Bx5 zeroM.b.length dx5] 28))
        have HX4r := Lib.hid (sees_alloc (sees_call HX4r.out hb6) (.cells #[.string zeroM.x0, .string zeroM.x1, .string zeroM.x2, .int .i64 zeroM.x3, .slice Bx4 zeroM.h.length dx4, .slice Bx5 zeroM.b.length dx5] 28))
        have HX5r := Lib.hid (sees_alloc (sees_call HX5r.out hb6) (.cells #[.string zeroM.x0, .string zeroM.x1, .string zeroM.x2, .int .i64 zeroM.x3, .slice Bx4 zeroM.h.length dx4, .slice Bx5 zeroM.b.length dx5] 28))
        have HBr := Lib.hid (balloc (btrans HBr.out hb6) (.cells #[.string zeroM.x0, .string zeroM.x1, .string zeroM.x2, .int .i64 zeroM.x3, .slice Bx4 zeroM.h.length dx4, .slice Bx5 zeroM.b.length dx5] 28))
        clear hb6 q0 q1 q2 q3 q4 q5
        obtain ⟨q0, q1, q2, q3, q4, q5⟩ := six_cells BXr.out
        go_wp2_with fail
        refine (imv_any r.x0 r.x1 r.x2 r.x3 Ax4 r.h.length cx4 r.h Ax5 r.b.length cx5 r.b _ m0 m1 m2 rfl hf4 hmh rfl hf5 hmb HX4r.out HX5r.out).mono ?_
        rw [show msgB ⟨r.x0, r.x1, r.x2, r.x3, r.h, r.b⟩ = true from HG.out]
        rintro e w7 ⟨rfl, hb7⟩
        have BXr := Lib.hid (BXr.out.call hb7)
        have HBr := Lib.hid (btrans HBr.out hb7)
        clear hb7 q0 q1 q2 q3 q4 q5
        obtain ⟨q0, q1, q2, q3, q4, q5⟩ := six_cells BXr.out
        rw [E3.out] at q3
        rw [E5.out] at q5
        go_wp2
        go_ret
        exact ⟨rfl, HBr.out⟩
end Go.Proofs.Ytfkhnfbmpjgjgaa
