/- The walks of the laws of chapter 4 over drawn inputs. -/
import Derived.Test.YtfkhnfbmpjgjgaaLaws4
import Derived.Test.YtfkhnfbmpjgjgaaDrawMd
import Derived.Test.YtfkhnfbmpjgjgaaSame
import Derived.Test.YtfkhnfbmpjgjgaaAlive
namespace Go.Proofs.Ytfkhnfbmpjgjgaa
open Go.RowKit
set_option linter.unusedVariables false
set_option maxRecDepth 20000

theorem sees_call {w w1 : World} {m n : Nat} {A : Option Addr} {xs : List Value} (h : Sees w w.heap.size m A n xs) (hb : Below w.heap.size w w1) : Sees w1 w1.heap.size m A n xs := (h.below hb (Nat.le_refl _)).more hb.size
theorem sees_alloc {w : World} {m n : Nat} {A : Option Addr} {xs : List Value} (h : Sees w w.heap.size m A n xs) (o : Obj) : Sees (w.alloc o) (w.alloc o).heap.size m A n xs := (h.alloc (Nat.le_refl _) o).more (by simp)
theorem heads_4000 {hs : List HeadM} (h : ∀ p ∈ hs, p.x0.size ≤ 4000 ∧ p.x1.size ≤ 4000) : headMax hs := fun p hp => by
  have := h p hp
  exact ⟨by unfold maxLen; omega, by unfold maxLen; omega⟩
theorem msgL_sm {p : MsgM} (h : msgB p = true) : ∀ s ∈ msgL p, s.size ≤ 1048576 := by
  obtain ⟨x0, x1, x2, x3, hh, bb⟩ := p
  obtain ⟨h1, h2, h3, h4⟩ := msgB_parts h
  unfold msgL
  rw [if_pos h]
  intro s hs
  simp only [List.mem_cons, List.mem_append, List.mem_map] at hs
  have hl : ∀ s : ByteArray, s.data.toList.length = s.size := fun s => by simp
  rcases hs with rfl | ⟨q, hq, rfl⟩ | rfl | hs
  · have hA : ∀ u h : ByteArray, (wordB u.data.toList && wordB h.data.toList) = true → (textA u h).size ≤ 25 := by
      intro u h hv
      unfold textA
      rw [if_pos hv]
      rw [Bool.and_eq_true] at hv
      have h1 := word_len hv.1
      have h2 := word_len hv.2
      rw [hl] at h1 h2
      show (addrT u.data.toList h.data.toList).toArray.size ≤ 25
      unfold addrT
      simp
      omega
    have hT : (textS x3).size ≤ 7 := by
      unfold textS textN
      split
      · have := numT_len7 x3.toNat (by omega)
        show (numT x3.toNat).toArray.size ≤ 7
        simpa using this
      · decide
    unfold firstL
    split
    · rw [size_cat]; show 7 + (textS x3).size ≤ _; omega
    · rename_i hne
      rw [Bool.or_eq_true] at h1
      rcases h1 with h1 | h1
      · unfold reqB at h1
        simp only [Bool.and_eq_true] at h1
        have h5 := word_len h1.1.1.1
        rw [hl] at h5
        have h6 := hA _ _ (by rw [Bool.and_eq_true]; exact h1.2)
        rw [size_cat, size_cat]
        show x0.size + 1 + (textA x1 x2).size ≤ _
        change 1 ≤ x0.size ∧ x0.size ≤ 10 at h5
        change (textA x1 x2).size ≤ 25 at h6
        omega
      · unfold ansB at h1
        simp only [Bool.and_eq_true] at h1
        exact absurd h1.1.1 hne
  · have := headB_size (p := q) (by
      have h5 : headsB hh = true := h2
      unfold headsB at h5
      rw [Bool.and_eq_true] at h5
      exact List.all_eq_true.mp h5.2 q hq)
    unfold headL
    rw [size_cat, size_cat]
    show _ + 2 + _ ≤ _
    omega
  · exact Nat.zero_le _
  · have h5 := List.all_eq_true.mp h4 s hs
    unfold lineN at h5
    rw [Bool.and_eq_true] at h5
    have h6 := h5.1
    unfold lineB at h6
    simp only [Bool.and_eq_true, decide_eq_true_eq] at h6
    rw [hl] at h6
    omega

set_option maxHeartbeats 4000000 in
theorem walk_FnMessageValid (a0 : Option Addr) (len0 cap0 : Nat) (z0 : List Int) (w : World) (w0 : IsBytes w a0 len0 cap0 z0) :
    Calls Try.prog 3 #[.slice a0 len0 cap0] w fun e w' => e = .returned (.bool true) ∧ Below w.heap.size w w' := by
  obtain ⟨hlc, hcm, hb⟩ := bytes_of w0
  have HB := Lib.hid hb
  have hcm' := hcm
  unfold maxLen at hcm'
  clear w0 hb
  by_cases hbig : (1048576 : Int) < len0
  · go_enter Try.func3, Try.ntmps3
    go_wp2
    go_ret
    exact ⟨rfl, Below.refl _ _⟩
  go_enter Try.func3, Try.ntmps3
  go_wp2_with fail
  refine (drawMv_any _ _ _ _ hlc hcm HB.out).mono ?_
  rintro e w1 ⟨x0, x1, x2, x3, A4, n4, c4, h4, A5, n5, c5, b5, rfl, hx, hx3, hn4, hn49, hsm4, hn5, hn55, hsm5, hown4, hown5, hb1⟩
  subst hn4
  subst hn5
  have M0 : Hid (x0.size ≤ maxLen) := Lib.hid (by unfold maxLen; omega)
  have M1 : Hid (x1.size ≤ maxLen) := Lib.hid (by unfold maxLen; omega)
  have M2 : Hid (x2.size ≤ maxLen) := Lib.hid (by unfold maxLen; omega)
  have HM4 := Lib.hid (heads_4000 hsm4)
  have HM5 : Hid (∀ s ∈ b5, s.size ≤ maxLen) := Lib.hid (fun s hs => by have := hsm5 s hs; unfold maxLen; omega)
  have HC4 : Hid (h4.length ≤ maxLen) := Lib.hid (by unfold maxLen; omega)
  have HC5 : Hid (b5.length ≤ maxLen) := Lib.hid (by unfold maxLen; omega)
  have HB1 := Lib.hid hb1
  have BV1 := Lib.hid (Holds.new w1 28 #[.string x0, .string x1, .string x2, .int .i64 x3, .slice A4 h4.length c4, .slice A5 b5.length c5])
  have HBV := Lib.hid (balloc hb1 (.cells #[.string x0, .string x1, .string x2, .int .i64 x3, .slice A4 h4.length c4, .slice A5 b5.length c5] 28))
  have HO4 := Lib.hid (sees_alloc hown4 (.cells #[.string x0, .string x1, .string x2, .int .i64 x3, .slice A4 h4.length c4, .slice A5 b5.length c5] 28))
  have HO5 := Lib.hid (sees_alloc hown5 (.cells #[.string x0, .string x1, .string x2, .int .i64 x3, .slice A4 h4.length c4, .slice A5 b5.length c5] 28))
  clear hx hx3 hsm4 hsm5 hown4 hown5 hb1
  obtain ⟨v, hv⟩ : ∃ v, msgB ⟨x0, x1, x2, x3, h4, b5⟩ = v := ⟨_, rfl⟩
  have HV := Lib.hid hv
  clear hv
  go_wp2_with fail
  refine (imv_any x0 x1 x2 x3 A4 h4.length c4 h4 A5 b5.length c5 b5 _ M0.out M1.out M2.out rfl HC4.out HM4.out rfl HC5.out HM5.out HO4.out HO5.out).mono ?_
  rintro e w2 ⟨rfl, hb2⟩
  have HBV := Lib.hid (btrans HBV.out hb2)
  have BV1 := Lib.hid (BV1.out.call hb2)
  have HO4 := Lib.hid (sees_call HO4.out hb2)
  have HO5 := Lib.hid (sees_call HO5.out hb2)
  clear hb2
  obtain ⟨q0, q1, q2, q3, q4, q5⟩ := six_cells BV1.out
  rw [HV.out]
  go_wp2_with fail
  refine (smv_any x0 x1 x2 x3 A4 h4.length c4 h4 A5 b5.length c5 b5 _ M0.out M1.out M2.out rfl HC4.out HM4.out rfl HC5.out HM5.out HO4.out HO5.out).mono ?_
  rintro e w3 ⟨rfl, hb3⟩
  clear q0 q1 q2 q3 q4 q5
  have HBV := Lib.hid (btrans HBV.out hb3)
  have BV1 := Lib.hid (BV1.out.call hb3)
  have HO4 := Lib.hid (sees_call HO4.out hb3)
  have HO5 := Lib.hid (sees_call HO5.out hb3)
  clear hb3
  obtain ⟨q0, q1, q2, q3, q4, q5⟩ := six_cells BV1.out
  rw [HV.out]
  have hbad : msgB ⟨⟨#[]⟩, ⟨#[]⟩, ⟨#[]⟩, 0, h4, b5⟩ = false := by
    unfold msgB
    rw [show reqB ⟨⟨#[]⟩, ⟨#[]⟩, ⟨#[]⟩, 0, h4, b5⟩ = false from rfl, show ansB ⟨⟨#[]⟩, ⟨#[]⟩, ⟨#[]⟩, 0, h4, b5⟩ = false by unfold ansB; simp]
    rfl
  have HBAD := Lib.hid hbad
  clear hbad
  go_wp2_with fail
  refine (imv_any ⟨#[]⟩ ⟨#[]⟩ ⟨#[]⟩ 0 A4 h4.length c4 h4 A5 b5.length c5 b5 _ (Nat.zero_le _) (Nat.zero_le _) (Nat.zero_le _) rfl HC4.out HM4.out rfl HC5.out HM5.out HO4.out HO5.out).mono ?_
  rintro e w4 ⟨rfl, hb4⟩
  clear q0 q1 q2 q3 q4 q5
  have HBV := Lib.hid (btrans HBV.out hb4)
  have BV1 := Lib.hid (BV1.out.call hb4)
  have HO4 := Lib.hid (sees_call HO4.out hb4)
  have HO5 := Lib.hid (sees_call HO5.out hb4)
  clear hb4
  obtain ⟨q0, q1, q2, q3, q4, q5⟩ := six_cells BV1.out
  rw [HBAD.out]
  cases v
  · go_wp2_with fail
    refine (alive_any _).mono ?_
    rintro e w5 ⟨rfl, rfl⟩
    go_wp2
    go_ret
    exact ⟨rfl, HBV.out⟩
  · have hgood : msgB ⟨x0, x1, x2, x3, h4, []⟩ = true := by
      have h1 := HV.out
      unfold msgB at h1 ⊢
      rw [Bool.and_eq_true, Bool.and_eq_true] at h1
      rw [show (reqB ⟨x0, x1, x2, x3, h4, []⟩ || ansB ⟨x0, x1, x2, x3, h4, []⟩) = true from h1.1.1, show headsB h4 = true from h1.1.2]
      rfl
    have HGOOD := Lib.hid hgood
    clear hgood
    go_wp2_with fail
    refine (imv_any x0 x1 x2 x3 A4 h4.length c4 h4 none 0 0 [] _ M0.out M1.out M2.out rfl HC4.out HM4.out rfl (Nat.zero_le _) (fun s hs => by simp at hs) HO4.out Sees.none_).mono ?_
    rintro e w5 ⟨rfl, hb5⟩
    rw [HGOOD.out]
    have HBV := Lib.hid (btrans HBV.out hb5)
    clear hb5
    go_wp2_with fail
    refine (alive_any _).mono ?_
    rintro e w6 ⟨rfl, rfl⟩
    go_wp2
    go_ret
    exact ⟨rfl, HBV.out⟩

set_option maxHeartbeats 4000000 in
theorem walk_FnMessageLines (a0 : Option Addr) (len0 cap0 : Nat) (z0 : List Int) (w : World) (w0 : IsBytes w a0 len0 cap0 z0) :
    Calls Try.prog 4 #[.slice a0 len0 cap0] w fun e w' => e = .returned (.bool true) ∧ Below w.heap.size w w' := by
  obtain ⟨hlc, hcm, hb⟩ := bytes_of w0
  have HB := Lib.hid hb
  have hcm' := hcm
  unfold maxLen at hcm'
  clear w0 hb
  by_cases hbig : (1048576 : Int) < len0
  · go_enter Try.func4, Try.ntmps4
    go_wp2
    go_ret
    exact ⟨rfl, Below.refl _ _⟩
  go_enter Try.func4, Try.ntmps4
  go_wp2_with fail
  refine (drawMl_any _ _ _ _ hlc hcm HB.out).mono ?_
  rintro e w1 ⟨x0, x1, x2, x3, A4, n4, c4, h4, A5, n5, c5, b5, rfl, hx, hx3, hn4, hn49, hsm4, hn5, hn55, hsm5, hown4, hown5, hb1⟩
  subst hn4
  subst hn5
  have M0 : Hid (x0.size ≤ maxLen) := Lib.hid (by unfold maxLen; omega)
  have M1 : Hid (x1.size ≤ maxLen) := Lib.hid (by unfold maxLen; omega)
  have M2 : Hid (x2.size ≤ maxLen) := Lib.hid (by unfold maxLen; omega)
  have HM4 := Lib.hid (heads_4000 hsm4)
  have HM5 : Hid (∀ s ∈ b5, s.size ≤ maxLen) := Lib.hid (fun s hs => by have := hsm5 s hs; unfold maxLen; omega)
  have HC4 : Hid (h4.length ≤ maxLen) := Lib.hid (by unfold maxLen; omega)
  have HC5 : Hid (b5.length ≤ maxLen) := Lib.hid (by unfold maxLen; omega)
  have HB1 := Lib.hid hb1
  have BV1 := Lib.hid (Holds.new w1 28 #[.string x0, .string x1, .string x2, .int .i64 x3, .slice A4 h4.length c4, .slice A5 b5.length c5])
  have HBV := Lib.hid (balloc hb1 (.cells #[.string x0, .string x1, .string x2, .int .i64 x3, .slice A4 h4.length c4, .slice A5 b5.length c5] 28))
  have HO4 := Lib.hid (sees_alloc hown4 (.cells #[.string x0, .string x1, .string x2, .int .i64 x3, .slice A4 h4.length c4, .slice A5 b5.length c5] 28))
  have HO5 := Lib.hid (sees_alloc hown5 (.cells #[.string x0, .string x1, .string x2, .int .i64 x3, .slice A4 h4.length c4, .slice A5 b5.length c5] 28))
  clear hx hx3 hsm4 hsm5 hown4 hown5 hb1
  have hfew := msgL_few ⟨x0, x1, x2, x3, h4, b5⟩
  go_wp2_with fail
  refine (iml_any x0 x1 x2 x3 A4 h4.length c4 h4 A5 b5.length c5 b5 _ M0.out M1.out M2.out rfl HC4.out HM4.out rfl HC5.out HM5.out HO4.out HO5.out).mono ?_
  rintro e w2 ⟨Ax, cx, rfl, hownx, hb2⟩
  have HOx := Lib.hid hownx
  clear hownx
  have HBV := Lib.hid (btrans HBV.out hb2)
  have BV1 := Lib.hid (BV1.out.call hb2)
  have HO4 := Lib.hid (sees_call HO4.out hb2)
  have HO5 := Lib.hid (sees_call HO5.out hb2)
  clear hb2
  obtain ⟨q0, q1, q2, q3, q4, q5⟩ := six_cells BV1.out
  go_wp2_with fail
  refine (sml_any x0 x1 x2 x3 A4 h4.length c4 h4 A5 b5.length c5 b5 _ M0.out M1.out M2.out rfl HC4.out HM4.out rfl HC5.out HM5.out HO4.out HO5.out).mono ?_
  rintro e w3 ⟨Ay, cy, rfl, howny, hb3⟩
  have HOy := Lib.hid howny
  clear howny
  clear q0 q1 q2 q3 q4 q5
  have HBV := Lib.hid (btrans HBV.out hb3)
  have BV1 := Lib.hid (BV1.out.call hb3)
  have HO4 := Lib.hid (sees_call HO4.out hb3)
  have HO5 := Lib.hid (sees_call HO5.out hb3)
  have HOx := Lib.hid (own_call HOx.out hb3)
  clear hb3
  obtain ⟨q0, q1, q2, q3, q4, q5⟩ := six_cells BV1.out
  go_wp2_with fail
  refine (sameTexts_same Ax Ay (msgL ⟨x0, x1, x2, x3, h4, b5⟩).length cx cy (msgL ⟨x0, x1, x2, x3, h4, b5⟩) _ rfl (by unfold maxLen; omega) (Sees.of_own HOx.out) (Sees.of_own HOy.out)).mono ?_
  rintro e w4 ⟨rfl, hb4⟩
  clear q0 q1 q2 q3 q4 q5
  have HBV := Lib.hid (btrans HBV.out hb4)
  have BV1 := Lib.hid (BV1.out.call hb4)
  have HO4 := Lib.hid (sees_call HO4.out hb4)
  have HO5 := Lib.hid (sees_call HO5.out hb4)
  have HOx := Lib.hid (own_call HOx.out hb4)
  clear hb4
  obtain ⟨q0, q1, q2, q3, q4, q5⟩ := six_cells BV1.out
  obtain ⟨v, hv⟩ : ∃ v, msgB ⟨x0, x1, x2, x3, h4, b5⟩ = v := ⟨_, rfl⟩
  have HV := Lib.hid hv
  clear hv
  go_wp2_with fail
  refine (smv_any x0 x1 x2 x3 A4 h4.length c4 h4 A5 b5.length c5 b5 _ M0.out M1.out M2.out rfl HC4.out HM4.out rfl HC5.out HM5.out HO4.out HO5.out).mono ?_
  rintro e w5 ⟨rfl, hb5⟩
  clear q0 q1 q2 q3 q4 q5
  have HBV := Lib.hid (btrans HBV.out hb5)
  have BV1 := Lib.hid (BV1.out.call hb5)
  have HO4 := Lib.hid (sees_call HO4.out hb5)
  have HO5 := Lib.hid (sees_call HO5.out hb5)
  have HOx := Lib.hid (own_call HOx.out hb5)
  clear hb5
  obtain ⟨q0, q1, q2, q3, q4, q5⟩ := six_cells BV1.out
  rw [HV.out]
  cases v
  · have h0 : (msgL ⟨x0, x1, x2, x3, h4, b5⟩).length = 0 := by unfold msgL; rw [if_neg (by rw [HV.out]; simp)]; rfl
    have HZ := Lib.hid h0
    have hz : (((msgL ⟨x0, x1, x2, x3, h4, b5⟩).length : Int) == 0) = true := by rw [h0]; rfl
    clear h0
    go_wp2_with fail
    refine (alive_any _).mono ?_
    rintro e w6 ⟨rfl, rfl⟩
    go_wp2
    go_ret
    exact ⟨rfl, HBV.out⟩
  · obtain ⟨hrb, hrm⟩ := said_lines HV.out
    have hsz : ∀ s ∈ msgL ⟨x0, x1, x2, x3, h4, b5⟩, s.size ≤ 1048576 := msgL_sm HV.out
    have HSZ := Lib.hid hsz
    have HRB := Lib.hid hrb
    have HRM := Lib.hid hrm
    clear hsz hrb hrm
    go_wp2_with fail
    refine (irm_any Ax (msgL ⟨x0, x1, x2, x3, h4, b5⟩).length cx (msgL ⟨x0, x1, x2, x3, h4, b5⟩) _ rfl (by omega) (own_cap HOx.out) (Sees.of_own HOx.out) HSZ.out ⟨x0, x1, x2, x3, h4, b5⟩ true HRM.out.symm HRB.out.symm).mono ?_
    rintro e w6 ⟨Az4, cz4, Az5, cz5, rfl, hownz4, hownz5, _, hb6⟩
    have HOz4 := Lib.hid hownz4
    have HOz5 := Lib.hid hownz5
    clear hownz4 hownz5
    clear q0 q1 q2 q3 q4 q5
    have HBV := Lib.hid (btrans HBV.out hb6)
    have BV1 := Lib.hid (BV1.out.call hb6)
    have HO4 := Lib.hid (sees_call HO4.out hb6)
    have HO5 := Lib.hid (sees_call HO5.out hb6)
    clear hb6
    have HO4 := Lib.hid (sees_alloc HO4.out (.cells #[.string x0, .string x1, .string x2, .int .i64 x3, .slice Az4 h4.length cz4, .slice Az5 b5.length cz5] 28))
    have HO5 := Lib.hid (sees_alloc HO5.out (.cells #[.string x0, .string x1, .string x2, .int .i64 x3, .slice Az4 h4.length cz4, .slice Az5 b5.length cz5] 28))
    have HOz4 := Lib.hid (HOz4.out.alloc (.cells #[.string x0, .string x1, .string x2, .int .i64 x3, .slice Az4 h4.length cz4, .slice Az5 b5.length cz5] 28))
    have HOz5 := Lib.hid (HOz5.out.alloc (.cells #[.string x0, .string x1, .string x2, .int .i64 x3, .slice Az4 h4.length cz4, .slice Az5 b5.length cz5] 28))
    have HBV := Lib.hid (balloc HBV.out (.cells #[.string x0, .string x1, .string x2, .int .i64 x3, .slice Az4 h4.length cz4, .slice Az5 b5.length cz5] 28))
    have BV1 := Lib.hid (BV1.out.alloc (.cells #[.string x0, .string x1, .string x2, .int .i64 x3, .slice Az4 h4.length cz4, .slice Az5 b5.length cz5] 28))
    obtain ⟨q0, q1, q2, q3, q4, q5⟩ := six_cells BV1.out
    go_wp2_with fail
    have hsm := sameMessage_same x0 x1 x2 x3 Az4 h4.length cz4 h4 Az5 b5.length cz5 b5 A4 c4 A5 c5 _ rfl HC4.out rfl HC5.out (Sees.of_own HOz4.out) HO4.out (Sees.of_own HOz5.out) HO5.out
    refine hsm.mono ?_
    rintro e w7 ⟨rfl, hb7⟩
    have HBV := Lib.hid (btrans HBV.out hb7)
    clear hb7 hsm
    go_wp2
    go_ret
    exact ⟨rfl, HBV.out⟩
theorem msg_max {p : MsgM} (h : msgB p = true) : (p.x0.size ≤ maxLen ∧ p.x1.size ≤ maxLen ∧ p.x2.size ≤ maxLen) ∧ headMax p.h ∧ ∀ s ∈ p.b, s.size ≤ maxLen := by
  obtain ⟨h1, h2, h3, h4⟩ := msgB_parts h
  have hl : ∀ s : ByteArray, s.data.toList.length = s.size := fun s => by simp
  have hz : ∀ s : ByteArray, (s.toList == []) = true → s.size ≤ maxLen := by
    intro s hs
    have := eq_of_beq hs
    rw [ByteArray.toList_eq] at this
    have e := hl s
    rw [this] at e
    simp at e
    omega
  refine ⟨?_, heads_valid_max h2, fun s hs => ?_⟩
  · rw [Bool.or_eq_true] at h1
    rcases h1 with h1 | h1
    · unfold reqB at h1
      simp only [Bool.and_eq_true] at h1
      exact ⟨word_max h1.1.1.1, word_max h1.2.1, word_max h1.2.2⟩
    · unfold ansB at h1
      simp only [Bool.and_eq_true] at h1
      exact ⟨hz _ h1.1.1, hz _ h1.2.1, hz _ h1.2.2⟩
  · have h5 := List.all_eq_true.mp h4 s hs
    unfold lineN at h5
    rw [Bool.and_eq_true] at h5
    have h6 := h5.1
    unfold lineB at h6
    simp only [Bool.and_eq_true, decide_eq_true_eq] at h6
    rw [hl] at h6
    unfold maxLen; omega
end Go.Proofs.Ytfkhnfbmpjgjgaa
