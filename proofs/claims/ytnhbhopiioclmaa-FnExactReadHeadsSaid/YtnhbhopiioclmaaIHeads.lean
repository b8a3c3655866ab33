/- The contracts of the program's functions of chapter 3: set heads. -/
import Derived.Test.YtnhbhopiioclmaaIHeadsR
import Derived.Test.YtnhbhopiioclmaaCopy
namespace Go.Proofs.Ytnhbhopiioclmaa
open Go.RowKit
set_option linter.unusedVariables false

set_option maxHeartbeats 1000000 in
theorem icp_any (A : Option Addr) (n c : Nat) (hs : List HeadM) (w : World) (hn : n = hs.length) (hc : n ≤ 1048576) (hr : Sees w w.heap.size 2 A n (flat headC hs)) :
    Calls Try.prog 53 #[.slice A n c] w (RowP w 27 2 n (flat headC hs)) := by
  obtain ⟨cs, hcs, hmk⟩ := made_row (P := Try.prog) 23 27 _ 2 32 Try.underlying23 info_head n (by omega) (by omega)
  have HO := Lib.hid (World.ownsRow_lit (base := w.heap.size) (e := 27) (size := 2) w cs n (Nat.le_refl _) (by unfold maxLen; omega) hcs)
  have HR := Lib.hid (hr.alloc (Nat.le_refl _) (.cells cs 27))
  clear hcs hr hn
  go_enter Try.func53, Try.ntmps53
  go_wp2_with (with_reducible refine wpList_copy_list rfl (.tmp 7) (.tmp 8) 23 23 rfl w.heap.size 27 2 n c w.heap.size w.heap.size A (flat headC hs) cs.toList Try.underlying23 (by kernel_rfl) rfl rfl HO.out HR.out (head_ones hs) ?_; intro w2 hown2 hg2; have HW2 := Lib.hid hown2; have HG2 := Lib.hid hg2; clear hown2 hg2)
  go_ret
  exact ⟨_, _, rfl, HW2.out, (bnew w _).grown HG2.out (by simp) (fun g hg => by injection hg with hg; omega)⟩

theorem flat_set2 {hs : List HeadM} {k : Nat} {q : HeadM} (hq : hs[k]? = some q) (nm ln : ByteArray) : ((flat headC hs).set (k * 2) (.string nm)).set (k * 2 + 1) (.string ln) = flat headC (hs.set k ⟨nm, ln⟩) := by
  have h0 := flat_set headC_len hs (j := 0) (a' := ⟨nm, q.x1⟩) (u := .string nm) hq (by omega) rfl
  rw [Nat.add_zero] at h0
  have hk : k < hs.length := (List.getElem?_eq_some_iff.mp hq).1
  rw [h0, flat_set headC_len (hs.set k ⟨nm, q.x1⟩) (j := 1) (a := ⟨nm, q.x1⟩) (a' := ⟨nm, ln⟩) (by rw [List.getElem?_set_self hk]) (by omega) rfl, List.set_set]

set_option maxHeartbeats 2000000 in
theorem iwh_any (A : Option Addr) (n c : Nat) (hs : List HeadM) (nm ln : ByteArray) (w : World) (hn : n = hs.length) (hc : n ≤ 1048576) (hr : Sees w w.heap.size 2 A n (flat headC hs)) :
    Calls Try.prog 52 #[.slice A n c, .agg #[.string nm, .string ln]] w (RowP w 27 2 (setH hs nm ln).length (flat headC (setH hs nm ln))) := by
  obtain ⟨i0, hi0, hz0, hz1, hz2⟩ := info_parts info_head
  have HR := Lib.hid ((hr.alloc (Nat.le_refl _) (.cells #[.string nm, .string ln] 27)).more (B' := (w.alloc (.cells #[.string nm, .string ln] 27)).heap.size) (by simp))
  have HN := Lib.hid hn
  clear hr hn
  go_enter Try.func52, Try.ntmps52
  go_wp2_with fail
  refine (icp_any A n c hs _ HN.out hc HR.out).mono ?_
  rintro e w1 ⟨A1, c1, rfl, hown1, hb1⟩
  obtain ⟨hcl, hfr⟩ := bcell hb1
  have HB1 := Lib.hid ((bnew w (.cells #[.string nm, .string ln] 27)).trans (hb1.mono (by simp)))
  have hz := hb1.size
  simp at hz
  have HW1 := Lib.hid (own_more (base' := w.heap.size) hown1 (by simp))
  have c0 : w1.cell? ⟨w.heap.size, 0, none⟩ = some (.string nm) := by rw [hcl _ _ (by simp)]; simp [go_sem]
  have c1' : w1.cell? ⟨w.heap.size, 1, none⟩ = some (.string ln) := by rw [hcl _ _ (by simp)]; simp [go_sem]
  clear hb1 hown1 hcl hfr
  rcases name_cases hs nm with ⟨k, q, hq, h1, h2⟩ | h1
  · have hk : k < n := by rw [HN.out]; exact (List.getElem?_eq_some_iff.mp hq).1
    have HS := Lib.hid (setH_found (ln := ln) hq h1 h2)
    have HQ := Lib.hid hq
    have H1 := Lib.hid h1
    have H2 := Lib.hid h2
    clear hq h1 h2
    go_wp2_with fail
    refine (iat_yes A1 n c1 k hs nm q _ HN.out (by unfold maxLen; omega) (Sees.of_own HW1.out) HQ.out H1.out H2.out).mono ?_
    rintro e w2 ⟨rfl, rfl⟩
    obtain ⟨g, rfl, hgb, hgl⟩ := own_form HW1.out (by omega)
    obtain ⟨u0, d0⟩ := own_some HW1.out (j := k * 2) (by omega)
    have f0 := HW1.out.frozenAt (k * 2)
    obtain ⟨u1, d1⟩ := own_some HW1.out (j := k * 2 + 1) (by omega)
    have f1 := HW1.out.frozenAt (k * 2 + 1)
    go_wp2
    go_ret
    have hs0 := HW1.out.stored (k * 2) (.string nm)
    have hs1 := hs0.1.stored (k * 2 + 1) (.string ln)
    have hfl := flat_set2 HQ.out nm ln
    have hS := HS.out
    rw [name_eq H2.out] at hS
    rw [hS, ← hfl, List.length_set, ← HN.out]
    refine ⟨_, _, rfl, hs1.1, ?_⟩
    repeat (first | exact HB1.out | refine Below.setCell ?_ hgb _)
  · have HS := Lib.hid (setH_new (ln := ln) h1)
    have H1 := Lib.hid h1
    clear h1
    go_wp2_with fail
    refine (iat_no A1 n c1 hs nm _ HN.out (by unfold maxLen; omega) (Sees.of_own HW1.out) H1.out).mono ?_
    rintro e w2 ⟨rfl, rfl⟩
    have hz3 := HB1.out.size
    go_wp2_with (at_builtin; refine wpList_append_own _ rfl _ _ 23 rfl w.heap.size 27 i0 _ 2 32 Try.underlying23 hi0 hz0 hz1 hz2 rfl (by omega) (.slice A1 n c1) n (flat headC hs) rfl (HW1.out.alloc _) ⟨w1.heap.size, 0, none⟩ 1 1 [.string nm, .string ln] rfl rfl (World.news_of_block (cs := #[.string nm, .string ln]) (t := 27) (fr := (0, 0)) (heap_alloc_new w1 _)) (by simp [Value.oneCell']) (by unfold maxLen; omega) (by omega) (by simp; omega) ?_; intro v2 w2 hown2 hg2 _; obtain ⟨A2, c2, hv2⟩ := own_slice hown2; subst hv2; have HW2 := Lib.hid hown2; have HG2 := Lib.hid hg2; clear hown2 hg2)
    go_ret
    have hB2 : Below w.heap.size w w2 := (HB1.out.alloc HB1.out.size (.cells #[.string nm, .string ln] 27)).grown HG2.out (by simp; omega) (fun g hg => (HW1.out.lt g hg).1)
    rw [HS.out, List.length_append, flat_append, ← HN.out]
    exact ⟨_, _, rfl, HW2.out, hB2⟩

set_option maxHeartbeats 2000000 in
theorem iset_any (A : Option Addr) (n c : Nat) (hs : List HeadM) (nm ln : ByteArray) (w : World) (hn : n = hs.length) (hc : n ≤ maxLen) (hr : Sees w w.heap.size 2 A n (flat headC hs)) (hm : headMax hs) (hmn : nm.size ≤ maxLen) (hml : ln.size ≤ maxLen) :
    Calls Try.prog 29 #[.slice A n c, .string nm, .string ln] w (RowB w 27 2 (setN hs nm ln).length (flat headC (setN hs nm ln)) (setOk hs nm ln)) := by
  have ho : headOk maxLen ⟨nm, ln⟩ := ⟨by show (nm.size : Int) ≤ (maxLen : Int); omega, by show (ln.size : Int) ≤ (maxLen : Int); omega⟩
  have hmx : headMax (setH hs nm ln) := by
    unfold setH
    split
    · exact max_set hm ho
    · exact max_app hm ho
  have hcv : Calls Try.prog 14 #[.slice A n c] w fun e w' => e = .returned (.bool (headsB hs)) ∧ Below w.heap.size w w' := ihv_any A n c hs w hn hc hr hm
  have HR := Lib.hid hr
  have HN := Lib.hid hn
  have HMX := Lib.hid hmx
  obtain ⟨r, hrr⟩ : ∃ r, r = setN hs nm ln := ⟨_, rfl⟩
  obtain ⟨o, hoo⟩ : ∃ o, o = setOk hs nm ln := ⟨_, rfl⟩
  rw [← hrr, ← hoo]
  unfold setN at hrr
  unfold setOk at hoo
  by_cases hv : headsB hs = true
  · have hn8 : n ≤ 8 := by rw [hn]; exact headsB_len hv
    have hl9 : (setH hs nm ln).length ≤ 9 := by
      unfold setH
      split
      · rw [List.length_set]; omega
      · rw [List.length_append, ← hn]; show n + 1 ≤ 9; omega
    obtain ⟨v, hvv⟩ : ∃ v, headsB (setH hs nm ln) = v := ⟨_, rfl⟩
    rw [hv] at hcv
    rw [if_pos hv, hvv] at hrr
    rw [hv, Bool.true_and, hvv] at hoo
    have HRR := Lib.hid hrr
    subst hoo
    have HCV := Lib.hid hcv
    have HVV := Lib.hid hvv
    clear hcv hr hn hm hmx ho hmn hml hv hvv hrr
    go_enter Try.func29, Try.ntmps29
    go_wp2_with fail
    refine HCV.out.mono ?_
    rintro e w1 ⟨rfl, hb1⟩
    have HB1 := Lib.hid hb1
    have HR1 := Lib.hid ((HR.out.below hb1 (Nat.le_refl _)).more hb1.size)
    clear hb1
    go_wp2_with fail
    refine (iwh_any A n c hs nm ln _ HN.out (by omega) HR1.out).mono ?_
    rintro e w2 ⟨A2, c2, rfl, hown2, hb2⟩
    have HB2 := Lib.hid (btrans HB1.out hb2)
    have HW2 := Lib.hid (own_more (base' := w.heap.size) hown2 HB1.out.size)
    have HR2 := Lib.hid ((HR1.out.below hb2 (Nat.le_refl _)).more hb2.size)
    clear hown2 hb2
    go_wp2_with fail
    refine (ihv_any A2 (setH hs nm ln).length c2 (setH hs nm ln) _ rfl (by unfold maxLen; omega) (Sees.of_own HW2.out) HMX.out).mono ?_
    rintro e w3 ⟨rfl, hb3⟩
    have HB3 := Lib.hid (btrans HB2.out hb3)
    have HW3 := Lib.hid (own_call HW2.out hb3)
    have HR3 := Lib.hid ((HR2.out.below hb3 (Nat.le_refl _)).more hb3.size)
    clear hb3
    rw [HVV.out]
    cases o
    · go_wp2_with fail
      refine (icp_any A n c hs _ HN.out (by omega) HR3.out).mono ?_
      rintro e w4 ⟨A4, c4, rfl, hown4, hb4⟩
      have HW4 := Lib.hid (own_more (base' := w.heap.size) hown4 HB3.out.size)
      have HB4 := Lib.hid (btrans HB3.out hb4)
      clear hown4 hb4
      go_wp2
      go_ret2
      obtain rfl : r = hs := by rw [HRR.out, if_neg (by simp)]
      rw [← HN.out]
      exact ⟨_, _, rfl, HW4.out, HB4.out⟩
    · go_wp2
      go_ret2
      obtain rfl : r = setH hs nm ln := by rw [HRR.out]; simp
      exact ⟨_, _, rfl, HW3.out, HB3.out⟩
  · have hv2 : headsB hs = false := by simpa using hv
    rw [if_neg hv] at hrr
    rw [hv2, Bool.false_and] at hoo
    subst hrr
    subst hoo
    rw [hv2] at hcv
    have HCV := Lib.hid hcv
    clear hcv hr hn hm hmx ho hmn hml hv hv2
    go_enter Try.func29, Try.ntmps29
    go_wp2_with fail
    refine HCV.out.mono ?_
    rintro e w1 ⟨rfl, hb1⟩
    have HB1 := Lib.hid hb1
    clear hb1
    go_wp2
    go_ret2
    exact ⟨_, _, rfl, ⟨rfl, .inl ⟨rfl, rfl⟩⟩, HB1.out⟩
end Go.Proofs.Ytnhbhopiioclmaa
