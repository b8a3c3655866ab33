/- The contracts of the program's functions of chapter 4: answers to messages. -/
import Derived.Test.YtfkhnfbmpjgjgaaIMsgL
import Derived.Test.YtfkhnfbmpjgjgaaMsgA
namespace Go.Proofs.Ytfkhnfbmpjgjgaa
open Go.RowKit
set_option linter.unusedVariables false
set_option maxRecDepth 20000

theorem iak_any (p : HeadM) (w : World) :
    Calls Try.prog 85 #[.string p.x0] w fun e w' => e = .returned (.bool (viaB p)) ∧ w = w' := by
  have hv : viaB p = (p.x0.toList == [118, 105, 97] || (p.x0.toList == [102, 114, 111, 109] || (p.x0.toList == [116, 111] || (p.x0.toList == [99, 97, 108, 108] || p.x0.toList == [99, 115, 101, 113])))) := by
    unfold viaB nmL isN
    simp only [List.any_cons, List.any_nil, Bool.or_false]
    rw [show (⟨#[118, 105, 97]⟩ : ByteArray).toList = [118, 105, 97] by rw [ByteArray.toList_eq], show (⟨#[102, 114, 111, 109]⟩ : ByteArray).toList = [102, 114, 111, 109] by rw [ByteArray.toList_eq], show (⟨#[116, 111]⟩ : ByteArray).toList = [116, 111] by rw [ByteArray.toList_eq], show (⟨#[99, 97, 108, 108]⟩ : ByteArray).toList = [99, 97, 108, 108] by rw [ByteArray.toList_eq], show (⟨#[99, 115, 101, 113]⟩ : ByteArray).toList = [99, 115, 101, 113] by rw [ByteArray.toList_eq]]
  rw [hv]
  obtain ⟨nm, hnm⟩ : ∃ nm, p.x0 = nm := ⟨_, rfl⟩
  rw [hnm]
  clear hv hnm
  by_cases h1 : (nm.toList == [118, 105, 97]) = true
  · go_enter Try.func85, Try.ntmps85
    go_wp2
    go_ret
    exact ⟨ret_bool (by rw [h1]; rfl), rfl⟩
  have h1 : (nm.toList == [118, 105, 97]) = false := by simpa using h1
  by_cases h2 : (nm.toList == [102, 114, 111, 109]) = true
  · go_enter Try.func85, Try.ntmps85
    go_wp2
    go_ret
    exact ⟨ret_bool (by rw [h1, h2]; rfl), rfl⟩
  have h2 : (nm.toList == [102, 114, 111, 109]) = false := by simpa using h2
  by_cases h3 : (nm.toList == [116, 111]) = true
  · go_enter Try.func85, Try.ntmps85
    go_wp2
    go_ret
    exact ⟨ret_bool (by rw [h1, h2, h3]; rfl), rfl⟩
  have h3 : (nm.toList == [116, 111]) = false := by simpa using h3
  by_cases h4 : (nm.toList == [99, 97, 108, 108]) = true
  · go_enter Try.func85, Try.ntmps85
    go_wp2
    go_ret
    exact ⟨ret_bool (by rw [h1, h2, h3, h4]; rfl), rfl⟩
  have h4 : (nm.toList == [99, 97, 108, 108]) = false := by simpa using h4
  by_cases h5 : (nm.toList == [99, 115, 101, 113]) = true
  · go_enter Try.func85, Try.ntmps85
    go_wp2
    go_ret
    exact ⟨ret_bool (by rw [h1, h2, h3, h4, h5]; rfl), rfl⟩
  have h5 : (nm.toList == [99, 115, 101, 113]) = false := by simpa using h5
  go_enter Try.func85, Try.ntmps85
  go_wp2
  go_ret
  exact ⟨ret_bool (by rw [h1, h2, h3, h4, h5]; rfl), rfl⟩

theorem filter_take_yes {hs : List HeadM} {k : Nat} {p : HeadM} {f : HeadM → Bool} (hp : hs[k]? = some p) (h : f p = true) : (hs.take (k + 1)).filter f = (hs.take k).filter f ++ [p] := by
  obtain ⟨h1, h2⟩ := List.getElem?_eq_some_iff.mp hp
  rw [List.take_add_one, hp, List.filter_append]; simp [h]
theorem filter_take_no {hs : List HeadM} {k : Nat} {p : HeadM} {f : HeadM → Bool} (hp : hs[k]? = some p) (h : f p = false) : (hs.take (k + 1)).filter f = (hs.take k).filter f := by
  rw [List.take_add_one, hp, List.filter_append]; simp [h]

set_option maxHeartbeats 2000000 in
theorem iha_any (A : Option Addr) (n c : Nat) (hs : List HeadM) (w : World) (hn : n = hs.length) (hc : n ≤ 1048576) (hr : Sees w w.heap.size 2 A n (flat headC hs)) :
    Calls Try.prog 64 #[.slice A n c] w (RowP w 43 2 (hs.filter viaB).length (flat headC (hs.filter viaB))) := by
  obtain ⟨i0, hi0, hz0, hz1, hz2⟩ := info_parts info_head
  have HN := Lib.hid hn
  have HR := Lib.hid hr
  clear hn hr
  go_enter Try.func64, Try.ntmps64
  go_wp2
  go_loopw [4, 3] (fun i kp wr => ∃ k : Nat, k ≤ n ∧ i = .int .i64 k ∧ ∃ (A' : Option Addr) (m c' : Nat) (os : List HeadM), kp = .slice A' m c' ∧ os = (hs.take k).filter viaB ∧ m = os.length ∧ m ≤ k ∧ wr.ownsRow w.heap.size 43 2 (.slice A' m c') m (flat headC os) ∧ Below w.heap.size w wr) (fun i _ _ => n - (intOf i).toNat)
  case atStart => exact ⟨0, Nat.zero_le _, rfl, none, 0, 0, [], rfl, rfl, rfl, Nat.le_refl _, ⟨rfl, .inl ⟨rfl, rfl⟩⟩, Below.refl _ _⟩
  case round =>
    obtain ⟨k, hk, rfl, A', m, c', os, rfl, hos, hm, hmk, hown, hbel⟩ := hrel
    have HOS := Lib.hid hos
    have HMO := Lib.hid hm
    have HW := Lib.hid hown
    have HB := Lib.hid hbel
    clear hos hm hown hbel
    by_cases hlt : k < n
    · obtain ⟨b, off, rfl, hb, hcell⟩ := (HR.out.below HB.out (Nat.le_refl _)).2 (by omega)
      obtain ⟨p, hp⟩ := get_of HN.out hlt
      have HP := Lib.hid hp
      obtain ⟨c0, c1⟩ := head_cells hcell hp
      clear hcell hb hp
      obtain ⟨v, hv⟩ : ∃ v, viaB p = v := ⟨_, rfl⟩
      have HV := Lib.hid hv
      have hka : ∀ W : World, Calls Try.prog 85 #[.string p.x0] W fun e w' => e = .returned (.bool v) ∧ W = w' := fun W => by rw [← hv]; exact iak_any p W
      have HKA := Lib.hid hka
      clear hv hka
      go_wp2_with fail
      refine (HKA.out _).mono ?_
      rintro e w' ⟨rfl, rfl⟩
      cases v
      · go_wp2
        go_roundw
        case rel => exact ⟨k + 1, by omega, by go_num, A', m, c', os, rfl, by rw [filter_take_no HP.out HV.out]; exact HOS.out, HMO.out, by omega, HW.out, HB.out⟩
        case measure => simp [intOf]; omega
      · have hbs := HB.out.size
        go_wp2_with (at_builtin; refine wpList_append_own _ rfl _ _ 25 rfl w.heap.size 43 i0 _ 2 32 Try.underlying25 hi0 hz0 hz1 hz2 rfl (by omega) (.slice A' m c') m (flat headC os) rfl (HW.out.alloc _) ⟨wr.heap.size, 0, none⟩ 1 1 [.string p.x0, .string p.x1] rfl rfl (World.news_of_block (cs := #[.string p.x0, .string p.x1]) (t := 43) (fr := (0, 0)) (heap_alloc_new wr _)) (by simp [Value.oneCell']) (by unfold maxLen; omega) (by omega) (by simp; omega) ?_; intro v2 w2 hown2 hg2 _; obtain ⟨A2, c2, hv2⟩ := own_slice hown2; subst hv2; have HW2 := Lib.hid hown2; have HG2 := Lib.hid hg2; clear hown2 hg2)
        go_roundw
        case rel =>
          have hb2 : Below w.heap.size w w2 := (HB.out.alloc HB.out.size (.cells #[.string p.x0, .string p.x1] 43)).grown HG2.out (by simp; have := HB.out.size; omega) (fun g hg => (HW.out.lt g hg).1)
          refine ⟨k + 1, by omega, by go_num, A2, m + 1, c2, os ++ [p], rfl, by rw [filter_take_yes HP.out HV.out, HOS.out], by rw [List.length_append, ← HMO.out]; rfl, by omega, ?_, hb2⟩
          rw [flat_append]
          exact HW2.out
        case measure => simp [intOf]; omega
    · have hos := HOS.out
      rw [take_all HN.out hlt] at hos
      have HO := Lib.hid hos
      clear hos
      go_wp2
      go_ret
      rw [← HO.out, ← HMO.out]
      exact ⟨_, _, rfl, HW.out, HB.out⟩

set_option maxHeartbeats 4000000 in
theorem ians_any (x0 x1 x2 : ByteArray) (x3 : Int) (A4 : Option Addr) (n4 c4 : Nat) (h4 : List HeadM) (A5 : Option Addr) (n5 c5 : Nat) (b5 : List ByteArray) (cd : Int) (w : World) (m0 : x0.size ≤ maxLen) (m1 : x1.size ≤ maxLen) (m2 : x2.size ≤ maxLen)
    (hn4 : n4 = h4.length) (hc4 : n4 ≤ maxLen) (hm4 : headMax h4) (hn5 : n5 = b5.length) (hc5 : n5 ≤ maxLen) (hm5 : ∀ s ∈ b5, s.size ≤ maxLen) (hr4 : Sees w w.heap.size 2 A4 n4 (flat headC h4)) (hr5 : Sees w w.heap.size 1 A5 n5 (flat strC b5)) :
    Calls Try.prog 24 #[.agg #[.string x0, .string x1, .string x2, .int .i64 x3, .slice A4 n4 c4, .slice A5 n5 c5], .int .i64 cd] w (MsgRes w (ansR ⟨x0, x1, x2, x3, h4, b5⟩ cd) (ansOk ⟨x0, x1, x2, x3, h4, b5⟩ cd)) := by
  obtain ⟨vm, hvm⟩ : ∃ vm, msgB ⟨x0, x1, x2, x3, h4, b5⟩ = vm := ⟨_, rfl⟩
  obtain ⟨vc, hvc⟩ : ∃ vc, (decide (100 ≤ cd) && decide (cd ≤ 699)) = vc := ⟨_, rfl⟩
  obtain ⟨ve, hve⟩ : ∃ ve, (x0.toList == []) = ve := ⟨_, rfl⟩
  obtain ⟨o, ho⟩ : ∃ o, ansOk ⟨x0, x1, x2, x3, h4, b5⟩ cd = o := ⟨_, rfl⟩
  obtain ⟨r, hr⟩ : ∃ r, ansR ⟨x0, x1, x2, x3, h4, b5⟩ cd = r := ⟨_, rfl⟩
  have hoo : o = (vm && !ve && vc) := by rw [← ho]; unfold ansOk; rw [hvm, hvc]; show (vm && !(x0.toList == []) && vc) = _; rw [hve]
  have hrr : r = if o = true then ansM ⟨x0, x1, x2, x3, h4, b5⟩ cd else zeroM := by rw [← hr, ← ho]; rfl
  rw [ho, hr]
  have hlen : vm = true → n4 ≤ 8 := by intro h; rw [hn4]; exact headsB_len (msgB_parts (hvm.trans h)).2.1
  have HLEN := Lib.hid hlen
  have HOO := Lib.hid hoo
  have HRR := Lib.hid hrr
  have hcv : ∀ W : World, Sees W W.heap.size 2 A4 n4 (flat headC h4) → Sees W W.heap.size 1 A5 n5 (flat strC b5) → Calls Try.prog 12 #[.agg #[.string x0, .string x1, .string x2, .int .i64 x3, .slice A4 n4 c4, .slice A5 n5 c5]] W fun e w' => e = .returned (.bool vm) ∧ Below W.heap.size W w' := fun W h1 h2 => by
    rw [← hvm]; exact imv_any x0 x1 x2 x3 A4 n4 c4 h4 A5 n5 c5 b5 W m0 m1 m2 hn4 hc4 hm4 hn5 hc5 hm5 h1 h2
  have HCV := Lib.hid hcv
  have hcc : ∀ W : World, Calls Try.prog 63 #[.int .i64 cd] W fun e w' => e = .returned (.bool vc) ∧ W = w' := fun W => by rw [← hvc]; exact icd_any cd W
  have HCC := Lib.hid hcc
  have HN4 := Lib.hid hn4
  have HR4 := Lib.hid hr4
  have HR5 := Lib.hid hr5
  have BX0 := Lib.hid ((Holds.new w 28 #[.string x0, .string x1, .string x2, .int .i64 x3, .slice A4 n4 c4, .slice A5 n5 c5]).alloc (.cells #[.string ⟨#[]⟩, .string ⟨#[]⟩, .string ⟨#[]⟩, .int .i64 0, .slice none 0 0, .slice none 0 0] 28))
  have BR0 := Lib.hid (Holds.new' (g := w.heap.size + 1) (w.alloc (.cells #[.string x0, .string x1, .string x2, .int .i64 x3, .slice A4 n4 c4, .slice A5 n5 c5] 28)) 28 #[.string ⟨#[]⟩, .string ⟨#[]⟩, .string ⟨#[]⟩, .int .i64 0, .slice none 0 0, .slice none 0 0] (by simp))
  have HB0 := Lib.hid (balloc (bnew w (.cells #[.string x0, .string x1, .string x2, .int .i64 x3, .slice A4 n4 c4, .slice A5 n5 c5] 28)) (.cells #[.string ⟨#[]⟩, .string ⟨#[]⟩, .string ⟨#[]⟩, .int .i64 0, .slice none 0 0, .slice none 0 0] 28))
  clear m0 m1 m2 hn4 hc4 hm4 hn5 hc5 hm5 hr4 hr5 hcv hvm hvc hcc ho hr hoo hrr hlen
  go_enter Try.func24, Try.ntmps24
  cases ve
  · go_wp2_with fail
    refine (HCV.out _ ((HR4.out.below HB0.out (Nat.le_refl _)).more HB0.out.size) ((HR5.out.below HB0.out (Nat.le_refl _)).more HB0.out.size)).mono ?_
    rintro e w1 ⟨rfl, hb1⟩
    have BX1 := Lib.hid (BX0.out.call hb1)
    have BR1 := Lib.hid (BR0.out.call hb1)
    have HB1 := Lib.hid (btrans HB0.out hb1)
    have hlw := BX1.out.lt
    have hy1 := hb1.size
    simp at hy1
    clear hb1
    cases vm
    · obtain ⟨r0, r1, r2, r3, r4, r5⟩ := six_cells BR1.out
      obtain ⟨k0, k1, k2, k3, k4, k5⟩ := six_free BR1.out
      go_wp2
      have hq := six_put BR1.out (.string ⟨#[]⟩) (.string ⟨#[]⟩) (.string ⟨#[]⟩) (.int .i64 0) (.slice none 0 0) (.slice none 0 0)
      obtain rfl : o = false := by rw [HOO.out]; simp
      obtain rfl : r = zeroM := by rw [HRR.out]; rfl
      refine bodyPost_ret (v := .tuple #[.agg #[.string ⟨#[]⟩, .string ⟨#[]⟩, .string ⟨#[]⟩, .int .i64 0, .slice none 0 0, .slice none 0 0], .bool false]) ?_ rfl ?_
      · simp [results, Try.results24, go_sem, hq.1, hq.2.1, hq.2.2.1, hq.2.2.2.1, hq.2.2.2.2.1, hq.2.2.2.2.2]
      · refine MsgRes.zero ?_
        iterate 6 (refine Below.setCell ?_ (by simp) _)
        exact HB1.out
    go_wp2_with fail
    refine (HCC.out _).mono ?_
    rintro e w' ⟨rfl, rfl⟩
    cases vc
    · obtain ⟨r0, r1, r2, r3, r4, r5⟩ := six_cells BR1.out
      obtain ⟨k0, k1, k2, k3, k4, k5⟩ := six_free BR1.out
      go_wp2
      have hq := six_put BR1.out (.string ⟨#[]⟩) (.string ⟨#[]⟩) (.string ⟨#[]⟩) (.int .i64 0) (.slice none 0 0) (.slice none 0 0)
      obtain rfl : o = false := by rw [HOO.out]; simp
      obtain rfl : r = zeroM := by rw [HRR.out]; rfl
      refine bodyPost_ret (v := .tuple #[.agg #[.string ⟨#[]⟩, .string ⟨#[]⟩, .string ⟨#[]⟩, .int .i64 0, .slice none 0 0, .slice none 0 0], .bool false]) ?_ rfl ?_
      · simp [results, Try.results24, go_sem, hq.1, hq.2.1, hq.2.2.1, hq.2.2.2.1, hq.2.2.2.2.1, hq.2.2.2.2.2]
      · refine MsgRes.zero ?_
        iterate 6 (refine Below.setCell ?_ (by simp) _)
        exact HB1.out
    have hn8 : n4 ≤ 8 := HLEN.out (by first | rfl | trivial)
    obtain ⟨q0, q1, q2, q3, q4, q5⟩ := six_cells BX1.out
    go_wp2_with fail
    refine (iha_any A4 n4 c4 h4 _ HN4.out (by omega) ((HR4.out.below HB1.out (Nat.le_refl _)).more HB1.out.size)).mono ?_
    rintro e w2 ⟨Ah, ch, rfl, hown2, hb2⟩
    have BR2 := Lib.hid (BR1.out.call hb2)
    have HB2 := Lib.hid (btrans HB1.out hb2)
    have HO2 := Lib.hid hown2
    have hlr := BR1.out.lt
    clear hb2 hown2 q0 q1 q2 q3 q4 q5
    obtain ⟨fl, hfl⟩ : ∃ fl, h4.filter viaB = fl := ⟨_, rfl⟩
    rw [hfl] at HO2
    rw [hfl]
    have HFL := Lib.hid hfl
    clear hfl
    obtain ⟨r0, r1, r2, r3, r4, r5⟩ := six_cells BR2.out
    obtain ⟨k0, k1, k2, k3, k4, k5⟩ := six_free BR2.out
    go_wp2
    obtain rfl : o = true := by rw [HOO.out]; simp
    obtain rfl : r = ⟨⟨#[]⟩, ⟨#[]⟩, ⟨#[]⟩, cd, fl, []⟩ := by rw [HRR.out, if_pos (by first | rfl | trivial)]; unfold ansM; rw [← HFL.out]
    have hq := six_put BR2.out (.string ⟨#[]⟩) (.string ⟨#[]⟩) (.string ⟨#[]⟩) (.int .i64 cd) (.slice Ah fl.length ch) (.slice none 0 0)
    refine bodyPost_ret (v := .tuple #[.agg #[.string ⟨#[]⟩, .string ⟨#[]⟩, .string ⟨#[]⟩, .int .i64 cd, .slice Ah fl.length ch, .slice none 0 0], .bool true]) ?_ rfl ?_
    · simp [results, Try.results24, go_sem, hq.1, hq.2.1, hq.2.2.1, hq.2.2.2.1, hq.2.2.2.2.1, hq.2.2.2.2.2]
    · refine ⟨Ah, ch, none, 0, rfl, ?_, ⟨rfl, .inl ⟨rfl, rfl⟩⟩, fun j _ h2 => by simp [Value.ownBlock] at h2, ?_⟩
      · show World.ownsRow _ w.heap.size 43 2 (.slice Ah fl.length ch) fl.length (flat headC fl)
        iterate 6 (refine own_far ?_ (fun j hj => by have := (HO2.out.lt j hj).1; simp; omega) _)
        exact own_more HO2.out (by omega)
      · iterate 6 (refine Below.setCell ?_ (by simp) _)
        exact HB2.out
  · go_wp2
    obtain rfl : o = false := by rw [HOO.out]; simp
    obtain rfl : r = zeroM := by rw [HRR.out]; rfl
    refine bodyPost_ret (v := .tuple #[.agg #[.string ⟨#[]⟩, .string ⟨#[]⟩, .string ⟨#[]⟩, .int .i64 0, .slice none 0 0, .slice none 0 0], .bool false]) ?_ rfl ?_
    · simp [results, Try.results24, go_sem]
    · exact MsgRes.zero HB0.out
end Go.Proofs.Ytfkhnfbmpjgjgaa
