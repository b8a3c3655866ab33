/- The walks of the exact laws of chapter 3. -/
import Derived.Test.YtnhbhopiioclmaaIHeads
namespace Go.Proofs.Ytnhbhopiioclmaa
open Go.RowKit
set_option linter.unusedVariables false

theorem own_sep {v x : Value} {a b c d : Nat} (hv : ∀ k, v.ownBlock = some k → a ≤ k ∧ k < b) (hx : ∀ k, x.ownBlock = some k → c ≤ k ∧ k < d) (h : b ≤ c ∨ d ≤ a) : v.ownBlock = none ∨ v.ownBlock ≠ x.ownBlock := by
  cases hb : v.ownBlock with
  | none => exact .inl rfl
  | some k =>
    refine .inr fun e => ?_
    have h1 := hv k hb
    have h2 := hx k e.symm
    omega
theorem lines_few (hs : List HeadM) : (linesOf hs).length ≤ 8 := by
  unfold linesOf
  by_cases hv : headsB hs = true
  · rw [if_pos hv, List.length_map]; exact headsB_len hv
  · rw [if_neg hv]; exact Nat.zero_le _
theorem read_few (ls : List ByteArray) : (readR ls).length ≤ 8 := by
  unfold readR
  by_cases hv : readB ls = true
  · rw [if_pos hv]
    unfold readB at hv
    rw [Bool.and_eq_true] at hv
    exact headsB_len hv.2
  · rw [if_neg hv]; exact Nat.zero_le _
theorem set_few (hs : List HeadM) (nm ln : ByteArray) : (setN hs nm ln).length ≤ 8 := by
  unfold setN
  by_cases hv : headsB hs = true
  · rw [if_pos hv]
    by_cases h2 : headsB (setH hs nm ln) = true
    · rw [if_pos h2]; exact headsB_len h2
    · rw [if_neg h2]; exact headsB_len hv
  · rw [if_neg hv]; exact Nat.zero_le _
/-- The first line with a name, and whether there is one. -/
def fLine (o : Option HeadM) : ByteArray := match o with | some p => p.x1 | none => ⟨#[]⟩
def fThere (o : Option HeadM) : Bool := o.isSome
theorem firstV_two (o : Option HeadM) : firstV o = .tuple #[.string (fLine o), .bool (fThere o)] := by cases o <;> rfl
theorem sfh_two (A : Option Addr) (n c : Nat) (hs : List HeadM) (nm : ByteArray) (w : World) (hn : n = hs.length) (hc : n ≤ maxLen) (hr : Sees w w.heap.size 2 A n (flat headC hs)) (hm : headMax hs) :
    Calls Try.prog 27 #[.slice A n c, .string nm] w fun e w' => e = .returned (.tuple #[.string (fLine (firstH hs nm)), .bool (fThere (firstH hs nm))]) ∧ w = w' := by
  rw [← firstV_two]
  exact sfh_any A n c hs nm w hn hc hr hm
theorem ifh_two (A : Option Addr) (n c : Nat) (hs : List HeadM) (nm : ByteArray) (w : World) (hn : n = hs.length) (hc : n ≤ maxLen) (hr : Sees w w.heap.size 2 A n (flat headC hs)) (hm : headMax hs) :
    Calls Try.prog 26 #[.slice A n c, .string nm] w fun e w' => e = .returned (.tuple #[.string (fLine (firstH hs nm)), .bool (fThere (firstH hs nm))]) ∧ Below w.heap.size w w' := by
  rw [← firstV_two]
  exact ifh_any A n c hs nm w hn hc hr hm

set_option maxHeartbeats 4000000 in
theorem walk_FnExactHeadsValid (A0 : Option Addr) (n0 c0 : Nat) (hs0 : List HeadM) (hn0 : n0 = hs0.length) (hc0 : n0 ≤ maxLen) (hm0 : headMax hs0) (w : World) (hr0 : Sees w w.heap.size 2 A0 n0 (flat headC hs0)) :
    Calls Try.prog 8 #[.slice A0 n0 c0] w fun e w' => e = .returned (.bool true) ∧ Below w.heap.size w w' := by
  have HN0q := Lib.hid hn0
  have HC0q := Lib.hid hc0
  have HM0q := Lib.hid hm0
  have HR0q := Lib.hid hr0
  clear hn0 hc0 hm0 hr0
  go_enter Try.func8, Try.ntmps8
  go_wp2_with fail
  refine (szHeadS_any A0 n0 c0 hs0 1048576 _ HN0q.out HC0q.out (by omega) (by omega) HR0q.out HM0q.out).mono ?_
  rintro e w1 ⟨v0, rfl, hv0, hb1⟩
  have hz1 := hb1.size
  have HB1 := Lib.hid (hb1)
  clear hb1
  by_cases hneg0 : v0 < 0
  · clear hv0
    go_wp2
    go_ret
    exact ⟨rfl, HB1.out⟩
  obtain ⟨hv0a, hv0b, hv0c⟩ := hv0.resolve_left hneg0
  have OK0 := Lib.hid hv0c
  have hlen0 : n0 ≤ 1048576 := by have := hv0c.1; have := HN0q.out; omega
  clear hv0 hv0c
  go_wp2_with fail
  refine (toHeadS_any A0 n0 c0 hs0 _ HN0q.out (by omega) ((HR0q.out.below HB1.out (Nat.le_refl _)).more HB1.out.size)).mono ?_
  rintro e w2 ⟨rfl, hown2, hb2⟩
  have hz2 := hb2.size
  have HB2 := Lib.hid (btrans HB1.out hb2)
  have HOt02 := Lib.hid hown2
  have LOt0 := Lib.hid hown2.lt
  clear hb2 hown2
  clear HB1
  go_wp2_with fail
  refine (shv_any (some ⟨w1.heap.size, 0, none⟩) n0 n0 hs0 _ HN0q.out (by unfold maxLen; omega) (Sees.of_own HOt02.out) HM0q.out).mono ?_
  rintro e w3 ⟨rfl, rfl⟩
  go_wp2_with fail
  refine (toHeadS_any A0 n0 c0 hs0 _ HN0q.out (by omega) ((HR0q.out.below HB2.out (Nat.le_refl _)).more HB2.out.size)).mono ?_
  rintro e w3 ⟨rfl, hown3, hb3⟩
  have hz3 := hb3.size
  have HB3 := Lib.hid (btrans HB2.out hb3)
  have HOt03 := Lib.hid (own_call HOt02.out hb3)
  have HOx03 := Lib.hid hown3
  have LOx0 := Lib.hid hown3.lt
  clear hb3 hown3
  clear HB2 HOt02
  go_wp2_with fail
  refine (ihv_any (some ⟨w2.heap.size, 0, none⟩) n0 n0 hs0 _ HN0q.out (by unfold maxLen; omega) (Sees.of_own HOx03.out) HM0q.out).mono ?_
  rintro e w4 ⟨rfl, hb4⟩
  have hz4 := hb4.size
  have HB4 := Lib.hid (btrans HB3.out hb4)
  have HOt04 := Lib.hid (own_call HOt03.out hb4)
  have HOx04 := Lib.hid (own_call HOx03.out hb4)
  clear hb4
  clear HB3 HOt03 HOx03
  go_wp2_with fail
  refine (toHeadS_any A0 n0 c0 hs0 _ HN0q.out (by omega) ((HR0q.out.below HB4.out (Nat.le_refl _)).more HB4.out.size)).mono ?_
  rintro e w5 ⟨rfl, hown5, hb5⟩
  have hz5 := hb5.size
  have HB5 := Lib.hid (btrans HB4.out hb5)
  have HOt05 := Lib.hid (own_call HOt04.out hb5)
  have HOx05 := Lib.hid (own_call HOx04.out hb5)
  have HOy05 := Lib.hid hown5
  have LOy0 := Lib.hid hown5.lt
  clear hb5 hown5
  clear HB4 HOt04 HOx04
  go_wp2_with fail
  refine (eqHeadS_same (some ⟨w2.heap.size, 0, none⟩) (some ⟨w4.heap.size, 0, none⟩) n0 n0 n0 hs0 _ HN0q.out (by unfold maxLen; omega) (Sees.of_own HOx05.out) (Sees.of_own HOy05.out)).mono ?_
  rintro e w6 ⟨rfl, hb6⟩
  have hz6 := hb6.size
  have HB6 := Lib.hid (btrans HB5.out hb6)
  have HOt06 := Lib.hid (own_call HOt05.out hb6)
  have HOx06 := Lib.hid (own_call HOx05.out hb6)
  have HOy06 := Lib.hid (own_call HOy05.out hb6)
  clear hb6
  clear HB5 HOt05 HOx05 HOy05
  go_wp2
  go_ret
  exact ⟨rfl, HB6.out⟩

set_option maxHeartbeats 4000000 in
theorem walk_FnExactHeadLines (A0 : Option Addr) (n0 c0 : Nat) (hs0 : List HeadM) (hn0 : n0 = hs0.length) (hc0 : n0 ≤ maxLen) (hm0 : headMax hs0) (w : World) (hr0 : Sees w w.heap.size 2 A0 n0 (flat headC hs0)) :
    Calls Try.prog 9 #[.slice A0 n0 c0] w fun e w' => e = .returned (.bool true) ∧ Below w.heap.size w w' := by
  have HN0q := Lib.hid hn0
  have HC0q := Lib.hid hc0
  have HM0q := Lib.hid hm0
  have HR0q := Lib.hid hr0
  clear hn0 hc0 hm0 hr0
  go_enter Try.func9, Try.ntmps9
  go_wp2_with fail
  refine (szHeadS_any A0 n0 c0 hs0 1048576 _ HN0q.out HC0q.out (by omega) (by omega) HR0q.out HM0q.out).mono ?_
  rintro e w1 ⟨v0, rfl, hv0, hb1⟩
  have hz1 := hb1.size
  have HB1 := Lib.hid (hb1)
  clear hb1
  by_cases hneg0 : v0 < 0
  · clear hv0
    go_wp2
    go_ret
    exact ⟨rfl, HB1.out⟩
  obtain ⟨hv0a, hv0b, hv0c⟩ := hv0.resolve_left hneg0
  have OK0 := Lib.hid hv0c
  have hlen0 : n0 ≤ 1048576 := by have := hv0c.1; have := HN0q.out; omega
  clear hv0 hv0c
  go_wp2_with fail
  refine (toHeadS_any A0 n0 c0 hs0 _ HN0q.out (by omega) ((HR0q.out.below HB1.out (Nat.le_refl _)).more HB1.out.size)).mono ?_
  rintro e w2 ⟨rfl, hown2, hb2⟩
  have hz2 := hb2.size
  have HB2 := Lib.hid (btrans HB1.out hb2)
  have HOt02 := Lib.hid hown2
  have LOt0 := Lib.hid hown2.lt
  clear hb2 hown2
  clear HB1
  go_wp2_with fail
  refine (shl_any (some ⟨w1.heap.size, 0, none⟩) n0 n0 hs0 _ HN0q.out (by unfold maxLen; omega) (Sees.of_own HOt02.out) HM0q.out).mono ?_
  rintro e w3 ⟨Aw0, cw0, rfl, hown3, hb3⟩
  have hz3 := hb3.size
  have HB3 := Lib.hid (btrans HB2.out hb3)
  have HOt03 := Lib.hid (own_call HOt02.out hb3)
  have HOw03 := Lib.hid hown3
  have LOw0 := Lib.hid hown3.lt
  clear hb3 hown3
  clear HB2 HOt02
  go_wp2_with fail
  refine (toHeadS_any A0 n0 c0 hs0 _ HN0q.out (by omega) ((HR0q.out.below HB3.out (Nat.le_refl _)).more HB3.out.size)).mono ?_
  rintro e w4 ⟨rfl, hown4, hb4⟩
  have hz4 := hb4.size
  have HB4 := Lib.hid (btrans HB3.out hb4)
  have HOt04 := Lib.hid (own_call HOt03.out hb4)
  have HOw04 := Lib.hid (own_call HOw03.out hb4)
  have HOx04 := Lib.hid hown4
  have LOx0 := Lib.hid hown4.lt
  clear hb4 hown4
  clear HB3 HOt03 HOw03
  go_wp2_with fail
  refine (ihl_any (some ⟨w3.heap.size, 0, none⟩) n0 n0 hs0 _ HN0q.out (by unfold maxLen; omega) (Sees.of_own HOx04.out) HM0q.out).mono ?_
  rintro e w5 ⟨Ag0, cg0, rfl, hown5, hb5⟩
  have hz5 := hb5.size
  have HB5 := Lib.hid (btrans HB4.out hb5)
  have HOt05 := Lib.hid (own_call HOt04.out hb5)
  have HOw05 := Lib.hid (own_call HOw04.out hb5)
  have HOx05 := Lib.hid (own_call HOx04.out hb5)
  have HOg05 := Lib.hid hown5
  have LOg0 := Lib.hid hown5.lt
  clear hb5 hown5
  clear HB4 HOt04 HOw04 HOx04
  go_wp2_with fail
  refine (eqs_same Ag0 Aw0 (linesOf hs0).length cg0 cw0 (linesOf hs0) _ rfl (by have := (lines_few hs0); unfold maxLen; omega) (Sees.of_own HOg05.out) (Sees.of_own HOw05.out)).mono ?_
  rintro e w6 ⟨rfl, hb6⟩
  have hz6 := hb6.size
  have HB6 := Lib.hid (btrans HB5.out hb6)
  have HOt06 := Lib.hid (own_call HOt05.out hb6)
  have HOw06 := Lib.hid (own_call HOw05.out hb6)
  have HOx06 := Lib.hid (own_call HOx05.out hb6)
  have HOg06 := Lib.hid (own_call HOg05.out hb6)
  clear hb6
  clear HB5 HOt05 HOw05 HOx05 HOg05
  go_wp2_with fail
  refine (toHeadS_any A0 n0 c0 hs0 _ HN0q.out (by omega) ((HR0q.out.below HB6.out (Nat.le_refl _)).more HB6.out.size)).mono ?_
  rintro e w7 ⟨rfl, hown7, hb7⟩
  have hz7 := hb7.size
  have HB7 := Lib.hid (btrans HB6.out hb7)
  have HOt07 := Lib.hid (own_call HOt06.out hb7)
  have HOw07 := Lib.hid (own_call HOw06.out hb7)
  have HOx07 := Lib.hid (own_call HOx06.out hb7)
  have HOg07 := Lib.hid (own_call HOg06.out hb7)
  have HOy07 := Lib.hid hown7
  have LOy0 := Lib.hid hown7.lt
  clear hb7 hown7
  clear HB6 HOt06 HOw06 HOx06 HOg06
  go_wp2_with fail
  refine (eqHeadS_same (some ⟨w3.heap.size, 0, none⟩) (some ⟨w6.heap.size, 0, none⟩) n0 n0 n0 hs0 _ HN0q.out (by unfold maxLen; omega) (Sees.of_own HOx07.out) (Sees.of_own HOy07.out)).mono ?_
  rintro e w8 ⟨rfl, hb8⟩
  have hz8 := hb8.size
  have HB8 := Lib.hid (btrans HB7.out hb8)
  have HOt08 := Lib.hid (own_call HOt07.out hb8)
  have HOw08 := Lib.hid (own_call HOw07.out hb8)
  have HOx08 := Lib.hid (own_call HOx07.out hb8)
  have HOg08 := Lib.hid (own_call HOg07.out hb8)
  have HOy08 := Lib.hid (own_call HOy07.out hb8)
  clear hb8
  clear HB7 HOt07 HOw07 HOx07 HOg07 HOy07
  go_wp2_with fail
  refine (markHeadS_any (some ⟨w3.heap.size, 0, none⟩) n0 n0 _ 1 _ _ (by omega) (by omega) (by omega) HOx08.out).mono ?_
  rintro e w9 ⟨rfl, hown9, hg9⟩
  have hz9 := hg9.size
  have HB9 := Lib.hid (HB8.out.grown hg9 HB8.out.size (fun k hk => by have := LOx0.out k hk; omega))
  have HOt09 := Lib.hid (HOt08.out.kept hg9 (own_sep LOt0.out LOx0.out (by omega)))
  have HOw09 := Lib.hid (HOw08.out.kept hg9 (own_sep LOw0.out LOx0.out (by omega)))
  have HOg09 := Lib.hid (HOg08.out.kept hg9 (own_sep LOg0.out LOx0.out (by omega)))
  have HOy09 := Lib.hid (HOy08.out.kept hg9 (own_sep LOy0.out LOx0.out (by omega)))
  have HOx09 := Lib.hid hown9
  clear hg9 hown9
  clear HB8 HOt08 HOw08 HOx08 HOg08 HOy08
  go_wp2_with fail
  refine (eqs_same Ag0 Aw0 (linesOf hs0).length cg0 cw0 (linesOf hs0) _ rfl (by have := (lines_few hs0); unfold maxLen; omega) (Sees.of_own HOg09.out) (Sees.of_own HOw09.out)).mono ?_
  rintro e w10 ⟨rfl, hb10⟩
  have hz10 := hb10.size
  have HB10 := Lib.hid (btrans HB9.out hb10)
  have HOt010 := Lib.hid (own_call HOt09.out hb10)
  have HOw010 := Lib.hid (own_call HOw09.out hb10)
  have HOx010 := Lib.hid (own_call HOx09.out hb10)
  have HOg010 := Lib.hid (own_call HOg09.out hb10)
  have HOy010 := Lib.hid (own_call HOy09.out hb10)
  clear hb10
  clear HB9 HOt09 HOw09 HOx09 HOg09 HOy09
  go_wp2_with fail
  refine (marks_any Ag0 (linesOf hs0).length cg0 _ 1 _ _ (by have := (lines_few hs0); omega) (by omega) (by omega) HOg010.out).mono ?_
  rintro e w11 ⟨rfl, hown11, hg11⟩
  have hz11 := hg11.size
  have HB11 := Lib.hid (HB10.out.grown hg11 HB10.out.size (fun k hk => by have := LOg0.out k hk; omega))
  have HOt011 := Lib.hid (HOt010.out.kept hg11 (own_sep LOt0.out LOg0.out (by omega)))
  have HOw011 := Lib.hid (HOw010.out.kept hg11 (own_sep LOw0.out LOg0.out (by omega)))
  have HOx011 := Lib.hid (HOx010.out.kept hg11 (own_sep LOx0.out LOg0.out (by omega)))
  have HOy011 := Lib.hid (HOy010.out.kept hg11 (own_sep LOy0.out LOg0.out (by omega)))
  have HOg011 := Lib.hid hown11
  clear hg11 hown11
  clear HB10 HOt010 HOw010 HOx010 HOg010 HOy010
  go_wp2_with fail
  refine (helds_any Ag0 (linesOf hs0).length cg0 1 _ (by have := (lines_few hs0); omega) (by omega) (by omega) (Sees.of_own HOg011.out)).mono ?_
  rintro e w12 ⟨rfl, hb12⟩
  have hz12 := hb12.size
  have HB12 := Lib.hid (btrans HB11.out hb12)
  have HOt012 := Lib.hid (own_call HOt011.out hb12)
  have HOw012 := Lib.hid (own_call HOw011.out hb12)
  have HOx012 := Lib.hid (own_call HOx011.out hb12)
  have HOg012 := Lib.hid (own_call HOg011.out hb12)
  have HOy012 := Lib.hid (own_call HOy011.out hb12)
  clear hb12
  clear HB11 HOt011 HOw011 HOx011 HOg011 HOy011
  go_wp2_with fail
  refine (toHeadS_any A0 n0 c0 hs0 _ HN0q.out (by omega) ((HR0q.out.below HB12.out (Nat.le_refl _)).more HB12.out.size)).mono ?_
  rintro e w13 ⟨rfl, hown13, hb13⟩
  have hz13 := hb13.size
  have HB13 := Lib.hid (btrans HB12.out hb13)
  have HOt013 := Lib.hid (own_call HOt012.out hb13)
  have HOw013 := Lib.hid (own_call HOw012.out hb13)
  have HOx013 := Lib.hid (own_call HOx012.out hb13)
  have HOg013 := Lib.hid (own_call HOg012.out hb13)
  have HOy013 := Lib.hid (own_call HOy012.out hb13)
  have HOz013 := Lib.hid hown13
  have LOz0 := Lib.hid hown13.lt
  clear hb13 hown13
  clear HB12 HOt012 HOw012 HOx012 HOg012 HOy012
  go_wp2_with fail
  refine (ihl_any (some ⟨w12.heap.size, 0, none⟩) n0 n0 hs0 _ HN0q.out (by unfold maxLen; omega) (Sees.of_own HOz013.out) HM0q.out).mono ?_
  rintro e w14 ⟨Ah0, ch0, rfl, hown14, hb14⟩
  have hz14 := hb14.size
  have HB14 := Lib.hid (btrans HB13.out hb14)
  have HOt014 := Lib.hid (own_call HOt013.out hb14)
  have HOw014 := Lib.hid (own_call HOw013.out hb14)
  have HOx014 := Lib.hid (own_call HOx013.out hb14)
  have HOg014 := Lib.hid (own_call HOg013.out hb14)
  have HOy014 := Lib.hid (own_call HOy013.out hb14)
  have HOz014 := Lib.hid (own_call HOz013.out hb14)
  have HOh014 := Lib.hid hown14
  have LOh0 := Lib.hid hown14.lt
  clear hb14 hown14
  clear HB13 HOt013 HOw013 HOx013 HOg013 HOy013 HOz013
  go_wp2_with fail
  refine (eqs_same Ah0 Aw0 (linesOf hs0).length ch0 cw0 (linesOf hs0) _ rfl (by have := (lines_few hs0); unfold maxLen; omega) (Sees.of_own HOh014.out) (Sees.of_own HOw014.out)).mono ?_
  rintro e w15 ⟨rfl, hb15⟩
  have hz15 := hb15.size
  have HB15 := Lib.hid (btrans HB14.out hb15)
  have HOt015 := Lib.hid (own_call HOt014.out hb15)
  have HOw015 := Lib.hid (own_call HOw014.out hb15)
  have HOx015 := Lib.hid (own_call HOx014.out hb15)
  have HOg015 := Lib.hid (own_call HOg014.out hb15)
  have HOy015 := Lib.hid (own_call HOy014.out hb15)
  have HOz015 := Lib.hid (own_call HOz014.out hb15)
  have HOh015 := Lib.hid (own_call HOh014.out hb15)
  clear hb15
  clear HB14 HOt014 HOw014 HOx014 HOg014 HOy014 HOz014 HOh014
  go_wp2_with fail
  refine (helds_any Ag0 (linesOf hs0).length cg0 1 _ (by have := (lines_few hs0); omega) (by omega) (by omega) (Sees.of_own HOg015.out)).mono ?_
  rintro e w16 ⟨rfl, hb16⟩
  have hz16 := hb16.size
  have HB16 := Lib.hid (btrans HB15.out hb16)
  have HOt016 := Lib.hid (own_call HOt015.out hb16)
  have HOw016 := Lib.hid (own_call HOw015.out hb16)
  have HOx016 := Lib.hid (own_call HOx015.out hb16)
  have HOg016 := Lib.hid (own_call HOg015.out hb16)
  have HOy016 := Lib.hid (own_call HOy015.out hb16)
  have HOz016 := Lib.hid (own_call HOz015.out hb16)
  have HOh016 := Lib.hid (own_call HOh015.out hb16)
  clear hb16
  clear HB15 HOt015 HOw015 HOx015 HOg015 HOy015 HOz015 HOh015
  go_wp2
  go_ret
  exact ⟨rfl, HB16.out⟩

set_option maxHeartbeats 4000000 in
theorem walk_FnExactFirstHead (A0 : Option Addr) (n0 c0 : Nat) (hs0 : List HeadM) (hn0 : n0 = hs0.length) (hc0 : n0 ≤ maxLen) (hm0 : headMax hs0) (s1 : ByteArray) (ws1 : s1.size ≤ maxLen) (w : World) (hr0 : Sees w w.heap.size 2 A0 n0 (flat headC hs0)) :
    Calls Try.prog 11 #[.slice A0 n0 c0, .string s1] w fun e w' => e = .returned (.bool true) ∧ Below w.heap.size w w' := by
  have HN0q := Lib.hid hn0
  have HC0q := Lib.hid hc0
  have HM0q := Lib.hid hm0
  have HR0q := Lib.hid hr0
  have WS1q := Lib.hid ws1
  clear hn0 hc0 hm0 hr0 ws1
  by_cases hbig1 : (1048576 : Int) < s1.size
  · go_enter Try.func11, Try.ntmps11
    go_wp2
    go_ret
    exact ⟨rfl, Below.refl _ _⟩
  go_enter Try.func11, Try.ntmps11
  go_wp2_with fail
  refine (szHeadS_any A0 n0 c0 hs0 1048576 _ HN0q.out HC0q.out (by omega) (by omega) HR0q.out HM0q.out).mono ?_
  rintro e w1 ⟨v0, rfl, hv0, hb1⟩
  have hz1 := hb1.size
  have HB1 := Lib.hid (hb1)
  clear hb1
  by_cases hneg0 : v0 < 0
  · clear hv0
    go_wp2
    go_ret
    exact ⟨rfl, HB1.out⟩
  obtain ⟨hv0a, hv0b, hv0c⟩ := hv0.resolve_left hneg0
  have OK0 := Lib.hid hv0c
  have hlen0 : n0 ≤ 1048576 := by have := hv0c.1; have := HN0q.out; omega
  clear hv0 hv0c
  go_wp2_with fail
  refine (toHeadS_any A0 n0 c0 hs0 _ HN0q.out (by omega) ((HR0q.out.below HB1.out (Nat.le_refl _)).more HB1.out.size)).mono ?_
  rintro e w2 ⟨rfl, hown2, hb2⟩
  have hz2 := hb2.size
  have HB2 := Lib.hid (btrans HB1.out hb2)
  have HOt02 := Lib.hid hown2
  have LOt0 := Lib.hid hown2.lt
  clear hb2 hown2
  clear HB1
  go_wp2_with fail
  refine (sfh_two (some ⟨w1.heap.size, 0, none⟩) n0 n0 hs0 s1 _ HN0q.out (by unfold maxLen; omega) (Sees.of_own HOt02.out) HM0q.out).mono ?_
  rintro e w3 ⟨rfl, rfl⟩
  go_wp2_with fail
  refine (toHeadS_any A0 n0 c0 hs0 _ HN0q.out (by omega) ((HR0q.out.below HB2.out (Nat.le_refl _)).more HB2.out.size)).mono ?_
  rintro e w3 ⟨rfl, hown3, hb3⟩
  have hz3 := hb3.size
  have HB3 := Lib.hid (btrans HB2.out hb3)
  have HOt03 := Lib.hid (own_call HOt02.out hb3)
  have HOx03 := Lib.hid hown3
  have LOx0 := Lib.hid hown3.lt
  clear hb3 hown3
  clear HB2 HOt02
  go_wp2_with fail
  refine (ifh_two (some ⟨w2.heap.size, 0, none⟩) n0 n0 hs0 s1 _ HN0q.out (by unfold maxLen; omega) (Sees.of_own HOx03.out) HM0q.out).mono ?_
  rintro e w4 ⟨rfl, hb4⟩
  have hz4 := hb4.size
  have HB4 := Lib.hid (btrans HB3.out hb4)
  have HOt04 := Lib.hid (own_call HOt03.out hb4)
  have HOx04 := Lib.hid (own_call HOx03.out hb4)
  clear hb4
  clear HB3 HOt03 HOx03
  go_wp2_with fail
  refine (toHeadS_any A0 n0 c0 hs0 _ HN0q.out (by omega) ((HR0q.out.below HB4.out (Nat.le_refl _)).more HB4.out.size)).mono ?_
  rintro e w5 ⟨rfl, hown5, hb5⟩
  have hz5 := hb5.size
  have HB5 := Lib.hid (btrans HB4.out hb5)
  have HOt05 := Lib.hid (own_call HOt04.out hb5)
  have HOx05 := Lib.hid (own_call HOx04.out hb5)
  have HOy05 := Lib.hid hown5
  have LOy0 := Lib.hid hown5.lt
  clear hb5 hown5
  clear HB4 HOt04 HOx04
  go_wp2_with fail
  refine (eqHeadS_same (some ⟨w2.heap.size, 0, none⟩) (some ⟨w4.heap.size, 0, none⟩) n0 n0 n0 hs0 _ HN0q.out (by unfold maxLen; omega) (Sees.of_own HOx05.out) (Sees.of_own HOy05.out)).mono ?_
  rintro e w6 ⟨rfl, hb6⟩
  have hz6 := hb6.size
  have HB6 := Lib.hid (btrans HB5.out hb6)
  have HOt06 := Lib.hid (own_call HOt05.out hb6)
  have HOx06 := Lib.hid (own_call HOx05.out hb6)
  have HOy06 := Lib.hid (own_call HOy05.out hb6)
  clear hb6
  clear HB5 HOt05 HOx05 HOy05
  go_wp2
  go_ret
  exact ⟨rfl, HB6.out⟩

set_option maxHeartbeats 4000000 in
theorem walk_FnExactReadHeads (A0 : Option Addr) (n0 c0 : Nat) (hs0 : List ByteArray) (hn0 : n0 = hs0.length) (hc0 : n0 ≤ maxLen) (hm0 : strsMax hs0) (w : World) (hr0 : Sees w w.heap.size 1 A0 n0 (flat strC hs0)) :
    Calls Try.prog 10 #[.slice A0 n0 c0] w fun e w' => e = .returned (.bool true) ∧ Below w.heap.size w w' := by
  have HN0q := Lib.hid hn0
  have HC0q := Lib.hid hc0
  have HM0q := Lib.hid hm0
  have HR0q := Lib.hid hr0
  clear hn0 hc0 hm0 hr0
  go_enter Try.func10, Try.ntmps10
  go_wp2_with fail
  refine (szs_any A0 n0 c0 hs0 1048576 _ HN0q.out HC0q.out (by omega) (by omega) HR0q.out HM0q.out).mono ?_
  rintro e w1 ⟨v0, rfl, hv0, hb1⟩
  have hz1 := hb1.size
  have HB1 := Lib.hid (hb1)
  clear hb1
  by_cases hneg0 : v0 < 0
  · clear hv0
    go_wp2
    go_ret
    exact ⟨rfl, HB1.out⟩
  obtain ⟨hv0a, hv0b, hv0c⟩ := hv0.resolve_left hneg0
  have OK0 := Lib.hid hv0c
  have hlen0 : n0 ≤ 1048576 := by have := hv0c.1; have := HN0q.out; omega
  clear hv0 hv0c
  go_wp2_with fail
  refine (tos_any A0 n0 c0 hs0 _ HN0q.out (by omega) ((HR0q.out.below HB1.out (Nat.le_refl _)).more HB1.out.size)).mono ?_
  rintro e w2 ⟨rfl, hown2, hb2⟩
  have hz2 := hb2.size
  have HB2 := Lib.hid (btrans HB1.out hb2)
  have HOt02 := Lib.hid hown2
  have LOt0 := Lib.hid hown2.lt
  clear hb2 hown2
  clear HB1
  go_wp2_with fail
  refine (srd_any (some ⟨w1.heap.size, 0, none⟩) n0 n0 hs0 _ HN0q.out (by unfold maxLen; omega) (Sees.of_own HOt02.out) (fun s hs => by have := OK0.out.2 s hs; omega) _ _ rfl rfl).mono ?_
  rintro e w3 ⟨Aw0, cw0, rfl, hown3, hb3⟩
  have hz3 := hb3.size
  have HB3 := Lib.hid (btrans HB2.out hb3)
  have HOt03 := Lib.hid (own_call HOt02.out hb3)
  have HOw03 := Lib.hid hown3
  have LOw0 := Lib.hid hown3.lt
  clear hb3 hown3
  clear HB2 HOt02
  go_wp2_with fail
  refine (tos_any A0 n0 c0 hs0 _ HN0q.out (by omega) ((HR0q.out.below HB3.out (Nat.le_refl _)).more HB3.out.size)).mono ?_
  rintro e w4 ⟨rfl, hown4, hb4⟩
  have hz4 := hb4.size
  have HB4 := Lib.hid (btrans HB3.out hb4)
  have HOt04 := Lib.hid (own_call HOt03.out hb4)
  have HOw04 := Lib.hid (own_call HOw03.out hb4)
  have HOx04 := Lib.hid hown4
  have LOx0 := Lib.hid hown4.lt
  clear hb4 hown4
  clear HB3 HOt03 HOw03
  go_wp2_with fail
  refine (ird_any (some ⟨w3.heap.size, 0, none⟩) n0 n0 hs0 _ HN0q.out (by unfold maxLen; omega) (Sees.of_own HOx04.out) (fun s hs => by have := OK0.out.2 s hs; omega) _ _ rfl rfl).mono ?_
  rintro e w5 ⟨Ag0, cg0, rfl, hown5, hb5⟩
  have hz5 := hb5.size
  have HB5 := Lib.hid (btrans HB4.out hb5)
  have HOt05 := Lib.hid (own_call HOt04.out hb5)
  have HOw05 := Lib.hid (own_call HOw04.out hb5)
  have HOx05 := Lib.hid (own_call HOx04.out hb5)
  have HOg05 := Lib.hid hown5
  have LOg0 := Lib.hid hown5.lt
  clear hb5 hown5
  clear HB4 HOt04 HOw04 HOx04
  go_wp2_with fail
  refine (eqHeadS_same Ag0 Aw0 (readR hs0).length cg0 cw0 (readR hs0) _ rfl (by have := (read_few hs0); unfold maxLen; omega) (Sees.of_own HOg05.out) (Sees.of_own HOw05.out)).mono ?_
  rintro e w6 ⟨rfl, hb6⟩
  have hz6 := hb6.size
  have HB6 := Lib.hid (btrans HB5.out hb6)
  have HOt06 := Lib.hid (own_call HOt05.out hb6)
  have HOw06 := Lib.hid (own_call HOw05.out hb6)
  have HOx06 := Lib.hid (own_call HOx05.out hb6)
  have HOg06 := Lib.hid (own_call HOg05.out hb6)
  clear hb6
  clear HB5 HOt05 HOw05 HOx05 HOg05
  go_wp2_with fail
  refine (tos_any A0 n0 c0 hs0 _ HN0q.out (by omega) ((HR0q.out.below HB6.out (Nat.le_refl _)).more HB6.out.size)).mono ?_
  rintro e w7 ⟨rfl, hown7, hb7⟩
  have hz7 := hb7.size
  have HB7 := Lib.hid (btrans HB6.out hb7)
  have HOt07 := Lib.hid (own_call HOt06.out hb7)
  have HOw07 := Lib.hid (own_call HOw06.out hb7)
  have HOx07 := Lib.hid (own_call HOx06.out hb7)
  have HOg07 := Lib.hid (own_call HOg06.out hb7)
  have HOy07 := Lib.hid hown7
  have LOy0 := Lib.hid hown7.lt
  clear hb7 hown7
  clear HB6 HOt06 HOw06 HOx06 HOg06
  go_wp2_with fail
  refine (eqs_same (some ⟨w3.heap.size, 0, none⟩) (some ⟨w6.heap.size, 0, none⟩) n0 n0 n0 hs0 _ HN0q.out (by unfold maxLen; omega) (Sees.of_own HOx07.out) (Sees.of_own HOy07.out)).mono ?_
  rintro e w8 ⟨rfl, hb8⟩
  have hz8 := hb8.size
  have HB8 := Lib.hid (btrans HB7.out hb8)
  have HOt08 := Lib.hid (own_call HOt07.out hb8)
  have HOw08 := Lib.hid (own_call HOw07.out hb8)
  have HOx08 := Lib.hid (own_call HOx07.out hb8)
  have HOg08 := Lib.hid (own_call HOg07.out hb8)
  have HOy08 := Lib.hid (own_call HOy07.out hb8)
  clear hb8
  clear HB7 HOt07 HOw07 HOx07 HOg07 HOy07
  go_wp2_with fail
  refine (marks_any (some ⟨w3.heap.size, 0, none⟩) n0 n0 _ 1 _ _ (by omega) (by omega) (by omega) HOx08.out).mono ?_
  rintro e w9 ⟨rfl, hown9, hg9⟩
  have hz9 := hg9.size
  have HB9 := Lib.hid (HB8.out.grown hg9 HB8.out.size (fun k hk => by have := LOx0.out k hk; omega))
  have HOt09 := Lib.hid (HOt08.out.kept hg9 (own_sep LOt0.out LOx0.out (by omega)))
  have HOw09 := Lib.hid (HOw08.out.kept hg9 (own_sep LOw0.out LOx0.out (by omega)))
  have HOg09 := Lib.hid (HOg08.out.kept hg9 (own_sep LOg0.out LOx0.out (by omega)))
  have HOy09 := Lib.hid (HOy08.out.kept hg9 (own_sep LOy0.out LOx0.out (by omega)))
  have HOx09 := Lib.hid hown9
  clear hg9 hown9
  clear HB8 HOt08 HOw08 HOx08 HOg08 HOy08
  go_wp2_with fail
  refine (eqHeadS_same Ag0 Aw0 (readR hs0).length cg0 cw0 (readR hs0) _ rfl (by have := (read_few hs0); unfold maxLen; omega) (Sees.of_own HOg09.out) (Sees.of_own HOw09.out)).mono ?_
  rintro e w10 ⟨rfl, hb10⟩
  have hz10 := hb10.size
  have HB10 := Lib.hid (btrans HB9.out hb10)
  have HOt010 := Lib.hid (own_call HOt09.out hb10)
  have HOw010 := Lib.hid (own_call HOw09.out hb10)
  have HOx010 := Lib.hid (own_call HOx09.out hb10)
  have HOg010 := Lib.hid (own_call HOg09.out hb10)
  have HOy010 := Lib.hid (own_call HOy09.out hb10)
  clear hb10
  clear HB9 HOt09 HOw09 HOx09 HOg09 HOy09
  go_wp2_with fail
  refine (markHeadS_any Ag0 (readR hs0).length cg0 _ 1 _ _ (by have := (read_few hs0); omega) (by omega) (by omega) HOg010.out).mono ?_
  rintro e w11 ⟨rfl, hown11, hg11⟩
  have hz11 := hg11.size
  have HB11 := Lib.hid (HB10.out.grown hg11 HB10.out.size (fun k hk => by have := LOg0.out k hk; omega))
  have HOt011 := Lib.hid (HOt010.out.kept hg11 (own_sep LOt0.out LOg0.out (by omega)))
  have HOw011 := Lib.hid (HOw010.out.kept hg11 (own_sep LOw0.out LOg0.out (by omega)))
  have HOx011 := Lib.hid (HOx010.out.kept hg11 (own_sep LOx0.out LOg0.out (by omega)))
  have HOy011 := Lib.hid (HOy010.out.kept hg11 (own_sep LOy0.out LOg0.out (by omega)))
  have HOg011 := Lib.hid hown11
  clear hg11 hown11
  clear HB10 HOt010 HOw010 HOx010 HOg010 HOy010
  go_wp2_with fail
  refine (heldHeadS_any Ag0 (readR hs0).length cg0 1 _ (by have := (read_few hs0); omega) (by omega) (by omega) (Sees.of_own HOg011.out)).mono ?_
  rintro e w12 ⟨rfl, hb12⟩
  have hz12 := hb12.size
  have HB12 := Lib.hid (btrans HB11.out hb12)
  have HOt012 := Lib.hid (own_call HOt011.out hb12)
  have HOw012 := Lib.hid (own_call HOw011.out hb12)
  have HOx012 := Lib.hid (own_call HOx011.out hb12)
  have HOg012 := Lib.hid (own_call HOg011.out hb12)
  have HOy012 := Lib.hid (own_call HOy011.out hb12)
  clear hb12
  clear HB11 HOt011 HOw011 HOx011 HOg011 HOy011
  go_wp2_with fail
  refine (tos_any A0 n0 c0 hs0 _ HN0q.out (by omega) ((HR0q.out.below HB12.out (Nat.le_refl _)).more HB12.out.size)).mono ?_
  rintro e w13 ⟨rfl, hown13, hb13⟩
  have hz13 := hb13.size
  have HB13 := Lib.hid (btrans HB12.out hb13)
  have HOt013 := Lib.hid (own_call HOt012.out hb13)
  have HOw013 := Lib.hid (own_call HOw012.out hb13)
  have HOx013 := Lib.hid (own_call HOx012.out hb13)
  have HOg013 := Lib.hid (own_call HOg012.out hb13)
  have HOy013 := Lib.hid (own_call HOy012.out hb13)
  have HOz013 := Lib.hid hown13
  have LOz0 := Lib.hid hown13.lt
  clear hb13 hown13
  clear HB12 HOt012 HOw012 HOx012 HOg012 HOy012
  go_wp2_with fail
  refine (ird_any (some ⟨w12.heap.size, 0, none⟩) n0 n0 hs0 _ HN0q.out (by unfold maxLen; omega) (Sees.of_own HOz013.out) (fun s hs => by have := OK0.out.2 s hs; omega) _ _ rfl rfl).mono ?_
  rintro e w14 ⟨Ah0, ch0, rfl, hown14, hb14⟩
  have hz14 := hb14.size
  have HB14 := Lib.hid (btrans HB13.out hb14)
  have HOt014 := Lib.hid (own_call HOt013.out hb14)
  have HOw014 := Lib.hid (own_call HOw013.out hb14)
  have HOx014 := Lib.hid (own_call HOx013.out hb14)
  have HOg014 := Lib.hid (own_call HOg013.out hb14)
  have HOy014 := Lib.hid (own_call HOy013.out hb14)
  have HOz014 := Lib.hid (own_call HOz013.out hb14)
  have HOh014 := Lib.hid hown14
  have LOh0 := Lib.hid hown14.lt
  clear hb14 hown14
  clear HB13 HOt013 HOw013 HOx013 HOg013 HOy013 HOz013
  go_wp2_with fail
  refine (eqHeadS_same Ah0 Aw0 (readR hs0).length ch0 cw0 (readR hs0) _ rfl (by have := (read_few hs0); unfold maxLen; omega) (Sees.of_own HOh014.out) (Sees.of_own HOw014.out)).mono ?_
  rintro e w15 ⟨rfl, hb15⟩
  have hz15 := hb15.size
  have HB15 := Lib.hid (btrans HB14.out hb15)
  have HOt015 := Lib.hid (own_call HOt014.out hb15)
  have HOw015 := Lib.hid (own_call HOw014.out hb15)
  have HOx015 := Lib.hid (own_call HOx014.out hb15)
  have HOg015 := Lib.hid (own_call HOg014.out hb15)
  have HOy015 := Lib.hid (own_call HOy014.out hb15)
  have HOz015 := Lib.hid (own_call HOz014.out hb15)
  have HOh015 := Lib.hid (own_call HOh014.out hb15)
  clear hb15
  clear HB14 HOt014 HOw014 HOx014 HOg014 HOy014 HOz014 HOh014
  go_wp2_with fail
  refine (heldHeadS_any Ag0 (readR hs0).length cg0 1 _ (by have := (read_few hs0); omega) (by omega) (by omega) (Sees.of_own HOg015.out)).mono ?_
  rintro e w16 ⟨rfl, hb16⟩
  have hz16 := hb16.size
  have HB16 := Lib.hid (btrans HB15.out hb16)
  have HOt016 := Lib.hid (own_call HOt015.out hb16)
  have HOw016 := Lib.hid (own_call HOw015.out hb16)
  have HOx016 := Lib.hid (own_call HOx015.out hb16)
  have HOg016 := Lib.hid (own_call HOg015.out hb16)
  have HOy016 := Lib.hid (own_call HOy015.out hb16)
  have HOz016 := Lib.hid (own_call HOz015.out hb16)
  have HOh016 := Lib.hid (own_call HOh015.out hb16)
  clear hb16
  clear HB15 HOt015 HOw015 HOx015 HOg015 HOy015 HOz015 HOh015
  go_wp2
  go_ret
  exact ⟨rfl, HB16.out⟩

set_option maxHeartbeats 4000000 in
theorem walk_FnExactSetHead (A0 : Option Addr) (n0 c0 : Nat) (hs0 : List HeadM) (hn0 : n0 = hs0.length) (hc0 : n0 ≤ maxLen) (hm0 : headMax hs0) (s1 : ByteArray) (ws1 : s1.size ≤ maxLen) (s2 : ByteArray) (ws2 : s2.size ≤ maxLen) (w : World) (hr0 : Sees w w.heap.size 2 A0 n0 (flat headC hs0)) :
    Calls Try.prog 12 #[.slice A0 n0 c0, .string s1, .string s2] w fun e w' => e = .returned (.bool true) ∧ Below w.heap.size w w' := by
  have HN0q := Lib.hid hn0
  have HC0q := Lib.hid hc0
  have HM0q := Lib.hid hm0
  have HR0q := Lib.hid hr0
  have WS1q := Lib.hid ws1
  have WS2q := Lib.hid ws2
  clear hn0 hc0 hm0 hr0 ws1 ws2
  by_cases hbig1 : (1048576 : Int) < s1.size
  · go_enter Try.func12, Try.ntmps12
    go_wp2
    go_ret
    exact ⟨rfl, Below.refl _ _⟩
  by_cases hbig2 : (1048576 : Int) < s2.size
  · go_enter Try.func12, Try.ntmps12
    go_wp2
    go_ret
    exact ⟨rfl, Below.refl _ _⟩
  go_enter Try.func12, Try.ntmps12
  go_wp2_with fail
  refine (szHeadS_any A0 n0 c0 hs0 1048576 _ HN0q.out HC0q.out (by omega) (by omega) HR0q.out HM0q.out).mono ?_
  rintro e w1 ⟨v0, rfl, hv0, hb1⟩
  have hz1 := hb1.size
  have HB1 := Lib.hid (hb1)
  clear hb1
  by_cases hneg0 : v0 < 0
  · clear hv0
    go_wp2
    go_ret
    exact ⟨rfl, HB1.out⟩
  obtain ⟨hv0a, hv0b, hv0c⟩ := hv0.resolve_left hneg0
  have OK0 := Lib.hid hv0c
  have hlen0 : n0 ≤ 1048576 := by have := hv0c.1; have := HN0q.out; omega
  clear hv0 hv0c
  go_wp2_with fail
  refine (toHeadS_any A0 n0 c0 hs0 _ HN0q.out (by omega) ((HR0q.out.below HB1.out (Nat.le_refl _)).more HB1.out.size)).mono ?_
  rintro e w2 ⟨rfl, hown2, hb2⟩
  have hz2 := hb2.size
  have HB2 := Lib.hid (btrans HB1.out hb2)
  have HOt02 := Lib.hid hown2
  have LOt0 := Lib.hid hown2.lt
  clear hb2 hown2
  clear HB1
  go_wp2_with fail
  refine (sset_any (some ⟨w1.heap.size, 0, none⟩) n0 n0 hs0 s1 s2 _ HN0q.out (by unfold maxLen; omega) (Sees.of_own HOt02.out) HM0q.out WS1q.out WS2q.out).mono ?_
  rintro e w3 ⟨Aw0, cw0, rfl, hown3, hb3⟩
  have hz3 := hb3.size
  have HB3 := Lib.hid (btrans HB2.out hb3)
  have HOt03 := Lib.hid (own_call HOt02.out hb3)
  have HOw03 := Lib.hid hown3
  have LOw0 := Lib.hid hown3.lt
  clear hb3 hown3
  clear HB2 HOt02
  go_wp2_with fail
  refine (toHeadS_any A0 n0 c0 hs0 _ HN0q.out (by omega) ((HR0q.out.below HB3.out (Nat.le_refl _)).more HB3.out.size)).mono ?_
  rintro e w4 ⟨rfl, hown4, hb4⟩
  have hz4 := hb4.size
  have HB4 := Lib.hid (btrans HB3.out hb4)
  have HOt04 := Lib.hid (own_call HOt03.out hb4)
  have HOw04 := Lib.hid (own_call HOw03.out hb4)
  have HOx04 := Lib.hid hown4
  have LOx0 := Lib.hid hown4.lt
  clear hb4 hown4
  clear HB3 HOt03 HOw03
  go_wp2_with fail
  refine (iset_any (some ⟨w3.heap.size, 0, none⟩) n0 n0 hs0 s1 s2 _ HN0q.out (by unfold maxLen; omega) (Sees.of_own HOx04.out) HM0q.out WS1q.out WS2q.out).mono ?_
  rintro e w5 ⟨Ag0, cg0, rfl, hown5, hb5⟩
  have hz5 := hb5.size
  have HB5 := Lib.hid (btrans HB4.out hb5)
  have HOt05 := Lib.hid (own_call HOt04.out hb5)
  have HOw05 := Lib.hid (own_call HOw04.out hb5)
  have HOx05 := Lib.hid (own_call HOx04.out hb5)
  have HOg05 := Lib.hid hown5
  have LOg0 := Lib.hid hown5.lt
  clear hb5 hown5
  clear HB4 HOt04 HOw04 HOx04
  go_wp2_with fail
  refine (eqHeadS_same Ag0 Aw0 (setN hs0 s1 s2).length cg0 cw0 (setN hs0 s1 s2) _ rfl (by have := (set_few hs0 s1 s2); unfold maxLen; omega) (Sees.of_own HOg05.out) (Sees.of_own HOw05.out)).mono ?_
  rintro e w6 ⟨rfl, hb6⟩
  have hz6 := hb6.size
  have HB6 := Lib.hid (btrans HB5.out hb6)
  have HOt06 := Lib.hid (own_call HOt05.out hb6)
  have HOw06 := Lib.hid (own_call HOw05.out hb6)
  have HOx06 := Lib.hid (own_call HOx05.out hb6)
  have HOg06 := Lib.hid (own_call HOg05.out hb6)
  clear hb6
  clear HB5 HOt05 HOw05 HOx05 HOg05
  go_wp2_with fail
  refine (toHeadS_any A0 n0 c0 hs0 _ HN0q.out (by omega) ((HR0q.out.below HB6.out (Nat.le_refl _)).more HB6.out.size)).mono ?_
  rintro e w7 ⟨rfl, hown7, hb7⟩
  have hz7 := hb7.size
  have HB7 := Lib.hid (btrans HB6.out hb7)
  have HOt07 := Lib.hid (own_call HOt06.out hb7)
  have HOw07 := Lib.hid (own_call HOw06.out hb7)
  have HOx07 := Lib.hid (own_call HOx06.out hb7)
  have HOg07 := Lib.hid (own_call HOg06.out hb7)
  have HOy07 := Lib.hid hown7
  have LOy0 := Lib.hid hown7.lt
  clear hb7 hown7
  clear HB6 HOt06 HOw06 HOx06 HOg06
  go_wp2_with fail
  refine (eqHeadS_same (some ⟨w3.heap.size, 0, none⟩) (some ⟨w6.heap.size, 0, none⟩) n0 n0 n0 hs0 _ HN0q.out (by unfold maxLen; omega) (Sees.of_own HOx07.out) (Sees.of_own HOy07.out)).mono ?_
  rintro e w8 ⟨rfl, hb8⟩
  have hz8 := hb8.size
  have HB8 := Lib.hid (btrans HB7.out hb8)
  have HOt08 := Lib.hid (own_call HOt07.out hb8)
  have HOw08 := Lib.hid (own_call HOw07.out hb8)
  have HOx08 := Lib.hid (own_call HOx07.out hb8)
  have HOg08 := Lib.hid (own_call HOg07.out hb8)
  have HOy08 := Lib.hid (own_call HOy07.out hb8)
  clear hb8
  clear HB7 HOt07 HOw07 HOx07 HOg07 HOy07
  go_wp2_with fail
  refine (markHeadS_any (some ⟨w3.heap.size, 0, none⟩) n0 n0 _ 1 _ _ (by omega) (by omega) (by omega) HOx08.out).mono ?_
  rintro e w9 ⟨rfl, hown9, hg9⟩
  have hz9 := hg9.size
  have HB9 := Lib.hid (HB8.out.grown hg9 HB8.out.size (fun k hk => by have := LOx0.out k hk; omega))
  have HOt09 := Lib.hid (HOt08.out.kept hg9 (own_sep LOt0.out LOx0.out (by omega)))
  have HOw09 := Lib.hid (HOw08.out.kept hg9 (own_sep LOw0.out LOx0.out (by omega)))
  have HOg09 := Lib.hid (HOg08.out.kept hg9 (own_sep LOg0.out LOx0.out (by omega)))
  have HOy09 := Lib.hid (HOy08.out.kept hg9 (own_sep LOy0.out LOx0.out (by omega)))
  have HOx09 := Lib.hid hown9
  clear hg9 hown9
  clear HB8 HOt08 HOw08 HOx08 HOg08 HOy08
  go_wp2_with fail
  refine (eqHeadS_same Ag0 Aw0 (setN hs0 s1 s2).length cg0 cw0 (setN hs0 s1 s2) _ rfl (by have := (set_few hs0 s1 s2); unfold maxLen; omega) (Sees.of_own HOg09.out) (Sees.of_own HOw09.out)).mono ?_
  rintro e w10 ⟨rfl, hb10⟩
  have hz10 := hb10.size
  have HB10 := Lib.hid (btrans HB9.out hb10)
  have HOt010 := Lib.hid (own_call HOt09.out hb10)
  have HOw010 := Lib.hid (own_call HOw09.out hb10)
  have HOx010 := Lib.hid (own_call HOx09.out hb10)
  have HOg010 := Lib.hid (own_call HOg09.out hb10)
  have HOy010 := Lib.hid (own_call HOy09.out hb10)
  clear hb10
  clear HB9 HOt09 HOw09 HOx09 HOg09 HOy09
  go_wp2_with fail
  refine (markHeadS_any Ag0 (setN hs0 s1 s2).length cg0 _ 1 _ _ (by have := (set_few hs0 s1 s2); omega) (by omega) (by omega) HOg010.out).mono ?_
  rintro e w11 ⟨rfl, hown11, hg11⟩
  have hz11 := hg11.size
  have HB11 := Lib.hid (HB10.out.grown hg11 HB10.out.size (fun k hk => by have := LOg0.out k hk; omega))
  have HOt011 := Lib.hid (HOt010.out.kept hg11 (own_sep LOt0.out LOg0.out (by omega)))
  have HOw011 := Lib.hid (HOw010.out.kept hg11 (own_sep LOw0.out LOg0.out (by omega)))
  have HOx011 := Lib.hid (HOx010.out.kept hg11 (own_sep LOx0.out LOg0.out (by omega)))
  have HOy011 := Lib.hid (HOy010.out.kept hg11 (own_sep LOy0.out LOg0.out (by omega)))
  have HOg011 := Lib.hid hown11
  clear hg11 hown11
  clear HB10 HOt010 HOw010 HOx010 HOg010 HOy010
  go_wp2_with fail
  refine (heldHeadS_any Ag0 (setN hs0 s1 s2).length cg0 1 _ (by have := (set_few hs0 s1 s2); omega) (by omega) (by omega) (Sees.of_own HOg011.out)).mono ?_
  rintro e w12 ⟨rfl, hb12⟩
  have hz12 := hb12.size
  have HB12 := Lib.hid (btrans HB11.out hb12)
  have HOt012 := Lib.hid (own_call HOt011.out hb12)
  have HOw012 := Lib.hid (own_call HOw011.out hb12)
  have HOx012 := Lib.hid (own_call HOx011.out hb12)
  have HOg012 := Lib.hid (own_call HOg011.out hb12)
  have HOy012 := Lib.hid (own_call HOy011.out hb12)
  clear hb12
  clear HB11 HOt011 HOw011 HOx011 HOg011 HOy011
  go_wp2_with fail
  refine (toHeadS_any A0 n0 c0 hs0 _ HN0q.out (by omega) ((HR0q.out.below HB12.out (Nat.le_refl _)).more HB12.out.size)).mono ?_
  rintro e w13 ⟨rfl, hown13, hb13⟩
  have hz13 := hb13.size
  have HB13 := Lib.hid (btrans HB12.out hb13)
  have HOt013 := Lib.hid (own_call HOt012.out hb13)
  have HOw013 := Lib.hid (own_call HOw012.out hb13)
  have HOx013 := Lib.hid (own_call HOx012.out hb13)
  have HOg013 := Lib.hid (own_call HOg012.out hb13)
  have HOy013 := Lib.hid (own_call HOy012.out hb13)
  have HOz013 := Lib.hid hown13
  have LOz0 := Lib.hid hown13.lt
  clear hb13 hown13
  clear HB12 HOt012 HOw012 HOx012 HOg012 HOy012
  go_wp2_with fail
  refine (iset_any (some ⟨w12.heap.size, 0, none⟩) n0 n0 hs0 s1 s2 _ HN0q.out (by unfold maxLen; omega) (Sees.of_own HOz013.out) HM0q.out WS1q.out WS2q.out).mono ?_
  rintro e w14 ⟨Ah0, ch0, rfl, hown14, hb14⟩
  have hz14 := hb14.size
  have HB14 := Lib.hid (btrans HB13.out hb14)
  have HOt014 := Lib.hid (own_call HOt013.out hb14)
  have HOw014 := Lib.hid (own_call HOw013.out hb14)
  have HOx014 := Lib.hid (own_call HOx013.out hb14)
  have HOg014 := Lib.hid (own_call HOg013.out hb14)
  have HOy014 := Lib.hid (own_call HOy013.out hb14)
  have HOz014 := Lib.hid (own_call HOz013.out hb14)
  have HOh014 := Lib.hid hown14
  have LOh0 := Lib.hid hown14.lt
  clear hb14 hown14
  clear HB13 HOt013 HOw013 HOx013 HOg013 HOy013 HOz013
  go_wp2_with fail
  refine (eqHeadS_same Ah0 Aw0 (setN hs0 s1 s2).length ch0 cw0 (setN hs0 s1 s2) _ rfl (by have := (set_few hs0 s1 s2); unfold maxLen; omega) (Sees.of_own HOh014.out) (Sees.of_own HOw014.out)).mono ?_
  rintro e w15 ⟨rfl, hb15⟩
  have hz15 := hb15.size
  have HB15 := Lib.hid (btrans HB14.out hb15)
  have HOt015 := Lib.hid (own_call HOt014.out hb15)
  have HOw015 := Lib.hid (own_call HOw014.out hb15)
  have HOx015 := Lib.hid (own_call HOx014.out hb15)
  have HOg015 := Lib.hid (own_call HOg014.out hb15)
  have HOy015 := Lib.hid (own_call HOy014.out hb15)
  have HOz015 := Lib.hid (own_call HOz014.out hb15)
  have HOh015 := Lib.hid (own_call HOh014.out hb15)
  clear hb15
  clear HB14 HOt014 HOw014 HOx014 HOg014 HOy014 HOz014 HOh014
  go_wp2_with fail
  refine (heldHeadS_any Ag0 (setN hs0 s1 s2).length cg0 1 _ (by have := (set_few hs0 s1 s2); omega) (by omega) (by omega) (Sees.of_own HOg015.out)).mono ?_
  rintro e w16 ⟨rfl, hb16⟩
  have hz16 := hb16.size
  have HB16 := Lib.hid (btrans HB15.out hb16)
  have HOt016 := Lib.hid (own_call HOt015.out hb16)
  have HOw016 := Lib.hid (own_call HOw015.out hb16)
  have HOx016 := Lib.hid (own_call HOx015.out hb16)
  have HOg016 := Lib.hid (own_call HOg015.out hb16)
  have HOy016 := Lib.hid (own_call HOy015.out hb16)
  have HOz016 := Lib.hid (own_call HOz015.out hb16)
  have HOh016 := Lib.hid (own_call HOh015.out hb16)
  clear hb16
  clear HB15 HOt015 HOw015 HOx015 HOg015 HOy015 HOz015 HOh015
  go_wp2
  go_ret
  exact ⟨rfl, HB16.out⟩
end Go.Proofs.Ytnhbhopiioclmaa
