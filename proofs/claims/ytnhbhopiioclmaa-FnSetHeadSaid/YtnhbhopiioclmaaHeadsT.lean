/- The contracts of the model's functions of chapter 3: set heads. -/
import Derived.Test.YtnhbhopiioclmaaHeadsS
namespace Go.Proofs.Ytnhbhopiioclmaa
open Go.RowKit
set_option linter.unusedVariables false

/-- A result that is a list in new memory, and a bool. -/
def RowB (w : World) (E m : Nat) (n : Nat) (xs : List Value) (ok : Bool) (e : Ending) (w' : World) : Prop :=
  ∃ A c, e = .returned (.tuple #[.slice A n c, .bool ok]) ∧ w'.ownsRow w.heap.size E m (.slice A n c) n xs ∧ Below w.heap.size w w'
/-- Heads with a line set: the place of the first one with the name, or a new one. -/
def setH (hs : List HeadM) (nm ln : ByteArray) : List HeadM :=
  if hs.findIdx (nameB nm) < hs.length then hs.set (hs.findIdx (nameB nm)) ⟨nm, ln⟩ else hs ++ [⟨nm, ln⟩]
/-- One list or the other one. -/
def pickL (v : Bool) (a b : List Value) : List Value := if v = true then a else b
def pickN (v : Bool) (a b : Nat) : Nat := if v = true then a else b
theorem head_ones (hs : List HeadM) : ∀ u ∈ flat headC hs, u.oneCell' = true := by
  intro u hu
  unfold flat at hu
  rw [List.mem_flatMap] at hu
  obtain ⟨p, _, hp⟩ := hu
  simp [headC] at hp
  rcases hp with rfl | rfl <;> rfl
theorem name_eq {p : HeadM} {nm : ByteArray} (h : nameB nm p = true) : p.x0 = nm := by
  unfold nameB at h
  have := eq_of_beq h
  rw [ByteArray.toList_eq, ByteArray.toList_eq] at this
  exact str_of this
theorem flat_new (hs : List HeadM) (n : Nat) (hn : n = hs.length) (nm ln : ByteArray) : (flat headC hs ++ [Value.string nm, Value.string ⟨#[]⟩]).set (n * 2 + 1) (.string ln) = flat headC (hs ++ [⟨nm, ln⟩]) := by
  have h := flat_set (u := Value.string ln) (a' := ⟨nm, ln⟩) headC_len (hs ++ [⟨nm, ⟨#[]⟩⟩]) (k := n) (j := 1) (a := ⟨nm, ⟨#[]⟩⟩) (by rw [hn]; simp) (by omega) rfl
  rw [flat_append, flat_one] at h
  refine h.trans ?_
  rw [List.set_append_right _ _ (by rw [hn]; exact Nat.le_refl _), ← hn]
  simp
theorem max_set {hs : List HeadM} {p : HeadM} {k : Nat} (h : headMax hs) (hp : headOk maxLen p) : headMax (hs.set k p) := by
  intro q hq
  rcases List.mem_or_eq_of_mem_set hq with h1 | h1
  · exact h q h1
  · rw [h1]; exact hp
theorem max_app {hs : List HeadM} {p : HeadM} (h : headMax hs) (hp : headOk maxLen p) : headMax (hs ++ [p]) := by
  intro q hq
  rw [List.mem_append, List.mem_singleton] at hq
  rcases hq with h1 | h1
  · exact h q h1
  · rw [h1]; exact hp
theorem setH_found {hs : List HeadM} {nm ln : ByteArray} {k : Nat} {p : HeadM} (hk : hs[k]? = some p) (h1 : ∀ q ∈ hs.take k, nameB nm q = false) (h2 : nameB nm p = true) : setH hs nm ln = hs.set k ⟨p.x0, ln⟩ := by
  have e : hs.findIdx (nameB nm) = k := by
    obtain ⟨hlt, he⟩ := List.getElem?_eq_some_iff.mp hk
    rw [List.findIdx_eq hlt, he]
    refine ⟨h2, fun j hj => ?_⟩
    exact h1 _ (List.mem_of_getElem? (i := j) (by rw [List.getElem?_take, if_pos hj]; exact List.getElem?_eq_getElem (by omega)))
  have hlt := (List.getElem?_eq_some_iff.mp hk).1
  unfold setH
  rw [e, if_pos hlt, name_eq h2]
theorem setH_new {hs : List HeadM} {nm ln : ByteArray} (h1 : ∀ q ∈ hs, nameB nm q = false) : setH hs nm ln = hs ++ [⟨nm, ln⟩] := by
  have e : hs.findIdx (nameB nm) = hs.length := by
    rw [List.findIdx_eq_length]
    intro x hx; simp [h1 x hx]
  unfold setH
  rw [e, if_neg (by omega)]

theorem sset_bad (A : Option Addr) (n c : Nat) (hs : List HeadM) (nm ln : ByteArray) (w : World) (hn : n = hs.length) (hc : n ≤ maxLen) (hr : Sees w w.heap.size 2 A n (flat headC hs)) (hm : headMax hs) (hv : headsB hs = false) :
    Calls Try.prog 30 #[.slice A n c, .string nm, .string ln] w (RowB w 27 2 0 [] false) := by
  have HO := Lib.hid (World.ownsRow_lit (base := w.heap.size) (e := 27) (size := 2) w #[] 0 (Nat.le_refl _) (Nat.zero_le _) rfl)
  have hcv : Calls Try.prog 15 #[.slice A n c] w fun e w' => e = .returned (.bool false) ∧ w = w' := by
    have := shv_any A n c hs w hn hc hr hm
    rw [hv] at this; exact this
  have HCV := Lib.hid hcv
  clear hr hn hm hv hcv
  unfold maxLen at hc
  go_enter Try.func30, Try.ntmps30
  go_wp2_with fail
  refine HCV.out.mono ?_
  rintro e w1 ⟨rfl, rfl⟩
  go_wp2
  go_ret2
  exact ⟨_, _, rfl, HO.out, bnew _ _⟩

set_option maxHeartbeats 2000000 in
theorem sset_found (A : Option Addr) (n c k0 : Nat) (hs : List HeadM) (nm ln : ByteArray) (q : HeadM) (w : World) (hn : n = hs.length) (hr : Sees w w.heap.size 2 A n (flat headC hs)) (hm : headMax hs) (hmn : nm.size ≤ maxLen) (hml : ln.size ≤ maxLen) (hv : headsB hs = true)
    (hq : hs[k0]? = some q) (hb4 : ∀ p ∈ hs.take k0, nameB nm p = false) (hq2 : nameB nm q = true) (v : Bool) (hvv : headsB (setH hs nm ln) = v) :
    Calls Try.prog 30 #[.slice A n c, .string nm, .string ln] w (RowB w 27 2 n (pickL v (flat headC (setH hs nm ln)) (flat headC hs)) v) := by
  obtain ⟨i0, hi0, hz0, hz1, hz2⟩ := info_parts info_head
  have hn8 : n ≤ 8 := by rw [hn]; exact headsB_len hv
  have hk0 : k0 < n := by rw [hn]; exact (List.getElem?_eq_some_iff.mp hq).1
  have hS := setH_found (ln := ln) hq hb4 hq2
  rw [hS] at hvv ⊢
  have HR := Lib.hid hr
  have HN := Lib.hid hn
  have HO := Lib.hid (World.ownsRow_lit (base := w.heap.size) (e := 27) (size := 2) w #[] 0 (Nat.le_refl _) (Nat.zero_le _) rfl)
  have hcv : Calls Try.prog 15 #[.slice A n c] w fun e w' => e = .returned (.bool true) ∧ w = w' := by
    have := shv_any A n c hs w hn (by unfold maxLen; omega) hr hm
    rw [hv] at this; exact this
  have HCV := Lib.hid hcv
  have HQ := Lib.hid hq
  have HQ2 := Lib.hid hq2
  have HB4 := Lib.hid hb4
  have HOK : Hid (headMax (hs.set k0 ⟨q.x0, ln⟩)) := Lib.hid (max_set hm ⟨by have := hm q (List.mem_of_getElem? hq); exact this.1, by show (ln.size : Int) ≤ (maxLen : Int); omega⟩)
  have HVV := Lib.hid hvv
  clear hr hn hm hv hcv hq hq2 hb4 hS hvv hmn hml
  go_enter Try.func30, Try.ntmps30
  go_wp2_with fail
  refine HCV.out.mono ?_
  rintro e w1 ⟨rfl, rfl⟩
  go_wp2_with (at_builtin; refine wpList_append_list rfl _ _ 23 rfl w.heap.size 27 2 32 0 n c w.heap.size i0 _ (.slice (some ⟨w.heap.size, 0, none⟩) 0 0) [] (flat headC hs) A Try.underlying23 hi0 hz0 hz1 hz2 rfl (by omega) rfl rfl HO.out (HR.out.alloc (Nat.le_refl _) _) (head_ones hs) (by unfold maxLen; omega) (by omega) (by simp) ?_; intro v1 w1 hown1 hg1 hat1; simp only [Nat.zero_add, List.nil_append] at hown1; obtain ⟨A1, c1, hv1⟩ := own_slice hown1; subst hv1; have HW1 := Lib.hid hown1; have HG1 := Lib.hid hg1; clear hown1 hg1 hat1)
  have HB1 := Lib.hid ((bnew w (.cells #[] 27)).grown HG1.out (by simp) (fun g hg => by simp [Value.ownBlock] at hg; omega))
  go_loop [9] (fun i => ∃ k : Nat, k ≤ n ∧ i = .int .i64 k ∧ k ≤ k0) (fun i => n - (intOf i).toNat)
  case atStart => exact ⟨0, Nat.zero_le _, rfl, Nat.zero_le _⟩
  case round =>
    obtain ⟨k, hk, rfl, hkk⟩ := hrel
    have hlt : k < n := by omega
    obtain ⟨g, hA, hg1, hg2⟩ := own_form HW1.out (by omega)
    subst hA
    obtain ⟨p, hp⟩ := get_of HN.out hlt
    have HP := Lib.hid hp
    have d0 := (own_at HW1.out (j := k * 2 + 0) (u := .string p.x0) (flat_get headC_len hs hp rfl)).1
    have d1 := (own_at HW1.out (j := k * 2 + 1) (u := .string p.x1) (flat_get headC_len hs hp rfl))
    rw [Nat.add_zero] at d0
    obtain ⟨d1, f1⟩ := d1
    clear hp
    by_cases he : k = k0
    · have HE := Lib.hid he
      have hpq : nameB nm p = true := by
        have h1 := HP.out
        rw [he, HQ.out] at h1
        injection h1 with h1
        rw [← h1]; exact HQ2.out
      have h5 : (p.x0.toList == nm.toList) = true := hpq
      have hkn : ((k : Int) == (n : Int)) = false := beq_eq_false_iff_ne.mpr (by omega)
      clear he hpq
      have hys : (flat headC hs).set (k * 2 + 1) (.string ln) = flat headC (hs.set k0 ⟨q.x0, ln⟩) := by
        rw [HE.out]
        exact flat_set headC_len hs HQ.out (by omega) rfl
      have hst := HW1.out.stored (k * 2 + 1) (.string ln)
      rw [hys] at hst
      have HW2 := Lib.hid hst.1
      have HB2 := Lib.hid (HB1.out.setCell (p := ⟨g, k * 2 + 1, none⟩) hg1 (.string ln))
      have hcy : Calls Try.prog 15 #[.slice (some ⟨g, 0, none⟩) n c1] (w1.setCell ⟨g, k * 2 + 1, none⟩ (.string ln)) fun e w' => e = .returned (.bool v) ∧ (w1.setCell ⟨g, k * 2 + 1, none⟩ (.string ln)) = w' := by
        have := shv_any (some ⟨g, 0, none⟩) n c1 _ _ (by rw [List.length_set]; exact HN.out) (by unfold maxLen; omega) (Sees.of_own HW2.out) HOK.out
        rw [HVV.out] at this; exact this
      have HCY := Lib.hid hcy
      clear hst hys hcy
      have hsz2 := HB2.out.size
      go_wp2_with fail
      refine HCY.out.mono ?_
      rintro e w2 ⟨rfl, rfl⟩
      cases v
      · have HS2 := Lib.hid (((HR.out.below HB2.out (Nat.le_refl _)).alloc HB2.out.size (.cells #[] 27)))
        have ho2 := (World.ownsRow_lit (base := w.heap.size) (e := 27) (size := 2) (w1.setCell ⟨g, k * 2 + 1, none⟩ (.string ln)) #[] 0 HB2.out.size (Nat.zero_le _) rfl)
        rw [show (w1.setCell ⟨g, k * 2 + 1, none⟩ (.string ln)).heap.size = w1.heap.size by simp] at ho2
        have HO2 := Lib.hid ho2
        clear ho2
        go_wp2_with (at_builtin; refine wpList_append_list rfl _ _ 23 rfl w.heap.size 27 2 32 0 n c w.heap.size i0 _ (.slice (some ⟨w1.heap.size, 0, none⟩) 0 0) [] (flat headC hs) A Try.underlying23 hi0 hz0 hz1 hz2 rfl (by omega) rfl rfl HO2.out HS2.out (head_ones hs) (by unfold maxLen; omega) (by omega) (by simp; omega) ?_; intro v3 w3 hown3 hg3 hat3; simp only [Nat.zero_add, List.nil_append] at hown3; obtain ⟨A3, c3, hv3⟩ := own_slice hown3; subst hv3; have HW3 := Lib.hid hown3; have HG3 := Lib.hid hg3; clear hown3 hg3 hat3)
        go_ret2
        refine ⟨_, _, rfl, HW3.out, ?_⟩
        exact (HB2.out.alloc HB2.out.size _).grown HG3.out (by simp; omega) (fun g hg => by simp [Value.ownBlock] at hg; omega)
      · go_wp2
        go_ret2
        exact ⟨_, _, rfl, HW2.out, HB2.out⟩
    · have hlt0 : k < k0 := by omega
      have hpq : nameB nm p = false := HB4.out p (List.mem_of_getElem? (i := k) (by rw [List.getElem?_take, if_pos hlt0]; exact HP.out))
      have h5 : (p.x0.toList == nm.toList) = false := hpq
      clear hpq he
      go_wp2
      go_round
      case rel => exact ⟨k + 1, by omega, by go_num, by omega⟩
      case measure => simp [intOf]; omega
set_option maxHeartbeats 2000000 in
theorem sset_new (A : Option Addr) (n c : Nat) (hs : List HeadM) (nm ln : ByteArray) (w : World) (hn : n = hs.length) (hr : Sees w w.heap.size 2 A n (flat headC hs)) (hm : headMax hs) (hmn : nm.size ≤ maxLen) (hml : ln.size ≤ maxLen) (hv : headsB hs = true)
    (hb4 : ∀ p ∈ hs, nameB nm p = false) (v : Bool) (hvv : headsB (setH hs nm ln) = v) :
    Calls Try.prog 30 #[.slice A n c, .string nm, .string ln] w (RowB w 27 2 (pickN v (n + 1) n) (pickL v (flat headC (setH hs nm ln)) (flat headC hs)) v) := by
  obtain ⟨i0, hi0, hz0, hz1, hz2⟩ := info_parts info_head
  have hn8 : n ≤ 8 := by rw [hn]; exact headsB_len hv
  have hS := setH_new (ln := ln) hb4
  rw [hS] at hvv ⊢
  have HR := Lib.hid hr
  have HN := Lib.hid hn
  have HO := Lib.hid (World.ownsRow_lit (base := w.heap.size) (e := 27) (size := 2) w #[] 0 (Nat.le_refl _) (Nat.zero_le _) rfl)
  have hcv : Calls Try.prog 15 #[.slice A n c] w fun e w' => e = .returned (.bool true) ∧ w = w' := by
    have := shv_any A n c hs w hn (by unfold maxLen; omega) hr hm
    rw [hv] at this; exact this
  have HCV := Lib.hid hcv
  have HB4 := Lib.hid hb4
  have HOK : Hid (headMax (hs ++ [⟨nm, ln⟩])) := Lib.hid (max_app hm ⟨by show (nm.size : Int) ≤ (maxLen : Int); omega, by show (ln.size : Int) ≤ (maxLen : Int); omega⟩)
  have HVV := Lib.hid hvv
  clear hr hn hm hv hcv hb4 hS hvv hmn hml
  go_enter Try.func30, Try.ntmps30
  go_wp2_with fail
  refine HCV.out.mono ?_
  rintro e w1 ⟨rfl, rfl⟩
  go_wp2_with (at_builtin; refine wpList_append_list rfl _ _ 23 rfl w.heap.size 27 2 32 0 n c w.heap.size i0 _ (.slice (some ⟨w.heap.size, 0, none⟩) 0 0) [] (flat headC hs) A Try.underlying23 hi0 hz0 hz1 hz2 rfl (by omega) rfl rfl HO.out (HR.out.alloc (Nat.le_refl _) _) (head_ones hs) (by unfold maxLen; omega) (by omega) (by simp) ?_; intro v1 w1 hown1 hg1 hat1; simp only [Nat.zero_add, List.nil_append] at hown1; obtain ⟨A1, c1, hv1⟩ := own_slice hown1; subst hv1; have HW1 := Lib.hid hown1; have HG1 := Lib.hid hg1; clear hown1 hg1 hat1)
  have HB1 := Lib.hid ((bnew w (.cells #[] 27)).grown HG1.out (by simp) (fun g hg => by simp [Value.ownBlock] at hg; omega))
  go_loop [9] (fun i => ∃ k : Nat, k ≤ n ∧ i = .int .i64 k) (fun i => n - (intOf i).toNat)
  case atStart => exact ⟨0, Nat.zero_le _, rfl⟩
  case round =>
    obtain ⟨k, hk, rfl⟩ := hrel
    by_cases hlt : k < n
    · obtain ⟨g, hA, hg1, hg2⟩ := own_form HW1.out (by omega)
      subst hA
      obtain ⟨p, hp⟩ := get_of HN.out hlt
      have HP := Lib.hid hp
      have d0 := (own_at HW1.out (j := k * 2 + 0) (u := .string p.x0) (flat_get headC_len hs hp rfl)).1
      rw [Nat.add_zero] at d0
      clear hp
      have hpq : nameB nm p = false := HB4.out p (List.mem_of_getElem? HP.out)
      have h5 : (p.x0.toList == nm.toList) = false := hpq
      clear hpq
      go_wp2
      go_round
      case rel => exact ⟨k + 1, by omega, by go_num⟩
      case measure => simp [intOf]; omega
    · have hkn : ((k : Int) == (n : Int)) = true := by rw [beq_iff_eq]; omega
      have HKN := Lib.hid (show k = n by omega)
      have hsz1 := HB1.out.size
      go_wp2_with (at_builtin; refine wpList_append_own _ rfl _ _ 23 rfl w.heap.size 27 i0 _ 2 32 Try.underlying23 hi0 hz0 hz1 hz2 rfl (by omega) (.slice A1 n c1) n (flat headC hs) rfl (HW1.out.alloc _) ⟨w1.heap.size, 0, none⟩ 1 1 [.string nm, .string ⟨#[]⟩] rfl rfl (World.news_of_block (cs := #[.string nm, .string ⟨#[]⟩]) (t := 27) (fr := (0, 0)) (heap_alloc_new w1 _)) (by simp [Value.oneCell']) (by unfold maxLen; omega) (by omega) (by simp; omega) ?_; intro v2 w2 hown2 hg2 _; obtain ⟨A2, c2, hv2⟩ := own_slice hown2; subst hv2; obtain ⟨g, hA2, hgg1, hgg2⟩ := own_form hown2 (by omega); subst hA2; obtain ⟨u1, d1⟩ := own_some hown2 (j := k * 2 + 1) (by omega); have f1 := hown2.frozenAt (k * 2 + 1); have HW2 := Lib.hid hown2; have HG2 := Lib.hid hg2; clear hown2 hg2)
      have hB2 : Below w.heap.size w w2 := (HB1.out.alloc HB1.out.size (.cells #[.string nm, .string ⟨#[]⟩] 27)).grown HG2.out (by simp; omega) (fun g hg => (HW1.out.lt g hg).1)
      have hys : (flat headC hs ++ [Value.string nm, Value.string ⟨#[]⟩]).set (k * 2 + 1) (.string ln) = flat headC (hs ++ [⟨nm, ln⟩]) := by
        rw [HKN.out]; exact flat_new hs n HN.out nm ln
      have hst := HW2.out.stored (k * 2 + 1) (.string ln)
      rw [hys] at hst
      have HW3 := Lib.hid hst.1
      have HB3 := Lib.hid (hB2.setCell (p := ⟨g, k * 2 + 1, none⟩) hgg1 (.string ln))
      have hcy : Calls Try.prog 15 #[.slice (some ⟨g, 0, none⟩) (n + 1) c2] (w2.setCell ⟨g, k * 2 + 1, none⟩ (.string ln)) fun e w' => e = .returned (.bool v) ∧ (w2.setCell ⟨g, k * 2 + 1, none⟩ (.string ln)) = w' := by
        have := shv_any (some ⟨g, 0, none⟩) (n + 1) c2 _ _ (by rw [List.length_append, ← HN.out]; rfl) (by unfold maxLen; omega) (Sees.of_own HW3.out) HOK.out
        rw [HVV.out] at this; exact this
      have HCY := Lib.hid hcy
      clear hst hys hcy hB2
      have hsz2 := HB3.out.size
      go_wp2_with fail
      refine HCY.out.mono ?_
      rintro e w4 ⟨rfl, rfl⟩
      cases v
      · have HS2 := Lib.hid (((HR.out.below HB3.out (Nat.le_refl _)).alloc HB3.out.size (.cells #[] 27)))
        have ho2 := (World.ownsRow_lit (base := w.heap.size) (e := 27) (size := 2) (w2.setCell ⟨g, k * 2 + 1, none⟩ (.string ln)) #[] 0 HB3.out.size (Nat.zero_le _) rfl)
        rw [show (w2.setCell ⟨g, k * 2 + 1, none⟩ (.string ln)).heap.size = w2.heap.size by simp] at ho2
        have HO2 := Lib.hid ho2
        have hsz3 : w.heap.size ≤ w2.heap.size := by simpa using hsz2
        clear ho2
        go_wp2_with (at_builtin; refine wpList_append_list rfl _ _ 23 rfl w.heap.size 27 2 32 0 n c w.heap.size i0 _ (.slice (some ⟨w2.heap.size, 0, none⟩) 0 0) [] (flat headC hs) A Try.underlying23 hi0 hz0 hz1 hz2 rfl (by omega) rfl rfl HO2.out HS2.out (head_ones hs) (by unfold maxLen; omega) (by omega) (by simp; omega) ?_; intro v5 w5 hown5 hg5 hat5; simp only [Nat.zero_add, List.nil_append] at hown5; obtain ⟨A3, c3, hv5⟩ := own_slice hown5; subst hv5; have HW5 := Lib.hid hown5; have HG5 := Lib.hid hg5; clear hown5 hg5 hat5)
        go_ret2
        refine ⟨_, _, rfl, HW5.out, ?_⟩
        exact (HB3.out.alloc HB3.out.size _).grown HG5.out (by simp; omega) (fun g hg => by simp [Value.ownBlock] at hg; omega)
      · go_wp2
        go_ret2
        exact ⟨_, _, rfl, HW3.out, HB3.out⟩

/-- What the model's SetHead answers. -/
def setN (hs : List HeadM) (nm ln : ByteArray) : List HeadM := if headsB hs = true then (if headsB (setH hs nm ln) = true then setH hs nm ln else hs) else []
def setOk (hs : List HeadM) (nm ln : ByteArray) : Bool := headsB hs && headsB (setH hs nm ln)
theorem sset_any (A : Option Addr) (n c : Nat) (hs : List HeadM) (nm ln : ByteArray) (w : World) (hn : n = hs.length) (hc : n ≤ maxLen) (hr : Sees w w.heap.size 2 A n (flat headC hs)) (hm : headMax hs) (hmn : nm.size ≤ maxLen) (hml : ln.size ≤ maxLen) :
    Calls Try.prog 30 #[.slice A n c, .string nm, .string ln] w (RowB w 27 2 (setN hs nm ln).length (flat headC (setN hs nm ln)) (setOk hs nm ln)) := by
  unfold setN setOk
  by_cases hv : headsB hs = true
  · rw [if_pos hv, hv, Bool.true_and]
    obtain ⟨v, hvv⟩ : ∃ v, headsB (setH hs nm ln) = v := ⟨_, rfl⟩
    by_cases hf : ∃ k q, hs[k]? = some q ∧ (∀ p ∈ hs.take k, nameB nm p = false) ∧ nameB nm q = true
    · obtain ⟨k, q, h1, h2, h3⟩ := hf
      have := sset_found A n c k hs nm ln q w hn hr hm hmn hml hv h1 h2 h3 v hvv
      rw [hvv]
      have hl : (setH hs nm ln).length = n := by rw [setH_found h1 h2 h3, List.length_set, hn]
      cases v
      · rw [if_neg (by simp), ← hn]; exact this
      · rw [if_pos rfl, hl]; exact this
    · have h4 : ∀ p ∈ hs, nameB nm p = false := by
        intro p hp
        rw [Bool.eq_false_iff]
        intro hpt
        have hlt : hs.findIdx (nameB nm) < hs.length := List.findIdx_lt_length_of_exists ⟨p, hp, hpt⟩
        refine hf ⟨hs.findIdx (nameB nm), hs[hs.findIdx (nameB nm)], List.getElem?_eq_getElem hlt, ?_, List.findIdx_getElem (w := hlt)⟩
        intro r hr
        obtain ⟨j, hj, he⟩ := List.getElem_of_mem hr
        rw [List.length_take] at hj
        rw [List.getElem_take] at he
        have := List.not_of_lt_findIdx (show j < hs.findIdx (nameB nm) by omega)
        rw [he] at this
        simpa using this
      have := sset_new A n c hs nm ln w hn hr hm hmn hml hv h4 v hvv
      rw [hvv]
      have hl : (setH hs nm ln).length = n + 1 := by rw [setH_new h4, List.length_append, hn]; rfl
      cases v
      · rw [if_neg (by simp), ← hn]; exact this
      · rw [if_pos rfl, hl]; exact this
  · rw [if_neg hv, show headsB hs = false by simpa using hv, Bool.false_and]
    exact sset_bad A n c hs nm ln w hn hc hr hm (by simpa using hv)
end Go.Proofs.Ytnhbhopiioclmaa
