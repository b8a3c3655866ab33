/- The contracts of the functions that draw addresses. -/
import Derived.Test.YtbciclhneajbgaaDrawW
import Derived.Test.YtbciclhneajbgaaAddr
namespace Go.Proofs.Ytbciclhneajbgaa
open Go.RowKit
set_option linter.unusedVariables false

set_option maxHeartbeats 1000000 in
theorem address_any (w : World) (g q : Nat) (n : Int) (hr : Rd w g q) (hq : q ≤ 999990) (hn : 0 ≤ n) (hn2 : n ≤ 2147483647) :
    Calls Try.prog 22 #[.pointer (some ⟨g, 0, none⟩), .int .i64 n] w fun e w' => ∃ u h : ByteArray, u.size ≤ 11 ∧ h.size ≤ 11 ∧ e = .returned (.agg #[.string u, .string h]) ∧ Rd w' g (q + 4) ∧ w.grownBy w' (some g) := by
  have HR := Lib.hid hr
  clear hr
  have hg := HR.out.lt
  have hne : w.heap.size ≠ g := by omega
  go_enter Try.func22, Try.ntmps22
  go_wp2_with fail
  refine (word_any _ g q n (HR.out.alloc _) (by omega) hn hn2).mono ?_
  rintro e w1 ⟨u, hu, rfl, hr1, hg1⟩
  have HR1 := Lib.hid hr1
  have HG1 := Lib.hid hg1
  clear hr1 hg1
  go_wp2_with fail
  refine (word_any _ g (q + 2) n HR1.out (by omega) hn hn2).mono ?_
  rintro e w2 ⟨h, hh, rfl, hr2, hg2⟩
  have HR2 := Lib.hid hr2
  have HG2 := Lib.hid (grown_step HG1.out hg2)
  have HW := Lib.hid (grown_step (grown_alloc (grown_refl w g) _) (grown_step HG1.out hg2))
  clear hr2 hg2
  have hc0 : w2.cell? ⟨w.heap.size, 0, none⟩ = some (.string ⟨#[]⟩) := by rw [(gcell HG2.out).1 _ _ (by simp) hne]; simp [go_sem]
  have hc1 : w2.cell? ⟨w.heap.size, 1, none⟩ = some (.string ⟨#[]⟩) := by rw [(gcell HG2.out).1 _ _ (by simp) hne]; simp [go_sem]
  have hf0 : w2.frozen? ⟨w.heap.size, 0, none⟩ = false := by rw [(gcell HG2.out).2 _ _ (by simp) hne]; simp [go_sem]
  have hf1 : w2.frozen? ⟨w.heap.size, 1, none⟩ = false := by rw [(gcell HG2.out).2 _ _ (by simp) hne]; simp [go_sem]
  have HT := Lib.hid (set_two hc0 hc1 (.string u) (.string h))
  go_wp2
  have hT := HT.out
  refine bodyPost_ret (v := .agg #[.string u, .string h]) (by simp [results, Try.results22, go_sem, hT.1, hT.2]) rfl ⟨u, h, hu, hh, rfl, ?_, ?_⟩
  · exact (HR2.out.setCell hg _).setCell hg _
  · exact grown_set (grown_set HW.out (Nat.le_refl _) _) (Nat.le_refl _) _

set_option maxHeartbeats 1000000 in
theorem drawAv_any (w : World) (ao : Option Addr) (len cap : Nat) (hlc : len ≤ cap) (hc : cap ≤ maxLen) (hb : Bytes w ao len w.heap.size) :
    Calls Try.prog 9 #[.slice ao len cap] w fun e w' => ∃ u h : ByteArray, u.size ≤ 11 ∧ h.size ≤ 11 ∧ e = .returned (.agg #[.string u, .string h]) ∧ Below w.heap.size w w' := by
  have HB := Lib.hid hb
  clear hb
  go_enter Try.func9, Try.ntmps9
  go_wp2_with fail
  refine (open_any _ _ _ _ hlc hc (HB.out.alloc _)).mono ?_
  rintro e w1 ⟨rfl, hr1, hb1⟩
  have HR1 := Lib.hid hr1
  have HB1 := Lib.hid hb1
  clear hr1 hb1
  go_wp2_with fail
  rw [World.size_alloc] at HR1
  refine (address_any _ (w.heap.size + 1) 0 4 HR1.out (by omega) (by omega) (by omega)).mono ?_
  rintro e w2 ⟨u, h, hu, hh, rfl, hr2, hg2⟩
  have HG2 := Lib.hid hg2
  have HW1 := Lib.hid (((Below.refl w.heap.size w).alloc (Nat.le_refl _) _).trans (HB1.out.mono (by simp)))
  have HW2 := Lib.hid (HW1.out.grown HG2.out HW1.out.size (by intro k hk; injection hk with hk; omega))
  have hz := HB1.out.size
  clear hr2 hg2
  rw [World.size_alloc] at hz
  have hc0 : w2.cell? ⟨w.heap.size, 0, none⟩ = some (.string ⟨#[]⟩) := by rw [(gcell HG2.out).1 _ _ (by omega) (by omega), HB1.out.cell (p := ⟨w.heap.size, 0, none⟩) (by simp)]; simp [go_sem]
  have hc1 : w2.cell? ⟨w.heap.size, 1, none⟩ = some (.string ⟨#[]⟩) := by rw [(gcell HG2.out).1 _ _ (by omega) (by omega), HB1.out.cell (p := ⟨w.heap.size, 1, none⟩) (by simp)]; simp [go_sem]
  have hf0 : w2.frozen? ⟨w.heap.size, 0, none⟩ = false := by rw [(gcell HG2.out).2 _ _ (by omega) (by omega), HB1.out.frozen (p := ⟨w.heap.size, 0, none⟩) (by simp)]; simp [go_sem]
  have hf1 : w2.frozen? ⟨w.heap.size, 1, none⟩ = false := by rw [(gcell HG2.out).2 _ _ (by omega) (by omega), HB1.out.frozen (p := ⟨w.heap.size, 1, none⟩) (by simp)]; simp [go_sem]
  have HT := Lib.hid (set_two hc0 hc1 (.string u) (.string h))
  clear hz
  go_wp2
  have hT := HT.out
  refine bodyPost_ret (v := .agg #[.string u, .string h]) (by simp [results, Try.results9, go_sem, hT.1, hT.2]) rfl ⟨u, h, hu, hh, rfl, ?_⟩
  exact (HW2.out.setCell (Nat.le_refl _) _).setCell (Nat.le_refl _) _

set_option maxHeartbeats 1000000 in
theorem drawAt_any (w : World) (ao : Option Addr) (len cap : Nat) (hlc : len ≤ cap) (hc : cap ≤ maxLen) (hb : Bytes w ao len w.heap.size) :
    Calls Try.prog 13 #[.slice ao len cap] w fun e w' => ∃ u h : ByteArray, u.size ≤ 11 ∧ h.size ≤ 11 ∧ e = .returned (.agg #[.string u, .string h]) ∧ Below w.heap.size w w' := by
  have HB := Lib.hid hb
  clear hb
  go_enter Try.func13, Try.ntmps13
  go_wp2_with fail
  refine (open_any _ _ _ _ hlc hc (HB.out.alloc _)).mono ?_
  rintro e w1 ⟨rfl, hr1, hb1⟩
  have HR1 := Lib.hid hr1
  have HB1 := Lib.hid hb1
  clear hr1 hb1
  go_wp2_with fail
  rw [World.size_alloc] at HR1
  refine (address_any _ (w.heap.size + 1) 0 9 HR1.out (by omega) (by omega) (by omega)).mono ?_
  rintro e w2 ⟨u, h, hu, hh, rfl, hr2, hg2⟩
  have HG2 := Lib.hid hg2
  have HW1 := Lib.hid (((Below.refl w.heap.size w).alloc (Nat.le_refl _) _).trans (HB1.out.mono (by simp)))
  have HW2 := Lib.hid (HW1.out.grown HG2.out HW1.out.size (by intro k hk; injection hk with hk; omega))
  have hz := HB1.out.size
  clear hr2 hg2
  rw [World.size_alloc] at hz
  have hc0 : w2.cell? ⟨w.heap.size, 0, none⟩ = some (.string ⟨#[]⟩) := by rw [(gcell HG2.out).1 _ _ (by omega) (by omega), HB1.out.cell (p := ⟨w.heap.size, 0, none⟩) (by simp)]; simp [go_sem]
  have hc1 : w2.cell? ⟨w.heap.size, 1, none⟩ = some (.string ⟨#[]⟩) := by rw [(gcell HG2.out).1 _ _ (by omega) (by omega), HB1.out.cell (p := ⟨w.heap.size, 1, none⟩) (by simp)]; simp [go_sem]
  have hf0 : w2.frozen? ⟨w.heap.size, 0, none⟩ = false := by rw [(gcell HG2.out).2 _ _ (by omega) (by omega), HB1.out.frozen (p := ⟨w.heap.size, 0, none⟩) (by simp)]; simp [go_sem]
  have hf1 : w2.frozen? ⟨w.heap.size, 1, none⟩ = false := by rw [(gcell HG2.out).2 _ _ (by omega) (by omega), HB1.out.frozen (p := ⟨w.heap.size, 1, none⟩) (by simp)]; simp [go_sem]
  have HT := Lib.hid (set_two hc0 hc1 (.string u) (.string h))
  clear hz
  go_wp2
  have hT := HT.out
  refine bodyPost_ret (v := .agg #[.string u, .string h]) (by simp [results, Try.results13, go_sem, hT.1, hT.2]) rfl ⟨u, h, hu, hh, rfl, ?_⟩
  exact (HW2.out.setCell (Nat.le_refl _) _).setCell (Nat.le_refl _) _

theorem sat_any (u h : ByteArray) (w : World) (hu : u.size ≤ 11) (hh : h.size ≤ 11) :
    Calls Try.prog 15 #[.agg #[.string u, .string h]] w fun e w' => ∃ s : ByteArray, s.size ≤ 27 ∧ e = .returned (.string s) ∧ Below w.heap.size w w' := by
  by_cases hv : (wordB u.data.toList && wordB h.data.toList) = true
  · rw [Bool.and_eq_true] at hv
    refine (sat_t u h w hv.1 hv.2).mono ?_
    rintro e w' ⟨rfl, hb⟩
    refine ⟨_, ?_, rfl, hb⟩
    have e : (⟨(addrT u.data.toList h.data.toList).toArray⟩ : ByteArray).size = (addrT u.data.toList h.data.toList).length := rfl
    rw [e]
    have e1 : u.data.toList.length = u.size := by simp
    have e2 : h.data.toList.length = h.size := by simp
    unfold addrT
    simp only [List.length_append, e1, e2, List.length_cons, List.length_nil]
    omega
  · refine (sat_f u h w (by unfold maxLen; omega) (by unfold maxLen; omega) (by simpa using hv)).mono ?_
    rintro e w' ⟨rfl, hb⟩
    exact ⟨_, Nat.zero_le _, rfl, hb⟩

set_option maxHeartbeats 1000000 in
theorem drawAr_any (w : World) (ao : Option Addr) (len cap : Nat) (hlc : len ≤ cap) (hc : cap ≤ maxLen) (hb : Bytes w ao len w.heap.size) :
    Calls Try.prog 17 #[.slice ao len cap] w fun e w' => ∃ s : ByteArray, s.size ≤ 28 ∧ e = .returned (.string s) ∧ Below w.heap.size w w' := by
  have HB := Lib.hid hb
  clear hb
  go_enter Try.func17, Try.ntmps17
  go_wp2_with fail
  refine (open_any _ _ _ _ hlc hc HB.out).mono ?_
  rintro e w1 ⟨rfl, hr1, hb1⟩
  have HR1 := Lib.hid hr1
  have HB1 := Lib.hid hb1
  clear hr1 hb1
  go_wp2_with fail
  refine (address_any _ w.heap.size 0 0 HR1.out (by omega) (by omega) (by omega)).mono ?_
  rintro e w2 ⟨u, h, hu, hh, rfl, hr2, hg2⟩
  have HR2 := Lib.hid hr2
  have HB2 := Lib.hid (below_g HB1.out hg2)
  clear hr2 hg2
  go_wp2_with fail
  refine (sat_any _ _ _ hu hh).mono ?_
  rintro e w3 ⟨t, ht, rfl, hb3⟩
  have HR3 := Lib.hid (HR2.out.below (hb3.mono HR2.out.lt))
  have HB3 := Lib.hid (HB2.out.trans (hb3.mono HB2.out.size))
  clear hb3
  go_wp2_with fail
  refine (odd_any _ _ 4 3 HR3.out (by omega) (by omega) (by omega)).mono ?_
  rintro e w5 ⟨x, rfl, hr5, hg5⟩
  have HR5 := Lib.hid hr5
  have HB5 := Lib.hid (below_g HB3.out hg5)
  clear hr5 hg5
  cases x
  · go_wp2
    go_ret
    exact ⟨t, by omega, rfl, HB5.out⟩
  · go_wp2_with fail
    refine (pick_pos _ _ 5 10 (HR5.out.alloc _) (by omega) (by omega) (by omega)).mono ?_
    rintro e w6 ⟨y3, y30, y31, rfl, hr6, hg6⟩
    have HB6 := Lib.hid (below_g (below_a HB5.out _) hg6)
    have hT := Lib.hid (cell_table hg6 HR5.out.lt y3.toNat)
    clear hr6 hg6
    obtain ⟨s, hs, hc⟩ := strs_at (M := 28) (C := #[.string ⟨#[]⟩, .string ⟨#[115, 105, 112, 58]⟩, .string ⟨#[115, 105, 112, 58, 64, 97]⟩, .string ⟨#[115, 105, 112, 58, 97, 64]⟩, .string ⟨#[115, 105, 112, 58, 97]⟩, .string ⟨#[97, 64, 98]⟩, .string ⟨#[115, 105, 112, 58, 97, 64, 98, 64, 99]⟩, .string ⟨#[115, 105, 112, 58, 65, 64, 98]⟩, .string ⟨#[116, 101, 108, 58, 97, 64, 98]⟩, .string (t ++ ⟨#[32]⟩)]) (by
      have e1 : (t ++ ⟨#[32]⟩).size ≤ 28 := by rw [size_cat]; show _ + 1 ≤ _; omega
      unfold strsB
      simp only [List.all_cons, List.all_nil, decide_eq_true e1]
      rfl) y3.toNat (by show y3.toNat < 10; omega)
    have hcs := hT.out.trans hc
    clear hc
    go_wp2
    go_ret
    exact ⟨s, hs, rfl, HB6.out⟩
end Go.Proofs.Ytbciclhneajbgaa
