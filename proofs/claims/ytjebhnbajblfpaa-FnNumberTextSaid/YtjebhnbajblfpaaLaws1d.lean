/- The walks of the laws of chapter 1 over drawn inputs. -/
import Derived.Test.YtjebhnbajblfpaaDrawN
import Derived.OpenShut
namespace Go.Proofs.Ytjebhnbajblfpaa
open Go.RowKit
set_option linter.unusedVariables false

/-- What is known of a slice of bytes that came in. -/
def IsBytes (w : World) (a : Option Addr) (len cap : Nat) (zs : List Int) : Prop :=
  (a = none ∧ len = 0 ∧ cap = 0 ∧ zs = []) ∨
  ∃ x, a = some x ∧ len ≤ cap ∧ cap ≤ maxLen ∧ zs.length = cap ∧ (∀ i, i < zs.length → w.cell? (x.add i) = some (.int .u8 (zs.getD i 0))) ∧ ∀ n ∈ zs, (Lit.int .u8 n).wf = true
theorem bytes_of {w : World} {a : Option Addr} {len cap : Nat} {zs : List Int} (h : IsBytes w a len cap zs) : len ≤ cap ∧ cap ≤ maxLen ∧ Bytes w a len w.heap.size := by
  rcases h with ⟨rfl, rfl, rfl, rfl⟩ | ⟨x, rfl, hl, hm, hz, hc, hw⟩
  · exact ⟨Nat.le_refl _, Nat.zero_le _, .inl rfl⟩
  · refine ⟨hl, hm, ?_⟩
    by_cases h0 : len = 0
    · exact .inl h0
    · obtain ⟨b, off, spot⟩ := x
      have h1 := hc 0 (by omega)
      have hspot : spot = none := by simpa [Addr.add] using World.cell?_spot h1
      subst hspot
      refine .inr ⟨b, off, rfl, ?_, fun i hi => ?_⟩
      · have := block_lt_of_cell h1
        simpa [Addr.add] using this
      · have h2 := hc i (by omega)
        have hb := hw (zs.getD i 0) (by
          rw [List.getD_eq_getElem?_getD, List.getElem?_eq_getElem (by omega)]
          exact List.getElem_mem _)
        have e : (⟨b, off, none⟩ : Addr).add i = ⟨b, off + i, none⟩ := by
          cases i with
          | zero => rfl
          | succ j => simp [Addr.add]
        rw [e] at h2
        have h3 : 0 ≤ zs.getD i 0 ∧ zs.getD i 0 ≤ 255 := bounds_u8 hb
        exact ⟨_, h3.1, h3.2, h2⟩

theorem alive_any (w : World) : Calls Try.prog 14 #[] w fun e w' => e = .returned (.bool true) ∧ w = w' := by
  have h1 : ∀ W : World, Calls Try.prog 12 #[.string ⟨#[97, 49]⟩] W fun e w' => e = .returned (.bool true) ∧ W = w' := fun W => iword_any ⟨#[97, 49]⟩ W (by decide)
  have h2 : ∀ W : World, Calls Try.prog 12 #[.string ⟨#[49, 97]⟩] W fun e w' => e = .returned (.bool false) ∧ W = w' := fun W => iword_any ⟨#[49, 97]⟩ W (by decide)
  have H1 := Lib.hid h1
  have H2 := Lib.hid h2
  clear h1 h2
  go_enter Try.func14, Try.ntmps14
  go_wp2_with fail
  refine (H1.out _).mono ?_
  rintro e w1 ⟨rfl, rfl⟩
  go_wp2_with fail
  refine (H2.out _).mono ?_
  rintro e w1 ⟨rfl, rfl⟩
  go_wp2
  go_ret
  exact ⟨rfl, rfl⟩

theorem wordB_sp (l : List UInt8) : wordB (l ++ [32]) = false := by
  unfold wordB; rw [List.all_append]; simp [show isLd 32 = false from rfl]
theorem wordB_take (l : List UInt8) (h : wordB l = true) : wordB (l.take 1) = true := by
  cases l with
  | nil => exact h
  | cons c t =>
    unfold wordB at h ⊢
    simp at h ⊢
    exact ⟨h.1.2, h.2.1⟩
theorem iword_t (s : ByteArray) (w : World) (hs : s.size ≤ maxLen) (h : wordB s.data.toList = true) :
    Calls Try.prog 12 #[.string s] w fun e w' => e = .returned (.bool true) ∧ w = w' := by
  have := iword_any s w hs; rw [h] at this; exact this
theorem iword_f (s : ByteArray) (w : World) (hs : s.size ≤ maxLen) (h : wordB s.data.toList = false) :
    Calls Try.prog 12 #[.string s] w fun e w' => e = .returned (.bool false) ∧ w = w' := by
  have := iword_any s w hs; rw [h] at this; exact this
theorem sword_t (s : ByteArray) (w : World) (hs : s.size ≤ maxLen) (h : wordB s.data.toList = true) :
    Calls Try.prog 13 #[.string s] w fun e w' => e = .returned (.bool true) ∧ w = w' := by
  have := sword_any s w hs; rw [h] at this; exact this
theorem sword_f (s : ByteArray) (w : World) (hs : s.size ≤ maxLen) (h : wordB s.data.toList = false) :
    Calls Try.prog 13 #[.string s] w fun e w' => e = .returned (.bool false) ∧ w = w' := by
  have := sword_any s w hs; rw [h] at this; exact this

set_option maxHeartbeats 1000000 in
theorem walk_FnWordValid (a0 : Option Addr) (len0 cap0 : Nat) (z0 : List Int) (w : World) (w0 : IsBytes w a0 len0 cap0 z0) :
    Calls Try.prog 3 #[.slice a0 len0 cap0] w fun e w' => e = .returned (.bool true) ∧ Below w.heap.size w w' := by
  obtain ⟨hlc, hcm, hb⟩ := bytes_of w0
  have HB := Lib.hid hb
  have hcm' := hcm
  unfold maxLen at hcm'
  clear w0 hb
  by_cases hbig : (1048576 : Int) < len0
  · go_enter Try.func3, Try.ntmps3
    go_wp2
    go_ret
    exact ⟨rfl, Below.refl _ _⟩
  go_enter Try.func3, Try.ntmps3
  go_wp2_with fail
  refine (drawWord_any _ _ _ _ hlc hcm HB.out).mono ?_
  rintro e w1 ⟨s, hs, rfl, hb1⟩
  have HB1 := Lib.hid hb1
  have hsm : s.size ≤ maxLen := by unfold maxLen; omega
  have HS := Lib.hid hsm
  clear hb1 hsm
  have HF : Hid (wordB (s ++ ⟨#[32]⟩).data.toList = false) := by show _ = _; rw [cat_list]; exact wordB_sp _
  have HFs : Hid ((s ++ (⟨#[32]⟩ : ByteArray)).size ≤ maxLen) := by show _ ≤ _; rw [size_cat]; unfold maxLen; show _ + 1 ≤ _; omega
  by_cases hw : wordB s.data.toList = true
  · have HW := Lib.hid hw
    have hp : 0 < s.size := by
      have : 1 ≤ s.data.toList.length := by
        unfold wordB at hw
        simp only [Bool.and_eq_true, decide_eq_true_eq] at hw
        exact hw.1.1.1
      have e : s.data.toList.length = s.size := by simp
      omega
    clear hw
    have HT : Hid (wordB (s.extract 0 1).data.toList = true) := by
      show _ = _
      have e : (s.extract 0 1).data.toList = s.data.toList.take 1 := by simp
      rw [e]; exact wordB_take _ HW.out
    have HTs : Hid ((s.extract 0 1).size ≤ maxLen) := by show _ ≤ _; unfold maxLen; simp; omega
    go_wp2_with fail
    refine (iword_t _ _ HS.out HW.out).mono ?_
    rintro e w2 ⟨rfl, rfl⟩
    go_wp2_with fail
    refine (sword_t _ _ HS.out HW.out).mono ?_
    rintro e w2 ⟨rfl, rfl⟩
    go_wp2_with fail
    refine (iword_f _ _ HFs.out HF.out).mono ?_
    rintro e w2 ⟨rfl, rfl⟩
    go_wp2_with fail
    refine (iword_t _ _ HTs.out HT.out).mono ?_
    rintro e w2 ⟨rfl, rfl⟩
    go_wp2_with fail
    refine (alive_any _).mono ?_
    rintro e w2 ⟨rfl, rfl⟩
    go_wp2
    go_ret
    exact ⟨rfl, HB1.out⟩
  · have HW : Hid (wordB s.data.toList = false) := Lib.hid (by simpa using hw)
    clear hw
    go_wp2_with fail
    refine (iword_f _ _ HS.out HW.out).mono ?_
    rintro e w2 ⟨rfl, rfl⟩
    go_wp2_with fail
    refine (sword_f _ _ HS.out HW.out).mono ?_
    rintro e w2 ⟨rfl, rfl⟩
    go_wp2_with fail
    refine (iword_f _ _ HFs.out HF.out).mono ?_
    rintro e w2 ⟨rfl, rfl⟩
    go_wp2_with fail
    refine (alive_any _).mono ?_
    rintro e w2 ⟨rfl, rfl⟩
    go_wp2
    go_ret
    exact ⟨rfl, HB1.out⟩

theorem iline_t (s : ByteArray) (w : World) (hs : s.size ≤ maxLen) (h : lineB s.data.toList = true) :
    Calls Try.prog 16 #[.string s] w fun e w' => e = .returned (.bool true) ∧ w = w' := by
  have := iline_any s w hs; rw [h] at this; exact this
theorem iline_f (s : ByteArray) (w : World) (hs : s.size ≤ maxLen) (h : lineB s.data.toList = false) :
    Calls Try.prog 16 #[.string s] w fun e w' => e = .returned (.bool false) ∧ w = w' := by
  have := iline_any s w hs; rw [h] at this; exact this
theorem sline_t (s : ByteArray) (w : World) (hs : s.size ≤ maxLen) (h : lineB s.data.toList = true) :
    Calls Try.prog 17 #[.string s] w fun e w' => e = .returned (.bool true) ∧ w = w' := by
  have := sline_any s w hs; rw [h] at this; exact this
theorem sline_f (s : ByteArray) (w : World) (hs : s.size ≤ maxLen) (h : lineB s.data.toList = false) :
    Calls Try.prog 17 #[.string s] w fun e w' => e = .returned (.bool false) ∧ w = w' := by
  have := sline_any s w hs; rw [h] at this; exact this

theorem lineB_sp (l : List UInt8) : lineB (l ++ [32]) = false := by
  unfold lineB; simp
theorem lineB_sp2 (l : List UInt8) : lineB ([32] ++ l) = false := by
  unfold lineB; simp
theorem lineB_between (l : List UInt8) (h : lineB l = true) (hl : l.length + 2 ≤ 60) : lineB ([97] ++ l ++ [98]) = true := by
  unfold lineB at h ⊢
  rw [Bool.and_eq_true, Bool.and_eq_true] at h
  have ha := h.1.2
  rw [List.all_append, List.all_append, ha]
  have e1 : ([97] ++ l ++ [98] : List UInt8).length ≤ 60 := by simp; omega
  have e2 : ([97] ++ l ++ [98] : List UInt8).isEmpty = false := by simp
  have e3 : ([97] ++ l ++ [98] : List UInt8).getLastD 0 = 98 := by rw [List.getLastD_eq_getLast?, List.getLast?_append]; rfl
  have e4 : ([97] ++ l ++ [98] : List UInt8).headD 0 = 97 := rfl
  rw [decide_eq_true e1, e2, e3, e4]
  rfl

set_option maxHeartbeats 1000000 in
theorem walk_FnLineValid (a0 : Option Addr) (len0 cap0 : Nat) (z0 : List Int) (w : World) (w0 : IsBytes w a0 len0 cap0 z0) :
    Calls Try.prog 4 #[.slice a0 len0 cap0] w fun e w' => e = .returned (.bool true) ∧ Below w.heap.size w w' := by
  obtain ⟨hlc, hcm, hb⟩ := bytes_of w0
  have HB := Lib.hid hb
  have hcm' := hcm
  unfold maxLen at hcm'
  clear w0 hb
  by_cases hbig : (1048576 : Int) < len0
  · go_enter Try.func4, Try.ntmps4
    go_wp2
    go_ret
    exact ⟨rfl, Below.refl _ _⟩
  go_enter Try.func4, Try.ntmps4
  go_wp2_with fail
  refine (drawLine_any _ _ _ _ hlc hcm HB.out).mono ?_
  rintro e w1 ⟨s, hs, rfl, hb1⟩
  have HB1 := Lib.hid hb1
  clear hb1
  have hsm : s.size ≤ maxLen := by unfold maxLen; omega
  have HS := Lib.hid hsm
  clear hsm
  have HF : Hid (lineB (s ++ ⟨#[32]⟩).data.toList = false) := by show _ = _; rw [cat_list]; exact lineB_sp _
  have HFs : Hid ((s ++ (⟨#[32]⟩ : ByteArray)).size ≤ maxLen) := by show _ ≤ _; rw [size_cat]; unfold maxLen; show _ + 1 ≤ _; omega
  have HG : Hid (lineB ((⟨#[32]⟩ : ByteArray) ++ s).data.toList = false) := by show _ = _; rw [cat_list]; exact lineB_sp2 _
  have HGs : Hid (((⟨#[32]⟩ : ByteArray) ++ s).size ≤ maxLen) := by show _ ≤ _; rw [size_cat]; unfold maxLen; show 1 + _ ≤ _; omega
  by_cases hw : lineB s.data.toList = true
  · have HW := Lib.hid hw
    clear hw
    go_wp2_with fail
    refine (iline_t _ _ HS.out HW.out).mono ?_
    rintro e w2 ⟨rfl, rfl⟩
    go_wp2_with fail
    refine (sline_t _ _ HS.out HW.out).mono ?_
    rintro e w2 ⟨rfl, rfl⟩
    go_wp2_with fail
    refine (iline_f _ _ HFs.out HF.out).mono ?_
    rintro e w2 ⟨rfl, rfl⟩
    go_wp2_with fail
    refine (iline_f _ _ HGs.out HG.out).mono ?_
    rintro e w2 ⟨rfl, rfl⟩
    by_cases hl : 60 < s.size + 2
    · have hd : decide (60 < (s.size : Int) + 2) = true := decide_eq_true (by omega)
      go_wp2_with fail
      refine (alive_any _).mono ?_
      rintro e w2 ⟨rfl, rfl⟩
      go_wp2
      go_ret
      exact ⟨rfl, HB1.out⟩
    · have hd : decide (60 < (s.size : Int) + 2) = false := decide_eq_false (by omega)
      have HT : Hid (lineB ((⟨#[97]⟩ : ByteArray) ++ s ++ ⟨#[98]⟩).data.toList = true) := by
        show _ = _; rw [cat_list, cat_list]; exact lineB_between _ HW.out (by have : s.data.toList.length = s.size := by simp
                                                                              omega)
      have HTs : Hid (((⟨#[97]⟩ : ByteArray) ++ s ++ ⟨#[98]⟩).size ≤ maxLen) := by show _ ≤ _; rw [size_cat, size_cat]; unfold maxLen; show 1 + _ + 1 ≤ _; omega
      go_wp2_with fail
      refine (iline_t _ _ HTs.out HT.out).mono ?_
      rintro e w2 ⟨rfl, rfl⟩
      go_wp2_with fail
      refine (alive_any _).mono ?_
      rintro e w2 ⟨rfl, rfl⟩
      go_wp2
      go_ret
      exact ⟨rfl, HB1.out⟩
  · have HW : Hid (lineB s.data.toList = false) := Lib.hid (by simpa using hw)
    clear hw
    go_wp2_with fail
    refine (iline_f _ _ HS.out HW.out).mono ?_
    rintro e w2 ⟨rfl, rfl⟩
    go_wp2_with fail
    refine (sline_f _ _ HS.out HW.out).mono ?_
    rintro e w2 ⟨rfl, rfl⟩
    go_wp2_with fail
    refine (iline_f _ _ HFs.out HF.out).mono ?_
    rintro e w2 ⟨rfl, rfl⟩
    go_wp2_with fail
    refine (iline_f _ _ HGs.out HG.out).mono ?_
    rintro e w2 ⟨rfl, rfl⟩
    go_wp2_with fail
    refine (alive_any _).mono ?_
    rintro e w2 ⟨rfl, rfl⟩
    go_wp2
    go_ret
    exact ⟨rfl, HB1.out⟩

set_option maxHeartbeats 1000000 in
theorem walk_FnNumberText (a0 : Option Addr) (len0 cap0 : Nat) (z0 : List Int) (w : World) (w0 : IsBytes w a0 len0 cap0 z0) :
    Calls Try.prog 5 #[.slice a0 len0 cap0] w fun e w' => e = .returned (.bool true) ∧ Below w.heap.size w w' := by
  obtain ⟨hlc, hcm, hb⟩ := bytes_of w0
  have HB := Lib.hid hb
  have hcm' := hcm
  unfold maxLen at hcm'
  clear w0 hb
  by_cases hbig : (1048576 : Int) < len0
  · go_enter Try.func5, Try.ntmps5
    go_wp2
    go_ret
    exact ⟨rfl, Below.refl _ _⟩
  go_enter Try.func5, Try.ntmps5
  go_wp2_with fail
  refine (drawNum_any _ _ _ _ hlc hcm HB.out).mono ?_
  rintro e w1 ⟨n, n0, n1, rfl, hb1⟩
  have HB1 := Lib.hid hb1
  clear hb1
  by_cases hn : 0 ≤ n ∧ n ≤ 1000000
  · obtain ⟨hn0, hn1⟩ := hn
    have e8 : (textS n).toList = numT n.toNat := by rw [ByteArray.toList_eq, textS_yes hn0 hn1]
    have hE : (textS n).toList.isEmpty = false := by rw [e8, List.isEmpty_eq_false_iff]; exact numT_ne _
    have hR : readN (textS n).data.toList = n := by rw [textS_yes hn0 hn1]; show readN (numT n.toNat) = n; rw [readN_numT _ (by omega)]; omega
    have HR := Lib.hid hR
    have hts : (textS n).size ≤ maxLen := by have := textS_size n; unfold maxLen; omega
    have HTs := Lib.hid hts
    clear e8 hR hts
    have hcr : ∀ W : World, Calls Try.prog 21 #[.string (textS n)] W fun e w' => e = .returned (.int .i64 n) ∧ W = w' := by
      intro W; have := iread_any (textS n) W HTs.out; rw [HR.out] at this; exact this
    have HCR := Lib.hid hcr
    clear hcr
    go_wp2_with fail
    refine (inum_any _ _).mono ?_
    rintro e w2 ⟨rfl, rfl⟩
    go_wp2_with fail
    refine (snum_any _ _).mono ?_
    rintro e w2 ⟨rfl, hb2⟩
    have HB2 := Lib.hid (HB1.out.trans (hb2.mono HB1.out.size))
    clear hb2
    go_wp2_with fail
    refine (HCR.out _).mono ?_
    rintro e w3 ⟨rfl, rfl⟩
    go_wp2
    go_ret
    exact ⟨rfl, HB2.out⟩
  · have hT := textS_no (n := n) (by omega)
    have HT := Lib.hid hT
    clear hT
    have hci : ∀ W : World, Calls Try.prog 19 #[.int .i64 n] W fun e w' => e = .returned (.string ByteArray.empty) ∧ W = w' := by
      intro W; have := inum_any n W; rw [HT.out] at this; exact this
    have hcs : ∀ W : World, Calls Try.prog 20 #[.int .i64 n] W fun e w' => e = .returned (.string ByteArray.empty) ∧ Below W.heap.size W w' := by
      intro W; have := snum_any n W; rw [HT.out] at this; exact this
    have HCI := Lib.hid hci
    have HCS := Lib.hid hcs
    clear hci hcs
    have hn' : n < 0 ∨ (0 ≤ n ∧ 1000000 < n) := by omega
    clear hn
    go_wp2_with fail
    refine (HCI.out _).mono ?_
    rintro e w2 ⟨rfl, rfl⟩
    go_wp2_with fail
    refine (HCS.out _).mono ?_
    rintro e w2 ⟨rfl, hb2⟩
    have HB2 := Lib.hid (HB1.out.trans (hb2.mono HB1.out.size))
    clear hb2
    rcases hn' with hn' | ⟨hn', hn''⟩
    all_goals
      go_wp2_with fail
      refine (alive_any _).mono ?_
      rintro e w3 ⟨rfl, rfl⟩
      go_wp2
      go_ret
      exact ⟨rfl, HB2.out⟩

set_option maxHeartbeats 1000000 in
theorem walk_FnReadNumber (a0 : Option Addr) (len0 cap0 : Nat) (z0 : List Int) (w : World) (w0 : IsBytes w a0 len0 cap0 z0) :
    Calls Try.prog 6 #[.slice a0 len0 cap0] w fun e w' => e = .returned (.bool true) ∧ Below w.heap.size w w' := by
  obtain ⟨hlc, hcm, hb⟩ := bytes_of w0
  have HB := Lib.hid hb
  have hcm' := hcm
  unfold maxLen at hcm'
  clear w0 hb
  by_cases hbig : (1048576 : Int) < len0
  · go_enter Try.func6, Try.ntmps6
    go_wp2
    go_ret
    exact ⟨rfl, Below.refl _ _⟩
  go_enter Try.func6, Try.ntmps6
  go_wp2_with fail
  refine (drawRead_any _ _ _ _ hlc hcm HB.out).mono ?_
  rintro e w1 ⟨s, hs, rfl, hb1⟩
  have HB1 := Lib.hid hb1
  clear hb1
  have hsm : s.size ≤ maxLen := by unfold maxLen; omega
  have HS := Lib.hid hsm
  clear hsm
  by_cases hn : readN s.data.toList < 0
  · have HN := Lib.hid (readN_lt _ hn)
    clear hn
    have hci : ∀ W : World, Calls Try.prog 21 #[.string s] W fun e w' => e = .returned (.int .i64 (-1)) ∧ W = w' := by
      intro W; have := iread_any s W HS.out; rw [HN.out] at this; exact this
    have hcs : ∀ W : World, Calls Try.prog 23 #[.string s] W fun e w' => e = .returned (.int .i64 (-1)) ∧ Below W.heap.size W w' := by
      intro W; have := sread_any s W HS.out; rw [HN.out] at this; exact this
    have HCI := Lib.hid hci
    have HCS := Lib.hid hcs
    clear hci hcs
    go_wp2_with fail
    refine (HCI.out _).mono ?_
    rintro e w2 ⟨rfl, rfl⟩
    go_wp2_with fail
    refine (HCS.out _).mono ?_
    rintro e w2 ⟨rfl, hb2⟩
    have HB2 := Lib.hid (HB1.out.trans (hb2.mono HB1.out.size))
    clear hb2
    go_wp2_with fail
    refine (alive_any _).mono ?_
    rintro e w3 ⟨rfl, rfl⟩
    go_wp2
    go_ret
    exact ⟨rfl, HB2.out⟩
  · obtain ⟨v, hv⟩ : ∃ v, v = readN s.data.toList := ⟨_, rfl⟩
    have hv0 : 0 ≤ v := by omega
    have hci : ∀ W : World, Calls Try.prog 21 #[.string s] W fun e w' => e = .returned (.int .i64 v) ∧ W = w' := by
      intro W; have := iread_any s W HS.out; rw [← hv] at this; exact this
    have hcs : ∀ W : World, Calls Try.prog 23 #[.string s] W fun e w' => e = .returned (.int .i64 v) ∧ Below W.heap.size W w' := by
      intro W; have := sread_any s W HS.out; rw [← hv] at this; exact this
    have hT : textS v = s := by
      unfold textS; rw [hv, textN_readN _ (by omega)]
    have hct : ∀ W : World, Calls Try.prog 19 #[.int .i64 v] W fun e w' => e = .returned (.string s) ∧ W = w' := by
      intro W; have := inum_any v W; rw [hT] at this; exact this
    have hne : s.data.toList ≠ [] := by
      intro e; rw [e, readN_nil] at hv; omega
    have hz : readN ((⟨#[48]⟩ : ByteArray) ++ s).data.toList = -1 := by
      rw [cat_list]
      exact readN_zero _ (by have := List.length_pos_iff.mpr hne; simp; simpa using this) rfl
    have HZs : Hid (((⟨#[48]⟩ : ByteArray) ++ s).size ≤ maxLen) := by show _ ≤ _; rw [size_cat]; unfold maxLen; show 1 + _ ≤ _; omega
    have hcz : ∀ W : World, Calls Try.prog 21 #[.string ((⟨#[48]⟩ : ByteArray) ++ s)] W fun e w' => e = .returned (.int .i64 (-1)) ∧ W = w' := by
      intro W; have := iread_any ((⟨#[48]⟩ : ByteArray) ++ s) W HZs.out; rw [hz] at this; exact this
    have HCI := Lib.hid hci
    have HCS := Lib.hid hcs
    have HCT := Lib.hid hct
    have HCZ := Lib.hid hcz
    clear hci hcs hct hcz hz hne hT hv hn
    go_wp2_with fail
    refine (HCI.out _).mono ?_
    rintro e w2 ⟨rfl, rfl⟩
    go_wp2_with fail
    refine (HCS.out _).mono ?_
    rintro e w2 ⟨rfl, hb2⟩
    have HB2 := Lib.hid (HB1.out.trans (hb2.mono HB1.out.size))
    clear hb2
    go_wp2_with fail
    refine (HCT.out _).mono ?_
    rintro e w3 ⟨rfl, rfl⟩
    go_wp2_with fail
    refine (HCZ.out _).mono ?_
    rintro e w3 ⟨rfl, rfl⟩
    go_wp2
    go_ret
    exact ⟨rfl, HB2.out⟩
end Go.Proofs.Ytjebhnbajblfpaa
