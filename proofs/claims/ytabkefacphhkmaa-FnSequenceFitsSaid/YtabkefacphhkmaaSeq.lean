/- The contracts of the functions of chapter 5: valid sequences, their texts, what fits. -/
import Derived.Test.YtabkefacphhkmaaWords
import Derived.Test.YtabkefacphhkmaaNums
import Derived.Test.YtabkefacphhkmaaWorld
import Derived.Test.YtabkefacphhkmaaLists
import Derived.RegionTactic
import Derived.BigRegion
import Derived.Deep.RegionLaw
import Derived.Deep.RegionHeld3
import Derived.StillTailTactics
import Derived.Deep.QuietTactic
import Derived.BigQuiet
import Derived.Outline
namespace Go.Proofs.Ytabkefacphhkmaa
open Go.RowKit
set_option linter.unusedVariables false
set_option maxRecDepth 20000

/-- A valid sequence. -/
def seqB (a : ByteArray) (n : Int) : Bool := wordB a.data.toList && (decide (1 ≤ n) && decide (n ≤ 1000000))
theorem seq_word {a : ByteArray} {n : Int} (h : seqB a n = true) : wordB a.data.toList = true ∧ 1 ≤ n ∧ n ≤ 1000000 := by
  unfold seqB at h
  simp only [Bool.and_eq_true, decide_eq_true_eq] at h
  exact h
theorem seq_size {a : ByteArray} {n : Int} (h : seqB a n = true) : a.size ≤ 10 := by
  have := word_len (seq_word h).1
  have e : a.data.toList.length = a.size := by simp
  omega
set_option maxHeartbeats 1000000 in
theorem isq_any (a : ByteArray) (n : Int) (w : World) (ha : a.size ≤ maxLen) :
    Calls Try.prog 12 #[.agg #[.string a, .int .i64 n]] w fun e w' => e = .returned (.bool (seqB a n)) ∧ Below w.heap.size w w' := by
  have HA := Lib.hid ha
  clear ha
  by_cases h1 : wordB a.data.toList = true
  · have H1 := Lib.hid h1
    clear h1
    by_cases h2 : 1 ≤ n
    · by_cases h3 : n ≤ 1000000
      all_goals
        go_enter Try.func12, Try.ntmps12
        go_wp2_with fail
        refine (iword_t _ _ HA.out H1.out).mono ?_
        rintro e w' ⟨rfl, rfl⟩
        go_wp2
        go_ret
        exact ⟨ret_bool (by unfold seqB; rw [H1.out]; simp [h3]; try omega), (Below.refl _ _).alloc (Nat.le_refl _) _⟩
    · go_enter Try.func12, Try.ntmps12
      go_wp2_with fail
      refine (iword_t _ _ HA.out H1.out).mono ?_
      rintro e w' ⟨rfl, rfl⟩
      go_wp2
      go_ret
      exact ⟨ret_bool (by unfold seqB; rw [H1.out, decide_eq_false (p := 1 ≤ n) (by omega)]; rfl), (Below.refl _ _).alloc (Nat.le_refl _) _⟩
  · have h1 : wordB a.data.toList = false := by simpa using h1
    have H1 := Lib.hid h1
    clear h1
    go_enter Try.func12, Try.ntmps12
    go_wp2_with fail
    refine (iword_f _ _ HA.out H1.out).mono ?_
    rintro e w' ⟨rfl, rfl⟩
    go_wp2
    go_ret
    exact ⟨ret_bool (by unfold seqB; rw [H1.out]; rfl), (Below.refl _ _).alloc (Nat.le_refl _) _⟩
set_option maxHeartbeats 1000000 in
theorem ssq_any (a : ByteArray) (n : Int) (w : World) (ha : a.size ≤ maxLen) :
    Calls Try.prog 13 #[.agg #[.string a, .int .i64 n]] w fun e w' => e = .returned (.bool (seqB a n)) ∧ Below w.heap.size w w' := by
  have HA := Lib.hid ha
  clear ha
  by_cases h1 : wordB a.data.toList = true
  · have H1 := Lib.hid h1
    clear h1
    go_enter Try.func13, Try.ntmps13
    go_wp2_with fail
    refine (sword_t _ _ HA.out H1.out).mono ?_
    rintro e w' ⟨rfl, rfl⟩
    go_wp2_with fail
    refine (in_any _ _ _ _).mono ?_
    rintro e w' ⟨rfl, rfl⟩
    go_wp2
    go_ret
    exact ⟨ret_bool (by unfold seqB; rw [H1.out]; rfl), (Below.refl _ _).alloc (Nat.le_refl _) _⟩
  · have h1 : wordB a.data.toList = false := by simpa using h1
    have H1 := Lib.hid h1
    clear h1
    go_enter Try.func13, Try.ntmps13
    go_wp2_with fail
    refine (sword_f _ _ HA.out H1.out).mono ?_
    rintro e w' ⟨rfl, rfl⟩
    go_wp2
    go_ret
    exact ⟨ret_bool (by unfold seqB; rw [H1.out]; rfl), (Below.refl _ _).alloc (Nat.le_refl _) _⟩
theorem isq_is (v : Bool) (a : ByteArray) (n : Int) (w : World) (ha : a.size ≤ maxLen) (h : seqB a n = v) :
    Calls Try.prog 12 #[.agg #[.string a, .int .i64 n]] w fun e w' => e = .returned (.bool v) ∧ Below w.heap.size w w' := by
  have := isq_any a n w ha; rw [h] at this; exact this
theorem ssq_is (v : Bool) (a : ByteArray) (n : Int) (w : World) (ha : a.size ≤ maxLen) (h : seqB a n = v) :
    Calls Try.prog 13 #[.agg #[.string a, .int .i64 n]] w fun e w' => e = .returned (.bool v) ∧ Below w.heap.size w w' := by
  have := ssq_any a n w ha; rw [h] at this; exact this

/-- The text of a sequence. -/
def seqT (a : ByteArray) (n : Int) : ByteArray := textS n ++ ⟨#[32]⟩ ++ a
def textQ (a : ByteArray) (n : Int) : ByteArray := if seqB a n = true then seqT a n else ByteArray.empty
theorem textS_size (n : Int) : (textS n).size ≤ 7 := by
  unfold textS textN
  split
  · have := numT_len7 n.toNat (by omega)
    show (numT n.toNat).toArray.size ≤ 7
    simpa using this
  · decide
set_option maxHeartbeats 1000000 in
theorem itq_any (a : ByteArray) (n : Int) (w : World) (ha : a.size ≤ maxLen) :
    Calls Try.prog 16 #[.agg #[.string a, .int .i64 n]] w fun e w' => e = .returned (.string (textQ a n)) ∧ Below w.heap.size w w' := by
  have HA := Lib.hid ha
  have BX0 := Lib.hid (Holds.new w 24 #[.string a, .int .i64 n])
  have HB0 := Lib.hid (bnew w (.cells #[.string a, .int .i64 n] 24))
  clear ha
  by_cases h1 : seqB a n = true
  · have h10 := seq_size h1
    have h7 := textS_size n
    have H1 := Lib.hid h1
    clear h1
    go_enter Try.func16, Try.ntmps16
    go_wp2_with fail
    refine (isq_is true _ _ _ HA.out H1.out).mono ?_
    rintro e w1 ⟨rfl, hb1⟩
    have HB1 := Lib.hid (btrans HB0.out hb1)
    have BX1 := Lib.hid (BX0.out.call hb1)
    clear hb1
    have c0 := BX1.out.cell 0 _ rfl
    have c1 := BX1.out.cell 1 _ rfl
    have a1 := add_run Try.prog (textS n) ⟨#[32]⟩ (by show _ + 1 ≤ _; omega)
    have a2 := add_run Try.prog (textS n ++ ⟨#[32]⟩) a (by rw [size_cat]; show _ + 1 + _ ≤ _; omega)
    go_wp2
    go_region_held3 (fun w' => w'.cell? ⟨w.heap.size, 0, none⟩ = some (.string a) ∧ w'.cell? ⟨w.heap.size, 1, none⟩ = some (.int .i64 n))
      (first | go_keep | exact ⟨BX2.out.cell 0 _ rfl, BX2.out.cell 1 _ rfl⟩)
      (first | (go_at_call 32; refine (inum_any _ _).mono ?_; rintro e w2 ⟨rfl, hb2⟩; subst hb2; have hb2 : Below w1.drew.heap.size w1.drew w1.drew := Below.refl _ _; have BX2 := Lib.hid (BX1.out.drew.call hb2); have HB2 := Lib.hid (btrans (bdrew HB1.out) hb2); clear hb2))
    clear a1 a2
    go_wp2
    go_ret
    exact ⟨ret_str (by unfold textQ; rw [if_pos H1.out]; rfl), HB2.out⟩
  · have h1 : seqB a n = false := by simpa using h1
    have H1 := Lib.hid h1
    clear h1
    go_enter Try.func16, Try.ntmps16
    go_wp2_with fail
    refine (isq_is false _ _ _ HA.out H1.out).mono ?_
    rintro e w1 ⟨rfl, hb1⟩
    have HB1 := Lib.hid (btrans HB0.out hb1)
    clear hb1
    go_wp2
    go_ret
    exact ⟨ret_str (by unfold textQ; rw [H1.out]; rfl), HB1.out⟩
set_option maxHeartbeats 1000000 in
theorem stq_any (a : ByteArray) (n : Int) (w : World) (ha : a.size ≤ maxLen) :
    Calls Try.prog 17 #[.agg #[.string a, .int .i64 n]] w fun e w' => e = .returned (.string (textQ a n)) ∧ Below w.heap.size w w' := by
  have HA := Lib.hid ha
  have BX0 := Lib.hid (Holds.new w 24 #[.string a, .int .i64 n])
  have HB0 := Lib.hid (bnew w (.cells #[.string a, .int .i64 n] 24))
  clear ha
  by_cases h1 : seqB a n = true
  · have h10 := seq_size h1
    have h7 := textS_size n
    have H1 := Lib.hid h1
    clear h1
    go_enter Try.func17, Try.ntmps17
    go_wp2_with fail
    refine (ssq_is true _ _ _ HA.out H1.out).mono ?_
    rintro e w1 ⟨rfl, hb1⟩
    have HB1 := Lib.hid (btrans HB0.out hb1)
    have BX1 := Lib.hid (BX0.out.call hb1)
    clear hb1
    have c0 := BX1.out.cell 0 _ rfl
    have c1 := BX1.out.cell 1 _ rfl
    have a1 := add_run Try.prog (textS n) ⟨#[32]⟩ (by show _ + 1 ≤ _; omega)
    have a2 := add_run Try.prog (textS n ++ ⟨#[32]⟩) a (by rw [size_cat]; show _ + 1 + _ ≤ _; omega)
    go_wp2
    go_region_held3 (fun w' => w'.cell? ⟨w.heap.size, 0, none⟩ = some (.string a) ∧ w'.cell? ⟨w.heap.size, 1, none⟩ = some (.int .i64 n))
      (first | go_keep | exact ⟨BX2.out.cell 0 _ rfl, BX2.out.cell 1 _ rfl⟩)
      (first | (go_at_call 33; refine (snum_any _ _).mono ?_; rintro e w2 ⟨rfl, hb2⟩; have BX2 := Lib.hid (BX1.out.drew.call hb2); have HB2 := Lib.hid (btrans (bdrew HB1.out) hb2); clear hb2))
    clear a1 a2
    go_wp2
    go_ret
    exact ⟨ret_str (by unfold textQ; rw [if_pos H1.out]; rfl), HB2.out⟩
  · have h1 : seqB a n = false := by simpa using h1
    have H1 := Lib.hid h1
    clear h1
    go_enter Try.func17, Try.ntmps17
    go_wp2_with fail
    refine (ssq_is false _ _ _ HA.out H1.out).mono ?_
    rintro e w1 ⟨rfl, hb1⟩
    have HB1 := Lib.hid (btrans HB0.out hb1)
    clear hb1
    go_wp2
    go_ret
    exact ⟨ret_str (by unfold textQ; rw [H1.out]; rfl), HB1.out⟩
end Go.Proofs.Ytabkefacphhkmaa
