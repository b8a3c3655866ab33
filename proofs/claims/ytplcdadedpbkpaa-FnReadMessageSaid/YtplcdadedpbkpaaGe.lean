/- Parts of the proof in one text: Seq, Base, Read, Rd, RdP. -/
import Derived.Test.YtplcdadedpbkpaaGa
import Derived.Test.YtplcdadedpbkpaaNums
import Derived.RegionTactic
import Derived.BigRegion
import Derived.Deep.RegionLaw
import Derived.Deep.RegionHeld3
import Derived.StillTailTactics
import Derived.Deep.QuietTactic
import Derived.BigQuiet
import Derived.Outline
import Derived.Test.YtplcdadedpbkpaaGd
import Derived.Test.YtplcdadedpbkpaaAddr
import Derived.Test.YtplcdadedpbkpaaAlive
import Derived.Test.YtplcdadedpbkpaaDraw
section
namespace Go.Proofs.Ytplcdadedpbkpaa
open Go.RowKit
set_option linter.unusedVariables false
set_option maxRecDepth 20000

/-- A valid sequence. -/
def seqB (a : ByteArray) (n : Int) : Bool := wordB a.data.toList && (decide (1 ≤ n) && decide (n ≤ 1000000))
theorem seq_word {a : ByteArray} {n : Int} (h : seqB a n = true) : wordB a.data.toList = true ∧ 1 ≤ n ∧ n ≤ 1000000 := by
  unfold seqB at h
  simp only [Bool.and_eq_true, decide_eq_true_eq] at h
  exact h
theorem seq_size {a : ByteArray} {n : Int} (h : seqB a n = true) : a.size ≤ 10 := by
  have := word_len (seq_word h).1
  have e : a.data.toList.length = a.size := by simp
  omega
/-- The text of a sequence. -/
def seqT (a : ByteArray) (n : Int) : ByteArray := textS n ++ ⟨#[32]⟩ ++ a
def textQ (a : ByteArray) (n : Int) : ByteArray := if seqB a n = true then seqT a n else ByteArray.empty
theorem textS_size (n : Int) : (textS n).size ≤ 7 := by
  unfold textS textN
  split
  · have := numT_len7 n.toNat (by omega)
    show (numT n.toNat).toArray.size ≤ 7
    simpa using this
  · decide
end Go.Proofs.Ytplcdadedpbkpaa
end
section
/- Exact values: functions of the first chapters, by their contracts. -/
namespace Go.Proofs.Ytplcdadedpbkpaa.Mini
open Go Go.RowKit
set_option linter.unusedVariables false
set_option linter.unusedSimpArgs false
set_option maxRecDepth 20000
noncomputable def s_iword : Sig := sig Try.f28 (fun xs => (selS xs 0).size ≤ maxLen) (fun xs ys => ys = [.bool (wordB (selS xs 0).data.toList)])
noncomputable def s_sword : Sig := sig Try.f44 (fun xs => (selS xs 0).size ≤ maxLen) (fun xs ys => ys = [.bool (wordB (selS xs 0).data.toList)])
noncomputable def s_iline : Sig := sig Try.f41 (fun xs => (selS xs 0).size ≤ maxLen) (fun xs ys => ys = [.bool (lineB (selS xs 0).data.toList)])
noncomputable def s_sline : Sig := sig Try.f46 (fun xs => (selS xs 0).size ≤ maxLen) (fun xs ys => ys = [.bool (lineB (selS xs 0).data.toList)])
noncomputable def s_inum : Sig := sig Try.f51 (fun xs => True) (fun xs ys => ys = [.str (textS (selI xs 0))])
noncomputable def s_snum : Sig := sig Try.f34 (fun xs => True) (fun xs ys => ys = [.str (textS (selI xs 0))])
noncomputable def s_iread : Sig := sig Try.f55 (fun xs => (selS xs 0).size ≤ maxLen) (fun xs ys => ys = [.int .i64 (readN (selS xs 0).data.toList)])
noncomputable def s_sread : Sig := sig Try.f24 (fun xs => (selS xs 0).size ≤ maxLen) (fun xs ys => ys = [.int .i64 (readN (selS xs 0).data.toList)])
noncomputable def s_iaddr : Sig := sig Try.f49 (fun xs => (selS xs 0).size ≤ maxLen ∧ (selS xs 1).size ≤ maxLen) (fun xs ys => ys = [.bool (wordB (selS xs 0).data.toList && wordB (selS xs 1).data.toList)])
noncomputable def s_saddr : Sig := sig Try.f43 (fun xs => (selS xs 0).size ≤ maxLen ∧ (selS xs 1).size ≤ maxLen) (fun xs ys => ys = [.bool (wordB (selS xs 0).data.toList && wordB (selS xs 1).data.toList)])
noncomputable def s_alive : Sig := sig Try.f8 (fun xs => True) (fun xs ys => ys = [.bool true])
theorem va_iword (s0 : ByteArray) : (valsOf Try.prog Try.f28.params.toList [.str s0]).toArray = #[.string s0] := by kernel_rfl
theorem vr_iword (r : Bool) : wrapVal (valsOf Try.prog Try.f28.resultTypes.toList [.bool r]) = .bool r := by kernel_rfl
theorem ok_iword : FnOk Try.prog 28 s_iword := by
  refine ok_of_calls (fn := Try.f28) (ks := [.str]) (rk := [.bool]) rfl rfl rfl (by kernel_rfl) (by kernel_rfl) rfl rfl ?_
  intro w xs hf hp
  obtain ⟨s0, rfl⟩ := fits_s hf
  rw [va_iword]
  refine (iword_any s0 w hp).mono ?_
  rintro e w' ⟨rfl, rfl⟩
  exact ⟨[.bool (wordB s0.data.toList)], by rw [vr_iword], rfl, rfl, Below.refl _ _⟩
theorem va_sword (s0 : ByteArray) : (valsOf Try.prog Try.f44.params.toList [.str s0]).toArray = #[.string s0] := by kernel_rfl
theorem vr_sword (r : Bool) : wrapVal (valsOf Try.prog Try.f44.resultTypes.toList [.bool r]) = .bool r := by kernel_rfl
theorem ok_sword : FnOk Try.prog 44 s_sword := by
  refine ok_of_calls (fn := Try.f44) (ks := [.str]) (rk := [.bool]) rfl rfl rfl (by kernel_rfl) (by kernel_rfl) rfl rfl ?_
  intro w xs hf hp
  obtain ⟨s0, rfl⟩ := fits_s hf
  rw [va_sword]
  refine (sword_any s0 w hp).mono ?_
  rintro e w' ⟨rfl, rfl⟩
  exact ⟨[.bool (wordB s0.data.toList)], by rw [vr_sword], rfl, rfl, Below.refl _ _⟩
theorem va_iline (s0 : ByteArray) : (valsOf Try.prog Try.f41.params.toList [.str s0]).toArray = #[.string s0] := by kernel_rfl
theorem vr_iline (r : Bool) : wrapVal (valsOf Try.prog Try.f41.resultTypes.toList [.bool r]) = .bool r := by kernel_rfl
theorem ok_iline : FnOk Try.prog 41 s_iline := by
  refine ok_of_calls (fn := Try.f41) (ks := [.str]) (rk := [.bool]) rfl rfl rfl (by kernel_rfl) (by kernel_rfl) rfl rfl ?_
  intro w xs hf hp
  obtain ⟨s0, rfl⟩ := fits_s hf
  rw [va_iline]
  refine (iline_any s0 w hp).mono ?_
  rintro e w' ⟨rfl, rfl⟩
  exact ⟨[.bool (lineB s0.data.toList)], by rw [vr_iline], rfl, rfl, Below.refl _ _⟩
theorem va_sline (s0 : ByteArray) : (valsOf Try.prog Try.f46.params.toList [.str s0]).toArray = #[.string s0] := by kernel_rfl
theorem vr_sline (r : Bool) : wrapVal (valsOf Try.prog Try.f46.resultTypes.toList [.bool r]) = .bool r := by kernel_rfl
theorem ok_sline : FnOk Try.prog 46 s_sline := by
  refine ok_of_calls (fn := Try.f46) (ks := [.str]) (rk := [.bool]) rfl rfl rfl (by kernel_rfl) (by kernel_rfl) rfl rfl ?_
  intro w xs hf hp
  obtain ⟨s0, rfl⟩ := fits_s hf
  rw [va_sline]
  refine (sline_any s0 w hp).mono ?_
  rintro e w' ⟨rfl, rfl⟩
  exact ⟨[.bool (lineB s0.data.toList)], by rw [vr_sline], rfl, rfl, Below.refl _ _⟩
theorem va_inum (n0 : Int) : (valsOf Try.prog Try.f51.params.toList [.int .i64 n0]).toArray = #[.int .i64 n0] := by kernel_rfl
theorem vr_inum (r : ByteArray) : wrapVal (valsOf Try.prog Try.f51.resultTypes.toList [.str r]) = .string r := by kernel_rfl
theorem ok_inum : FnOk Try.prog 51 s_inum := by
  refine ok_of_calls (fn := Try.f51) (ks := [.int .i64]) (rk := [.str]) rfl rfl rfl (by kernel_rfl) (by kernel_rfl) rfl rfl ?_
  intro w xs hf hp
  obtain ⟨n0, rfl⟩ := fits_i hf
  rw [va_inum]
  refine (inum_any n0 w).mono ?_
  rintro e w' ⟨rfl, rfl⟩
  exact ⟨[.str (textS n0)], by rw [vr_inum], rfl, rfl, Below.refl _ _⟩
theorem va_snum (n0 : Int) : (valsOf Try.prog Try.f34.params.toList [.int .i64 n0]).toArray = #[.int .i64 n0] := by kernel_rfl
theorem vr_snum (r : ByteArray) : wrapVal (valsOf Try.prog Try.f34.resultTypes.toList [.str r]) = .string r := by kernel_rfl
theorem ok_snum : FnOk Try.prog 34 s_snum := by
  refine ok_of_calls (fn := Try.f34) (ks := [.int .i64]) (rk := [.str]) rfl rfl rfl (by kernel_rfl) (by kernel_rfl) rfl rfl ?_
  intro w xs hf hp
  obtain ⟨n0, rfl⟩ := fits_i hf
  rw [va_snum]
  refine (snum_any n0 w).mono ?_
  rintro e w' ⟨rfl, hb⟩
  exact ⟨[.str (textS n0)], by rw [vr_snum], rfl, rfl, hb⟩
theorem va_iread (s0 : ByteArray) : (valsOf Try.prog Try.f55.params.toList [.str s0]).toArray = #[.string s0] := by kernel_rfl
theorem vr_iread (r : Int) : wrapVal (valsOf Try.prog Try.f55.resultTypes.toList [.int .i64 r]) = .int .i64 r := by kernel_rfl
theorem ok_iread : FnOk Try.prog 55 s_iread := by
  refine ok_of_calls (fn := Try.f55) (ks := [.str]) (rk := [.int .i64]) rfl rfl rfl (by kernel_rfl) (by kernel_rfl) rfl rfl ?_
  intro w xs hf hp
  obtain ⟨s0, rfl⟩ := fits_s hf
  rw [va_iread]
  refine (iread_any s0 w hp).mono ?_
  rintro e w' ⟨rfl, rfl⟩
  exact ⟨[.int .i64 (readN s0.data.toList)], by rw [vr_iread], rfl, rfl, Below.refl _ _⟩
theorem va_sread (s0 : ByteArray) : (valsOf Try.prog Try.f24.params.toList [.str s0]).toArray = #[.string s0] := by kernel_rfl
theorem vr_sread (r : Int) : wrapVal (valsOf Try.prog Try.f24.resultTypes.toList [.int .i64 r]) = .int .i64 r := by kernel_rfl
theorem ok_sread : FnOk Try.prog 24 s_sread := by
  refine ok_of_calls (fn := Try.f24) (ks := [.str]) (rk := [.int .i64]) rfl rfl rfl (by kernel_rfl) (by kernel_rfl) rfl rfl ?_
  intro w xs hf hp
  obtain ⟨s0, rfl⟩ := fits_s hf
  rw [va_sread]
  refine (sread_any s0 w hp).mono ?_
  rintro e w' ⟨rfl, hb⟩
  exact ⟨[.int .i64 (readN s0.data.toList)], by rw [vr_sread], rfl, rfl, hb⟩
theorem va_iaddr (s0 : ByteArray) (s1 : ByteArray) : (valsOf Try.prog Try.f49.params.toList [.str s0, .str s1]).toArray = #[.agg #[.string s0, .string s1]] := by kernel_rfl
theorem vr_iaddr (r : Bool) : wrapVal (valsOf Try.prog Try.f49.resultTypes.toList [.bool r]) = .bool r := by kernel_rfl
theorem ok_iaddr : FnOk Try.prog 49 s_iaddr := by
  refine ok_of_calls (fn := Try.f49) (ks := [.str, .str]) (rk := [.bool]) rfl rfl rfl (by kernel_rfl) (by kernel_rfl) rfl rfl ?_
  intro w xs hf hp
  obtain ⟨s0, s1, rfl⟩ := fits_ss hf
  rw [va_iaddr]
  refine (iav_any s0 s1 w hp.1 hp.2).mono ?_
  rintro e w' ⟨rfl, hb⟩
  exact ⟨[.bool (wordB s0.data.toList && wordB s1.data.toList)], by rw [vr_iaddr], rfl, rfl, hb⟩
theorem va_saddr (s0 : ByteArray) (s1 : ByteArray) : (valsOf Try.prog Try.f43.params.toList [.str s0, .str s1]).toArray = #[.agg #[.string s0, .string s1]] := by kernel_rfl
theorem vr_saddr (r : Bool) : wrapVal (valsOf Try.prog Try.f43.resultTypes.toList [.bool r]) = .bool r := by kernel_rfl
theorem ok_saddr : FnOk Try.prog 43 s_saddr := by
  refine ok_of_calls (fn := Try.f43) (ks := [.str, .str]) (rk := [.bool]) rfl rfl rfl (by kernel_rfl) (by kernel_rfl) rfl rfl ?_
  intro w xs hf hp
  obtain ⟨s0, s1, rfl⟩ := fits_ss hf
  rw [va_saddr]
  refine (sav_any s0 s1 w hp.1 hp.2).mono ?_
  rintro e w' ⟨rfl, hb⟩
  exact ⟨[.bool (wordB s0.data.toList && wordB s1.data.toList)], by rw [vr_saddr], rfl, rfl, hb⟩
theorem va_alive  : (valsOf Try.prog Try.f8.params.toList []).toArray = #[] := by kernel_rfl
theorem vr_alive (r : Bool) : wrapVal (valsOf Try.prog Try.f8.resultTypes.toList [.bool r]) = .bool r := by kernel_rfl
theorem ok_alive : FnOk Try.prog 8 s_alive := by
  refine ok_of_calls (fn := Try.f8) (ks := []) (rk := [.bool]) rfl rfl rfl (by kernel_rfl) (by kernel_rfl) rfl rfl ?_
  intro w xs hf hp
  obtain rfl := fits_nil hf
  rw [va_alive]
  refine (alive_any w).mono ?_
  rintro e w' ⟨rfl, rfl⟩
  exact ⟨[.bool true], by rw [vr_alive], rfl, rfl, Below.refl _ _⟩
end Go.Proofs.Ytplcdadedpbkpaa.Mini
end
section
/- The reader of drawn inputs, by its cells. -/
namespace Go.Proofs.Ytplcdadedpbkpaa
open Go.RowKit
set_option linter.unusedVariables false
set_option maxRecDepth 20000
set_option maxHeartbeats 1000000 in
theorem pick_ex (w : World) (g o t len cap p : Nat) (ao : Option Addr) (arr : Array Value) (n : Int) (hg : w.heap[g]? = some (.cells arr t (0, 0))) (h0 : arr[o]? = some (.slice ao len cap)) (h1 : arr[o + 1]? = some (.int .i64 (p : Int))) (hp : p ≤ 1000000) (hlen : len ≤ 2000)
    (hb : len = 0 ∨ ∃ b off, ao = some ⟨b, off, none⟩ ∧ b ≠ g ∧ ∀ i, i < len → ∃ z : Int, 0 ≤ z ∧ z ≤ 255 ∧ w.cell? ⟨b, off + i, none⟩ = some (.int .u8 z)) (hn : 1 ≤ n) (hn2 : n ≤ 2147483647) :
    Calls Try.prog 16 #[.pointer (some ⟨g, o, none⟩), .int .i64 n] w fun e w' => ∃ x : Int, 0 ≤ x ∧ x < n ∧ e = .returned (.int .i64 x) ∧ w'.heap[g]? = some (.cells (arr.setIfInBounds (o + 1) (.int .i64 ((p : Int) + 1))) t (0, 0)) ∧ w.grownBy w' (some g) := by
  have c0 : w.cell? ⟨g, o, none⟩ = some (.slice ao len cap) := by simp [World.cell?, hg, h0]
  have c1 : w.cell? ⟨g, o + 1, none⟩ = some (.int .i64 (p : Int)) := by simp [World.cell?, hg, h1]
  have f1 : w.frozen? ⟨g, o + 1, none⟩ = false := by simp [World.frozen?, hg]
  have hpb : (p : Int) ≤ 1000000 := by omega
  have hgrow : w.grownBy (w.setCell ⟨g, o + 1, none⟩ (.int .i64 ((p : Int) + 1))) (some g) :=
    ⟨rfl, rfl, rfl, by simp [World.setCell], fun k hk hne => Below.heap_setCell w _ _ k (fun e => hne (by rw [e]))⟩
  have HR : Hid ((w.setCell ⟨g, o + 1, none⟩ (.int .i64 ((p : Int) + 1))).heap[g]? = some (.cells (arr.setIfInBounds (o + 1) (.int .i64 ((p : Int) + 1))) t (0, 0))) := Lib.hid (Joins.block_setCell hg _)
  have HW := Lib.hid hgrow
  clear hgrow hg h0 h1
  by_cases h0 : len = 0
  · subst h0
    go_enter Try.func16, Try.ntmps16
    go_wp2
    go_ret
    exact ⟨0, by omega, by omega, rfl, HR.out, HW.out⟩
  · have hl0 : ((len : Int) == 0) = false := beq_eq_false_iff_ne.mpr (by omega)
    have hl1 : (0 : Int) < len := by omega
    have hlen' : (len : Int) ≤ 2000 := by omega
    obtain ⟨b, off, rfl, hbg, hcell⟩ := hb.resolve_left h0
    have HC : Hid (∀ i, i < len → ∃ z : Int, 0 ≤ z ∧ z ≤ 255 ∧ (w.setCell ⟨g, o + 1, none⟩ (.int .i64 ((p : Int) + 1))).cell? ⟨b, off + i, none⟩ = some (.int .u8 z)) := by
      intro i hi
      obtain ⟨z, z0, z1, hz⟩ := hcell i hi
      exact ⟨z, z0, z1, by rw [World.cell?_of_block (w := w) (HW.out.block b (by
        have := block_lt_of_cell hz
        exact this) (by intro e; injection e with e; exact hbg e)), hz]⟩
    clear hcell hb
    by_cases hk : p < len
    · obtain ⟨z, z0, z1, hz⟩ := HC.out p hk
      go_enter Try.func16, Try.ntmps16
      go_wp2
      go_ret
      refine ⟨_, ?_, ?_, rfl, HR.out, HW.out⟩
      · first | exact (tmod_ok z n z0 hn).1 | exact Int.emod_nonneg _ (by omega)
      · first | exact (tmod_ok z n z0 hn).2 | exact Int.emod_lt_of_pos _ (by omega)
    · obtain ⟨z, z0, z1, hz⟩ := HC.out (p % len) (Nat.mod_lt _ (by omega))
      obtain ⟨y, y0, y1, hy⟩ := HC.out ((p * 7 + 3) % len) (Nat.mod_lt _ (by omega))
      have e1 : (((p % len : Nat)) : Int) = (p : Int) % len := by simp
      have e2 : ((((p * 7 + 3) % len : Nat)) : Int) = ((p : Int) * 7 + 3) % len := by simp
      have b1 : 0 ≤ (p : Int) % len := Int.emod_nonneg _ (by omega)
      have b2 : (p : Int) % len < len := Int.emod_lt_of_pos _ hl1
      have b3 : 0 ≤ ((p : Int) * 7 + 3) % len := Int.emod_nonneg _ (by omega)
      have b4 : ((p : Int) * 7 + 3) % len < len := Int.emod_lt_of_pos _ hl1
      have d0 : 0 ≤ (p : Int) / len := Int.ediv_nonneg (by omega) (by omega)
      have d1 : (p : Int) / len ≤ 1000000 := Int.le_trans (Int.ediv_le_self _ (by omega)) hpb
      have HE1 := Lib.hid e1
      have HE2 := Lib.hid e2
      clear e1 e2
      go_enter Try.func16, Try.ntmps16
      go_wp2
      go_quiet (fail)
      go_wp2
      go_ret
      refine ⟨_, ?_, ?_, rfl, HR.out, ⟨HW.out.os, HW.out.tape, HW.out.output, HW.out.size, HW.out.block⟩⟩
      · exact (tmod_ok _ n (xor_nonneg _ _ (by omega) (by omega) (by omega) (by omega)) hn).1
      · exact (tmod_ok _ n (xor_nonneg _ _ (by omega) (by omega) (by omega) (by omega)) hn).2
set_option maxHeartbeats 1000000 in
theorem open_ex (w : World) (ao : Option Addr) (len cap : Nat) (hlc : len ≤ cap) :
    Calls Try.prog 12 #[.slice ao len cap] w fun e w' => ∃ m, m ≤ 2000 ∧ m ≤ len ∧ e = .returned (.pointer (some ⟨w.heap.size, 0, none⟩)) ∧ w' = w.alloc (.cells #[.slice ao m cap, .int .i64 0] 59) := by
  by_cases h : 2000 < len
  · go_enter Try.func12, Try.ntmps12
    go_wp2
    go_ret
    exact ⟨2000, by omega, by omega, rfl, rfl⟩
  · go_enter Try.func12, Try.ntmps12
    go_wp2
    go_ret
    exact ⟨len, by omega, by omega, rfl, rfl⟩
end Go.Proofs.Ytplcdadedpbkpaa
end
section
/- Exact values: numbers drawn by a reader. -/
namespace Go.Proofs.Ytplcdadedpbkpaa.Mini
open Go Go.RowKit
set_option linter.unusedVariables false
set_option linter.unusedSimpArgs false
set_option maxRecDepth 20000
def bytesOk (L : D) : Prop := ∃ n l, L = .list 5 n l ∧ n ≤ 2000 ∧ ∀ d ∈ l, ∃ z : Int, d = .int .u8 z ∧ 0 ≤ z ∧ z ≤ 255
/-- A reader: its bytes, how many numbers were drawn. -/
def rdL (L : D) (p : Int) : List D := [L, .int .i64 p]
def rdB (xs : List D) : D := (selL xs 0).headD (.bool false)
def rdN (xs : List D) : Int := selI (selL xs 0) 1
/-- There is room for so many numbers more. -/
def rdIn (xs : List D) (c : Int) : Prop := ∃ (L : D) (p : Int), selL xs 0 = rdL L p ∧ bytesOk L ∧ 0 ≤ p ∧ p + c ≤ 1000000
/-- At most so many were drawn, and the results are as said. -/
def rdOut (xs ys : List D) (c : Int) (φ : List D → Prop) : Prop := ∃ (p : Int) (rs : List D), ys = .list 0 0 (rdL (rdB xs) p) :: rs ∧ rdN xs ≤ p ∧ p ≤ rdN xs + c ∧ φ rs
noncomputable def s_dpick : Sig := sigR Try.f16 false (fun xs => rdIn xs 1 ∧ 1 ≤ selI xs 1 ∧ selI xs 1 ≤ 2147483647) (fun xs ys => rdOut xs ys 1 (fun rs => ∃ x : Int, rs = [.int .i64 x] ∧ 0 ≤ x ∧ x < selI xs 1))
noncomputable def s_dopen : Sig := sigO Try.f12 (bytesD 5) (fun xs ys => ∃ L : D, bytesOk L ∧ ys = [.list 0 0 (rdL L 0)])
noncomputable def s_dodd : Sig := sigR Try.f15 false (fun xs => rdIn xs 1 ∧ 0 ≤ selI xs 1 ∧ selI xs 1 ≤ 2147483647) (fun xs ys => rdOut xs ys 1 (fun rs => ∃ b : Bool, rs = [.bool b] ∧ (selI xs 1 = 0 → b = false)))
noncomputable def F_dodd : Tb := tab [(16, s_dpick)]
theorem F_dodd_dpick : F_dodd 16 = some s_dpick := rfl
noncomputable def hs_dodd : Hds := []
theorem t_dodd (r : List D) (a0 : Int) : fnTR' Try.prog F_dodd hs_dodd false Try.f15 [.list 0 0 r, .int IntKind.i64 a0] = (Tree.ite (ltI (0 : Int) a0) (Tree.call 16 [(D.list 0 (0 : Nat) r), (D.int .i64 a0)] (fun y198 => (Tree.need (all_ [(inK .i64 (a0 - (1 : Int)))]) (Tree.ret [(D.list 0 (0 : Nat) (selL y198 0)), (D.bool ((selI y198 1) == (a0 - (1 : Int))))])))) (Tree.ret [(D.list 0 (0 : Nat) r), (D.bool false)])) := by kernel_rfl
end Go.Proofs.Ytplcdadedpbkpaa.Mini
end
section
/- Exact values: numbers drawn by a reader: proofs. -/
namespace Go.Proofs.Ytplcdadedpbkpaa.Mini
open Go Go.RowKit
set_option linter.unusedVariables false
set_option linter.unusedSimpArgs false
set_option maxRecDepth 20000
theorem rdB_z (t n : Nat) (L : D) (p : Int) (l : List D) : rdB (.list t n (rdL L p) :: l) = L := rfl
theorem rdN_z (t n : Nat) (L : D) (p : Int) (l : List D) : rdN (.list t n (rdL L p) :: l) = p := rfl
theorem rd_in {t n : Nat} {L : D} {p c : Int} {l : List D} (hL : bytesOk L) (h0 : 0 ≤ p) (h1 : p + c ≤ 1000000) : rdIn (.list t n (rdL L p) :: l) c := ⟨L, p, rfl, hL, h0, h1⟩
theorem va_pick (n : Int) : valsOf Try.prog [3] [.int .i64 n] = [.int .i64 n] := by kernel_rfl
theorem vr_dpick (x : Int) : splitVal Try.prog Try.f16.resultTypes.toList [.int .i64 x] [.int .i64 x] := by
  have h := vals_split (P := Try.prog) (ts := Try.f16.resultTypes.toList) (ks := [.int .i64]) (xs := [.int .i64 x]) (by kernel_rfl) rfl
  have e : valsOf Try.prog Try.f16.resultTypes.toList [.int .i64 x] = [.int .i64 x] := by kernel_rfl
  rw [e] at h
  exact h
/-- The bytes that a list holds, as they lie. -/
theorem bytes_at {zz : Nat → Option Obj} {w : World} (hzz : ∀ b x, zz b = some x → w.heap[b]? = some x) {n : Nat} {l : List D} {v : Value} (hl : ∀ d ∈ l, ∃ z : Int, d = .int .u8 z ∧ 0 ≤ z ∧ z ≤ 255) (h : gD Try.prog zz (.list 5 n l) v) :
    ∃ ao cap, v = .slice ao n cap ∧ n ≤ cap ∧ (n = 0 ∨ ∃ b off, ao = some ⟨b, off, none⟩ ∧ (∃ x, zz b = some x) ∧ ∀ i, i < n → ∃ z : Int, 0 ≤ z ∧ z ≤ 255 ∧ w.cell? ⟨b, off + i, none⟩ = some (.int .u8 z)) := by
  unfold gD at h
  obtain ⟨ao, cap, rfl, h1, h2, h3⟩ := h
  have hsz : sz Try.prog 5 = 1 := by kernel_rfl
  rw [hsz, Nat.mul_one] at h2
  refine ⟨ao, cap, rfl, h1, h3.imp id (fun ⟨b, o, arr, ty, fr, e1, e2, e3⟩ => ⟨b, o, e1, ⟨_, e2⟩, fun i hi => ?_⟩)⟩
  have hi' : i < l.length := by omega
  obtain ⟨x, k1, k2⟩ := e3.at i l[i] (List.getElem?_eq_getElem hi')
  obtain ⟨z, hz, z0, z1⟩ := hl l[i] (List.getElem_mem hi')
  rw [hz] at k2
  unfold gD at k2
  subst k2
  refine ⟨z, z0, z1, ?_⟩
  rw [List.getElem?_drop, Array.getElem?_toList] at k1
  simp [World.cell?, hzz b _ e2, k1]
theorem ok_dpick : FnOk Try.prog 16 s_dpick := by
  refine ⟨⟨Try.f16, rfl, rfl, rfl⟩, ?_⟩
  intro w zz vs pt t pts xs ks cells g o arr ds hzz hzg hhg hlen hseen hps hpt hks hsp hfit hgl hpre
  obtain ⟨⟨L, p, hds, ⟨m, l, rfl, hm, hl⟩, hp0, hp1⟩, hn1, hn2⟩ := hpre
  have hds' : ds = rdL (.list 5 m l) p := hds
  subst hds'
  have hpts : pts = [3] := by
    have e : Try.f16.params.toList.tail = [3] := by kernel_rfl
    have e2 : Try.f16.params.toList = pt :: pts := hps
    rw [e2] at e; exact e
  subst hpts
  have hks2 : ks = [.int .i64] := by
    have e : ksAll Try.prog [3] = some [.int .i64] := by kernel_rfl
    rw [e] at hks; injection hks with hks; exact hks.symm
  subst hks2
  obtain ⟨n, rfl⟩ := fits_i hfit
  have hc := sels_vals [] [.int .i64 n] [.int .i64] cells hfit rfl hgl
  rw [hc] at hsp
  have hvs := split_vals hsp
  rw [va_pick] at hvs
  subst hvs
  obtain ⟨x0, a0, g0⟩ := hseen 0 _ rfl
  obtain ⟨x1, a1, g1⟩ := hseen 1 _ rfl
  unfold gD at g1
  subst g1
  obtain ⟨ao, cap, rfl, hmc, hbytes⟩ := bytes_at hzz hl g0
  have hn1' : 1 ≤ n := hn1
  have hn2' : n ≤ 2147483647 := hn2
  obtain ⟨q, rfl⟩ : ∃ q : Nat, p = q := ⟨p.toNat, by omega⟩
  refine (show Calls Try.prog 16 #[.pointer (some ⟨g, o, none⟩), .int .i64 n] w _ from (pick_ex w g o t m cap q ao arr n hhg a0 a1 (by omega) hm (hbytes.imp id (fun ⟨b, off, e1, ⟨x, e2⟩, e3⟩ => ⟨b, off, e1, (fun e => by rw [e, hzg] at e2; cases e2), e3⟩)) hn1' hn2').mono ?_)
  rintro e w' ⟨x, hx0, hx1, rfl, hh, hgr⟩
  have ho1 : o + 1 < arr.size := (Array.getElem?_eq_some_iff.mp a1).1
  obtain ⟨r1, r2⟩ := resL_scal (P := Try.prog) (base := w.heap.size) (w' := w') [] [.int .i64 x] [.int .i64] rfl rfl
  refine ⟨.int .i64 x, [.int .i64 x], rdL (.list 5 m l) ((q : Int) + 1), _, rfl, ⟨(q : Int) + 1, [.int .i64 x], rfl, by show (q : Int) ≤ q + 1; omega, by show (q : Int) + 1 ≤ q + 1; omega, x, rfl, hx0, hx1⟩, ⟨hgr.os, hgr.tape, hgr.output, hgr.size, fun b hb hn => hgr.block b hb (fun e => hn (by injection e with e; subst e; simp))⟩, hh, by simp, by show o + 2 ≤ _; simp; omega, ?_⟩
  refine ⟨[.int .i64], [.int .i64 x], [.int .i64 x], [], by kernel_rfl, r1, vr_dpick x, by simp [blocks], r2, rfl, fun j d hj => ?_⟩
  match j, hj with
  | 0, hj =>
    simp [rdL] at hj
    subst hj
    refine ⟨_, ?_, gD.mono (fun b y hy => ?_) g0⟩
    · rw [Array.getElem?_setIfInBounds_ne (by omega)]; exact a0
    · show zBut zz w w' (blocks []) b = some y
      unfold zBut
      rw [if_pos (block_of (hzz b y hy))]; exact hy
  | 1, hj =>
    simp [rdL] at hj
    subst hj
    exact ⟨_, by rw [Array.getElem?_setIfInBounds_self_of_lt ho1], by unfold gD; rfl⟩
  | j + 2, hj => simp [rdL] at hj
theorem ok_dopen : FnOk Try.prog 12 s_dopen := by
  refine ⟨⟨Try.f12, rfl, rfl, rfl⟩, ?_⟩
  intro w zz vs xs ks cells pt t hzz hres hpt hks hsp hfit hgl hpre
  obtain ⟨n, l, rfl, hl⟩ := hpre
  have hps : Try.f12.params.toList = [22] := by kernel_rfl
  have hks0 : ksAll Try.prog [22] = some [.list 5] := by kernel_rfl
  have hks' : ksAll Try.prog Try.f12.params.toList = some ks := hks
  have hsp' : splitVal Try.prog Try.f12.params.toList cells vs.toList := hsp
  rw [hps] at hks' hsp'
  rw [hks0] at hks'
  injection hks' with e
  subst e
  have hk1 : ksOf Try.prog 22 = some [.list 5] := by kernel_rfl
  have hs1 : isSt Try.prog 22 = false := by kernel_rfl
  obtain ⟨v0, rest, hv⟩ : ∃ v rest, vs.toList = v :: rest := by
    cases h : vs.toList with
    | nil => rw [h] at hsp'; exact hsp'.elim
    | cons v r => exact ⟨v, r, rfl⟩
  rw [hv] at hsp'
  unfold splitVal at hsp'
  rw [hk1] at hsp'
  simp only at hsp'
  rw [if_neg (by rw [hs1]; simp)] at hsp'
  obtain ⟨rest', rfl, h9⟩ := hsp'
  obtain ⟨rfl, rfl⟩ := h9
  have hg0 : gD Try.prog zz (.list 5 n l) v0 := hgl.1
  obtain ⟨ao, cap, rfl, hmc, hbytes⟩ := bytes_at hzz hl hg0
  have hvs : vs = #[.slice ao n cap] := by rw [← Array.toArray_toList (xs := vs), hv]
  rw [hvs]
  have hpt' : t = 59 := by
    have e1 : Try.f12.resultTypes.toList = [pt] := hres
    have e2 : (match Try.f12.resultTypes.toList with | [x] => isPtr Try.prog x | _ => none) = some 59 := by kernel_rfl
    rw [e1] at e2
    simp only at e2
    rw [hpt] at e2
    injection e2
  subst hpt'
  refine (open_ex w ao n cap hmc).mono ?_
  rintro e w' ⟨m, hm1, hm2, rfl, rfl⟩
  refine ⟨w.heap.size, #[.slice ao m cap, .int .i64 0], rdL (.list 5 m (l.take m)) 0, rfl, ⟨_, ⟨m, l.take m, rfl, hm1, fun d hd => hl d (List.mem_of_mem_take hd)⟩, rfl⟩, (Below.refl _ _).alloc (Nat.le_refl _) _, Nat.le_refl _, by show (w.heap.push _)[_]? = _; simp, by simp [rdL], fun j d hj => ?_⟩
  match j, hj with
  | 0, hj =>
    simp [rdL] at hj
    subst hj
    refine ⟨_, rfl, ?_⟩
    unfold gD at hg0 ⊢
    obtain ⟨Ad, c, e1, e2, e3, e4⟩ := hg0
    injection e1 with e1 e5 e6
    subst e1; subst e6
    have hsz : sz Try.prog 5 = 1 := by kernel_rfl
    rw [hsz] at e3 ⊢
    refine ⟨ao, cap, rfl, by omega, by simp; omega, ?_⟩
    by_cases h0 : m = 0
    · exact .inl h0
    rcases e4 with e4 | ⟨b, off, arr, ty, fr, k1, k2, k3⟩
    · omega
    · exact .inr ⟨b, off, arr, ty, fr, k1, k2, gDs.of fun i d hi => by
        have hil := (List.getElem?_eq_some_iff.mp hi).1
        rw [List.length_take] at hil
        rw [List.getElem?_take_of_lt (by omega)] at hi
        exact k3.at i d hi⟩
  | 1, hj =>
    simp [rdL] at hj
    subst hj
    exact ⟨_, rfl, by unfold gD; rfl⟩
  | j + 2, hj => simp [rdL] at hj
theorem ok_dodd : FnOk Try.prog 15 s_dodd := by
  refine fnOkR (fn := Try.f15) (F := F_dodd) (hs := hs_dodd) (tab_cons ok_dpick tab_nil) mixed rfl rfl rfl (by kernel_rfl) [.int .i64] (by kernel_rfl) (by simp [hs_dodd, shapeW]) ?_
  rintro r n hpre
  obtain ⟨⟨L, p, hr, hL, hp0, hp1⟩, hn0, hn2⟩ := hpre
  have hr' : r = rdL L p := hr
  subst hr'
  refine ⟨fun _ _ => False, fun _ _ => 0, ?_, fun _ _ h => h.elim⟩
  rw [t_dodd]
  simp only [F_dodd_dpick, s_dpick, Tree.holds, ltI_t, ltI_f, leI_t, leI_f, all_cons, all_nil, and_true, true_and, forall_eq, decide_eq_true_eq, decide_eq_false_iff_not, beq_iff_eq, beq_eq_false_iff_ne, bne_iff_ne, bne_eq_false_iff_eq, ne_eq, Decidable.not_not, selI_z, selB_z, selS_z, selN_z, selL_z, selI_s, selB_s, selS_s, selN_s, selL_s, Int.toNat_natCast, Nat.mul_one, Nat.zero_add, Nat.div_one, List.drop_zero, Nat.zero_mul, Nat.le_refl, Bool.not_eq_true', Bool.not_eq_false', Bool.false_eq_true, Bool.true_eq_false, not_true_eq_false, not_false_eq_true, false_imp_iff, true_imp_iff, if_true, if_false, sig, sigF, sigW, sigR, sigO]
  have hn0' : 0 ≤ n := hn0
  have hn2' : n ≤ 2147483647 := hn2
  refine ⟨fun h => ⟨⟨rd_in hL hp0 hp1, by omega, hn2⟩, ?_⟩, fun h => ⟨p, _, rfl, Int.le_refl _, by show p ≤ p + 1; omega, false, rfl, fun _ => rfl⟩⟩
  rintro ys ⟨p', rs, rfl, q1, q2, x, rfl, x0, x1⟩
  simp only [F_dodd_dpick, s_dpick, Tree.holds, ltI_t, ltI_f, leI_t, leI_f, all_cons, all_nil, and_true, true_and, forall_eq, decide_eq_true_eq, decide_eq_false_iff_not, beq_iff_eq, beq_eq_false_iff_ne, bne_iff_ne, bne_eq_false_iff_eq, ne_eq, Decidable.not_not, selI_z, selB_z, selS_z, selN_z, selL_z, selI_s, selB_s, selS_s, selN_s, selL_s, Int.toNat_natCast, Nat.mul_one, Nat.zero_add, Nat.div_one, List.drop_zero, Nat.zero_mul, Nat.le_refl, Bool.not_eq_true', Bool.not_eq_false', Bool.false_eq_true, Bool.true_eq_false, not_true_eq_false, not_false_eq_true, false_imp_iff, true_imp_iff, if_true, if_false, sig, sigF, sigW, sigR, sigO]
  exact ⟨by unfold inK; omega, p', _, rfl, q1, q2, _, rfl, fun h => by omega⟩
/-- Cells of one kind. -/
theorem need_k {ds : List D} {i : Nat} {k : Kd} (h : ds.all (fun d => fitK d k) = true) (hi : i < ds.length) : ds[i]? = some (sel ds i k) := by
  have h1 := List.all_eq_true.mp h ds[i] (List.getElem_mem hi)
  have h2 := (fitK_sel (ds := ds) (List.getElem?_eq_getElem hi) h1).2
  rw [h2]; exact List.getElem?_eq_getElem hi
/-- A text of a list of texts. -/
theorem strs_in {ls : List ByteArray} {i : Nat} (hi : i < ls.length) : (ls.map D.str)[i]? = some (sel (ls.map D.str) i .str) ∧ selS (ls.map D.str) i = ls[i] := by
  have : (ls.map D.str)[i]? = some (.str ls[i]) := by simp [hi]
  exact ⟨by rw [this, sel_str this], selS_of this⟩
/-- A text out of a list of texts that is written down. -/
theorem pick_str {ls : List D} {x : Int} {n : Nat} (f : ByteArray → Bool) (h0 : 0 ≤ x) (h1 : x < (n : Int)) (hl : ls.length = n) (hall : ls.all (fun d => match d with | .str s => f s | _ => false) = true) : ∃ s, ls[x.toNat]? = some (.str s) ∧ f s = true := by
  have hi : x.toNat < ls.length := by omega
  have h2 := List.all_eq_true.mp hall ls[x.toNat] (List.getElem_mem hi)
  cases hd : ls[x.toNat] with
  | str s =>
    rw [hd] at h2
    exact ⟨s, by rw [List.getElem?_eq_getElem hi, hd], h2⟩
  | int => rw [hd] at h2; cases h2
  | bool => rw [hd] at h2; cases h2
  | list => rw [hd] at h2; cases h2
/-- A number out of a list of numbers. -/
theorem pick_int {ls : List D} {x lo hi : Int} {n : Nat} {k : IntKind} (h0 : 0 ≤ x) (h1 : x < (n : Int)) (hl : ls.length = n) (hall : ∀ d ∈ ls, ∃ z : Int, d = .int k z ∧ lo ≤ z ∧ z ≤ hi) : ∃ z : Int, ls[x.toNat]? = some (.int k z) ∧ lo ≤ z ∧ z ≤ hi := by
  have hi : x.toNat < ls.length := by omega
  obtain ⟨z, hz, z0, z1⟩ := hall ls[x.toNat] (List.getElem_mem hi)
  exact ⟨z, by rw [List.getElem?_eq_getElem hi, hz], z0, z1⟩
end Go.Proofs.Ytplcdadedpbkpaa.Mini
end
