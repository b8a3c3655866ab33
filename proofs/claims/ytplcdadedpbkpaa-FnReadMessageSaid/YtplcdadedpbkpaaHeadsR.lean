/- The contracts of the model's functions of chapter 3: reading heads. -/
import Derived.Test.YtplcdadedpbkpaaHeadsT
import Derived.IntWalk
namespace Go.Proofs.Ytplcdadedpbkpaa
open Go.RowKit
set_option linter.unusedVariables false
set_option maxRecDepth 20000

/-- The place of the first colon; the length, if there is none. -/
def colL (l : List UInt8) : Nat := l.findIdx (· == 58)
/-- A text has a colon with a space behind it. -/
def colB (s : ByteArray) : Bool := decide (colL s.data.toList + 2 ≤ s.size) && (s.data.toList[colL s.data.toList + 1]? == some 32)
def readL (s : ByteArray) : HeadM := ⟨s.extract 0 (colL s.data.toList), s.extract (colL s.data.toList + 2) s.size⟩
def readB (ls : List ByteArray) : Bool := ls.all colB && headsB (ls.map readL)
def readR (ls : List ByteArray) : List HeadM := if readB ls = true then ls.map readL else []

theorem col_hit (s : ByteArray) (k : Nat) (hk : k < s.size) (h : k ≤ colL s.data.toList) (h1 : s[k] = 58) : colL s.data.toList = k := by
  have hk' : k < s.data.toList.length := by simpa using hk
  have : ¬ k < colL s.data.toList := by
    intro hlt
    have := List.not_of_lt_findIdx hlt
    have e : s.data.toList[k] = s[k] := rfl
    rw [e, h1] at this
    rw [show ((58 : UInt8) == 58) = true from rfl] at this
    cases this
  omega
theorem col_miss (s : ByteArray) (k : Nat) (hk : k < s.size) (h : k ≤ colL s.data.toList) (h1 : s[k] ≠ 58) : k + 1 ≤ colL s.data.toList := by
  have hk' : k < s.data.toList.length := by simpa using hk
  rcases Nat.lt_or_ge k (colL s.data.toList) with h2 | h2
  · exact h2
  · exfalso
    have e : colL s.data.toList = k := by omega
    have h3 : List.findIdx (· == (58 : UInt8)) s.data.toList < s.data.toList.length := by unfold colL at e; omega
    have := List.findIdx_getElem (w := h3)
    have e2 : s.data.toList[k] = s[k] := rfl
    unfold colL at e
    simp only [e] at this
    rw [e2] at this
    exact h1 (eq_of_beq this)
theorem colL_le (s : ByteArray) : colL s.data.toList ≤ s.size := by
  have : colL s.data.toList ≤ s.data.toList.length := List.findIdx_le_length
  simpa using this
theorem c58_ne {c : UInt8} (h : c ≠ 58) : ((c.toNat : Int) == 58) = false := by
  rw [beq_eq_false_iff_ne]; intro e
  exact h (UInt8.toNat_inj.mp (by show c.toNat = 58; omega))
theorem c58_eq {c : UInt8} (h : c = 58) : ((c.toNat : Int) == 58) = true := by subst h; rfl
theorem c32_ne {c : UInt8} (h : c ≠ 32) : ¬ (c.toNat : Int) = 32 := by
  intro e
  exact h (UInt8.toNat_inj.mp (by show c.toNat = 32; omega))
theorem c32_eq {c : UInt8} (h : c = 32) : (c.toNat : Int) = 32 := by subst h; rfl
theorem colB_at {s : ByteArray} {a : Nat} (ha : colL s.data.toList = a) (h : a + 2 ≤ s.size) : colB s = (s[a + 1] == 32) := by
  unfold colB
  rw [ha, decide_eq_true h, Bool.true_and, List.getElem?_eq_getElem (by simp; omega)]
  have e : s.data.toList[a + 1]'(by simp; omega) = s[a + 1] := rfl
  rw [e]
  rfl
theorem colB_short {s : ByteArray} {a : Nat} (ha : colL s.data.toList = a) (h : ¬ a + 2 ≤ s.size) : colB s = false := by
  unfold colB
  rw [ha, decide_eq_false h, Bool.false_and]
theorem readB_no {ls : List ByteArray} {k : Nat} {s : ByteArray} (h : ls[k]? = some s) (hs : colB s = false) : readB ls = false := by
  unfold readB; rw [all_no colB h hs, Bool.false_and]
theorem readB_long {ls : List ByteArray} (h : 8 < ls.length) : readB ls = false := by
  unfold readB headsB; rw [List.length_map, decide_eq_false (by omega), Bool.false_and, Bool.and_false]

theorem row_none {w wr : World} (hb : Below w.heap.size w wr) {r : List HeadM} {v : Bool} {ls : List ByteArray} (hr : r = readR ls) (hv : v = readB ls) (hf : readB ls = false) :
    RowB w 68 2 r.length (flat headC r) v (.returned (.tuple #[.slice (some ⟨wr.heap.size, 0, none⟩) 0 0, .bool false])) (wr.alloc (.cells #[] 68)) := by
  unfold readR at hr
  rw [hf] at hr hv
  subst hv
  rw [if_neg (by simp)] at hr
  subst hr
  exact ⟨_, _, rfl, World.ownsRow_lit (base := w.heap.size) (e := 68) (size := 2) wr #[] 0 hb.size (Nat.zero_le _) rfl, hb.alloc hb.size _⟩
set_option maxHeartbeats 4000000 in
theorem srd_any (A : Option Addr) (n c : Nat) (ls : List ByteArray) (w : World) (hn : n = ls.length) (hc : n ≤ maxLen) (hr : Sees w w.heap.size 1 A n (flat strC ls)) (hm : ∀ s ∈ ls, s.size ≤ 1048576) (r : List HeadM) (v : Bool) (hrr : r = readR ls) (hv : v = readB ls) :
    Calls Try.prog 23 #[.slice A n c] w (RowB w 68 2 r.length (flat headC r) v) := by
  obtain ⟨i0, hi0, hz0, hz1, hz2⟩ := info_parts info_head
  have HR := Lib.hid hr
  have HN := Lib.hid hn
  have HM := Lib.hid hm
  have HRR := Lib.hid hrr
  have HV := Lib.hid hv
  have HO := Lib.hid (World.ownsRow_lit (base := w.heap.size) (e := 68) (size := 2) w #[] 0 (Nat.le_refl _) (Nat.zero_le _) rfl)
  clear hr hn hm hrr hv
  unfold maxLen at hc
  go_enter Try.func23, Try.ntmps23
  go_wp2
  go_loopw [4, 5, 6] (fun o i a wr => ∃ k : Nat, ∃ A2 c2, k ≤ n ∧ k ≤ 8 ∧ i = .int .i64 k ∧ o = .slice A2 k c2 ∧ wr.ownsRow w.heap.size 68 2 (.slice A2 k c2) k (flat headC ((ls.take k).map readL)) ∧ (ls.take k).all colB = true ∧ Below w.heap.size w wr) (fun _ i _ _ => n - (intOf i).toNat)
  case atStart => exact ⟨0, _, _, Nat.zero_le _, by omega, rfl, rfl, HO.out, rfl, bnew _ _⟩
  case round =>
    obtain ⟨k, A2, c2, hk, hk8, rfl, rfl, hown, hall, hbel⟩ := hrel
    have HW := Lib.hid hown
    have HB := Lib.hid hbel
    have HA := Lib.hid hall
    clear hown hbel hall
    by_cases hlt : k < n
    · obtain ⟨b, off, hA, hb, hcell⟩ := (HR.out.below HB.out (Nat.le_refl _)).2 (by omega)
      subst hA
      obtain ⟨s, hp⟩ := get_of HN.out hlt
      have HP := Lib.hid hp
      have c0 := str_cell hcell hp
      have hsm : s.size ≤ 1048576 := HM.out s (List.mem_of_getElem? hp)
      have hne : (Value.slice A2 k c2).ownBlock ≠ some b := fun e => by have := HW.out.lt b e; omega
      have HNE := Lib.hid hne
      have hsz := HB.out.size
      clear hcell hp hne
      obtain ⟨wo, hwo⟩ : ∃ wo : World, wo = wr := ⟨_, rfl⟩
      subst hwo
      go_wp2
      go_loop [6] (fun a => ∃ j : Nat, j ≤ s.size ∧ a = .int .i64 j ∧ j ≤ colL s.data.toList) (fun a => s.size - (intOf a).toNat)
      case atStart => exact ⟨0, Nat.zero_le _, rfl, Nat.zero_le _⟩
      case round =>
        obtain ⟨j, hj, rfl, hjc⟩ := hrel
        have HJ := Lib.hid hjc
        clear hjc
        by_cases hcont : ∃ h : j < s.size, s[j] ≠ 58
        · obtain ⟨hjl, h3⟩ := hcont
          have HE := Lib.hid (col_miss s j hjl HJ.out h3)
          have h4 := c58_ne h3
          clear h3
          go_wp2
          go_round
          case rel => exact ⟨j + 1, by omega, by go_num, HE.out⟩
          case measure => simp [intOf]; omega
        · have HC : Hid (colL s.data.toList = j) := Lib.hid (by
            by_cases hjl : j < s.size
            · exact col_hit s j hjl HJ.out (Decidable.byContradiction fun h => hcont ⟨hjl, h⟩)
            · have := colL_le s; have := HJ.out; omega)
          have h4 : j < s.size → ∃ h : j < s.size, ((s[j].toNat : Int) == 58) = true := fun h => ⟨h, c58_eq (Decidable.byContradiction fun h2 => hcont ⟨h, h2⟩)⟩
          have H4 := Lib.hid h4
          clear hcont h4
          by_cases h2 : j + 2 ≤ s.size
          · obtain ⟨_, h5⟩ := H4.out (by omega)
            have hj1 : j + 1 < s.size := by omega
            have e1 : (((j : Int) + 1).toNat) = j + 1 := by omega
            have HCB := Lib.hid (colB_at HC.out h2)
            have hgt : decide ((s.size : Int) < (j : Int) + 2) = false := decide_eq_false (by omega)
            by_cases h6 : s[j + 1] = 32
            · have h7 := c32_eq h6
              have HCT : Hid (colB s = true) := Lib.hid (by rw [HCB.out, h6]; rfl)
              clear h6
              by_cases h8 : k = 8
              · have h9 : ((k : Int) == 8) = true := by rw [beq_iff_eq]; omega
                have hf : readB ls = false := readB_long (by rw [← HN.out]; omega)
                have HF := Lib.hid hf
                clear h8 hf
                go_wp2
                go_ret2
                exact row_none HB.out HRR.out HV.out HF.out
              · have h9 : ((k : Int) == 8) = false := beq_eq_false_iff_ne.mpr (by omega)
                have hk7 : k < 8 := by omega
                have wj : IntKind.i64.wrap ((j : Int) + 2) = (j : Int) + 2 := IntWalk.i64_in _ (by omega)
                have tj : ((j : Int) + 2).toNat = j + 2 := by omega
                have b1 : (0 : Int) ≤ (j : Int) := by omega
                have b2 : (j : Int) ≤ (s.size : Int) := by omega
                have b3 : (0 : Int) ≤ (j : Int) + 2 := by omega
                have b4 : (j : Int) + 2 ≤ (s.size : Int) := by omega
                have b5 : (0 : Int) ≤ (k : Int) := by omega
                have b6 : (k : Int) < (n : Int) := by omega
                clear h8
                go_wp2
                go_region_held3 (fun w' => w'.cell? ⟨b, off + k, none⟩ = some (.string s))
                  (first
                    | go_keep
                    | (rw [hgrow.cell_far _ (by simp; omega) (Ne.symm HNE.out)]; assumption))
                  ((refine step_append_lies _ (by rfl) _ _ _ (by rfl) w.heap.size 68 i0 _ 2 32 Try.underlying27 hi0 hz0 hz1 hz2 rfl (by omega) (.slice A2 k c2) k _ (by rfl) ((HW.out.alloc _).drew)
                      ⟨wo.heap.size, 0, none⟩ 1 1 [.string (s.extract 0 j), .string (s.extract (j + 2) s.size)] (by rfl) (by rfl) (World.news_of_block (cs := #[.string (s.extract 0 j), .string (s.extract (j + 2) s.size)]) (t := 68) (fr := (0, 0)) (heap_alloc_new wo _)) (by simp [Value.oneCell'])
                      (by omega) (by unfold maxLen; omega) (by omega) (by simp; omega) (wo.heap.size + 1) (by simp) ?_; intro gg cap w1 hown1 hgrow hat hlt1))
                clear wj tj
                go_wp2
                go_roundw
                case rel =>
                  refine ⟨k + 1, _, _, by omega, by omega, by go_num, rfl, ?_, ?_, ?_⟩
                  · have := take_more HP.out
                    rw [this, List.map_append, flat_append, List.map_singleton, flat_one]
                    unfold readL
                    rw [HC.out]
                    exact hown1
                  · rw [all_more colB HP.out, HA.out, HCT.out]; rfl
                  · have h0 := ((HB.out.alloc HB.out.size (.cells #[.string (s.extract 0 j), .string (s.extract (j + 2) s.size)] 68)))
                    exact (bdrew h0).grown hgrow h0.size (fun g hg => (HW.out.lt g hg).1)
                case measure => simp [intOf]; omega
            · have h7 := c32_ne h6
              have h7b : ((s[j + 1].toNat : Int) == 32) = false := beq_eq_false_iff_ne.mpr h7
              have h7c : ((s[j + 1].toNat : Int) != 32) = true := bne_iff_ne.mpr h7
              have HF : Hid (readB ls = false) := Lib.hid (readB_no HP.out (by rw [HCB.out]; exact beq_eq_false_iff_ne.mpr h6))
              clear h6
              go_wp2
              go_ret2
              exact row_none HB.out HRR.out HV.out HF.out
          · have HF : Hid (readB ls = false) := Lib.hid (readB_no HP.out (colB_short HC.out h2))
            have hgt : (s.size : Int) < (j : Int) + 2 := by omega
            have hgt2 : decide ((s.size : Int) < (j : Int) + 2) = true := decide_eq_true hgt
            by_cases hjl : j < s.size
            · obtain ⟨_, h5⟩ := H4.out hjl
              go_wp2
              go_ret2
              exact row_none HB.out HRR.out HV.out HF.out
            · go_wp2
              go_ret2
              exact row_none HB.out HRR.out HV.out HF.out
    · have HL := Lib.hid (show (ls.map readL).length = k by rw [List.length_map, ← HN.out]; omega)
      have h0 := HW.out
      have hA0 := HA.out
      rw [take_all HN.out hlt] at h0 hA0
      have H0 := Lib.hid h0
      have HAA := Lib.hid hA0
      have HX : Hid (headMax (ls.map readL)) := Lib.hid (by
        intro p hp
        rw [List.mem_map] at hp
        obtain ⟨s, hs, rfl⟩ := hp
        have h1 := HM.out s hs
        have e0 : (s.extract 0 (colL s.data.toList)).size ≤ s.size := by simp; omega
        have e1 : (s.extract (colL s.data.toList + 2) s.size).size ≤ s.size := by simp
        exact ⟨by show ((s.extract 0 (colL s.data.toList)).size : Int) ≤ (maxLen : Int); unfold maxLen; omega, by show ((s.extract (colL s.data.toList + 2) s.size).size : Int) ≤ (maxLen : Int); unfold maxLen; omega⟩)
      have hvv : headsB (ls.map readL) = v := by rw [HV.out]; unfold readB; rw [HAA.out, Bool.true_and]
      have hcv : Calls Try.prog 42 #[.slice A2 k c2] wr fun e w' => e = .returned (.bool v) ∧ wr = w' := by
        have := shv_any A2 k c2 _ wr HL.out.symm (by unfold maxLen; omega) (Sees.of_own H0.out) HX.out
        rw [hvv] at this; exact this
      have HCV := Lib.hid hcv
      clear h0 hA0 hvv hcv
      go_wp2_with fail
      refine HCV.out.mono ?_
      rintro e w1 ⟨rfl, rfl⟩
      cases v
      · have HF := Lib.hid (HV.out.symm)
        go_wp2
        go_ret2
        exact row_none HB.out HRR.out HV.out HF.out
      · have hr : r = ls.map readL := by rw [HRR.out]; unfold readR; rw [← HV.out]; rfl
        have HRL := Lib.hid hr
        clear hr
        go_wp2
        go_ret2
        rw [HRL.out, HL.out]
        exact ⟨_, _, rfl, H0.out, HB.out⟩
end Go.Proofs.Ytplcdadedpbkpaa
