/- The contracts of the program's functions of chapter 3: lines of heads, reading heads. -/
import Derived.Test.YtplcdadedpbkpaaIHeadsV
import Derived.RegionTactic
import Derived.BigRegion
import Derived.ChangeAlike
import Derived.StillTailTactics
namespace Go.Proofs.Ytplcdadedpbkpaa
open Go.RowKit
set_option linter.unusedVariables false
set_option maxRecDepth 20000

set_option maxHeartbeats 2000000 in
theorem ihl_t (A : Option Addr) (n c : Nat) (hs : List HeadM) (w : World) (hn : n = hs.length) (hc : n ≤ maxLen) (hr : Sees w w.heap.size 2 A n (flat headC hs)) (hm : headMax hs) (hv : headsB hs = true) :
    Calls Try.prog 32 #[.slice A n c] w (RowP w 9 1 n (flat strC (hs.map headL))) := by
  have hn8 : n ≤ 8 := by rw [hn]; exact headsB_len hv
  obtain ⟨cs, hcs, hmk⟩ := made_row (P := Try.prog) 23 9 _ 1 16 Try.underlying23 info_string n (by omega) (by omega)
  have hcv : Calls Try.prog 30 #[.slice A n c] w fun e w' => e = .returned (.bool true) ∧ Below w.heap.size w w' := by
    have := ihv_any A n c hs w hn hc hr hm
    rw [hv] at this; exact this
  have HCV := Lib.hid hcv
  have HR := Lib.hid hr
  have HN := Lib.hid hn
  have HV := Lib.hid hv
  have HCS : Hid (cs.toList.length = n * 1) := Lib.hid (by simpa using hcs)
  have HC0 := Lib.hid hcs
  clear hr hn hm hv hcv hcs
  unfold maxLen at hc
  go_enter Try.func32, Try.ntmps32
  go_wp2_with fail
  refine HCV.out.mono ?_
  rintro e w1 ⟨rfl, hb1⟩
  have HB1 := Lib.hid hb1
  have HO := Lib.hid (World.ownsRow_lit (base := w.heap.size) (e := 9) (size := 1) w1 cs n hb1.size (by unfold maxLen; omega) HC0.out)
  have hz1 := hb1.size
  clear hb1
  go_wp2
  clear hmk
  go_loopw [4] (fun i wr => ∃ k : Nat, ∃ ys : List Value, k ≤ n ∧ i = .int .i64 k ∧ ys.length = n * 1 ∧ ys.take (k * 1) = flat strC ((hs.map headL).take k) ∧ wr.ownsRow w.heap.size 9 1 (.slice (some ⟨w1.heap.size, 0, none⟩) n n) n ys ∧ Below w.heap.size w wr) (fun i _ => n - (intOf i).toNat)
  case atStart => exact ⟨0, _, Nat.zero_le _, rfl, HCS.out, rfl, HO.out, HB1.out.alloc hz1 _⟩
  case round =>
    obtain ⟨k, ys, hk, rfl, hy, ht, hown, hbel⟩ := hrel
    have HY := Lib.hid hy
    have HT := Lib.hid ht
    have HW := Lib.hid hown
    have HB := Lib.hid hbel
    clear hy ht hown hbel
    by_cases hlt : k < n
    · obtain ⟨b, off, rfl, hb, hcell⟩ := (HR.out.below HB.out (Nat.le_refl _)).2 (by omega)
      obtain ⟨p, hp⟩ := get_of HN.out hlt
      have HP := Lib.hid hp
      obtain ⟨c0, c1⟩ := head_cells hcell hp
      obtain ⟨s0, s1⟩ := headB_size (headsB_at HV.out hp)
      have a1 := add_run Try.prog p.x0 ⟨#[58, 32]⟩ (by show _ + 2 ≤ _; omega)
      have a2 := add_run Try.prog (p.x0 ++ ⟨#[58, 32]⟩) p.x1 (by rw [size_cat]; show _ + 2 + _ ≤ _; omega)
      obtain ⟨u, d0⟩ := own_some HW.out (j := k) (by omega)
      have f0 := HW.out.frozenAt k
      have HPM : Hid ((hs.map headL)[k]? = some (headL p)) := Lib.hid (by rw [List.getElem?_map, HP.out]; rfl)
      have HNM : Hid (n = (hs.map headL).length) := Lib.hid (by rw [List.length_map]; exact HN.out)
      have b5 : (0 : Int) ≤ (k : Int) := by omega
      have b6 : (k : Int) < (n : Int) := by omega
      clear hcell hb hp
      go_wp2
      go_region
      clear a1 a2
      go_wp2
      go_roundw
      case rel =>
        have := fill_step strC_len HY.out HNM.out HT.out HPM.out
        simp only [Nat.mul_one, setAll, strC, headL] at this
        exact ⟨k + 1, _, by omega, by go_num, by rw [this.1]; omega, by rw [Nat.mul_one]; exact this.2, (HW.out.drew.stored k _).1, (bdrew HB.out).setCell hz1 _⟩
      case measure => simp [intOf]; omega
    · go_wp2
      go_ret
      refine ⟨_, _, rfl, ?_, HB.out⟩
      have HNM : n = (hs.map headL).length := by rw [List.length_map]; exact HN.out
      rw [← fill_end HY.out HNM HT.out hlt hk]
      exact HW.out

theorem ihl_any (A : Option Addr) (n c : Nat) (hs : List HeadM) (w : World) (hn : n = hs.length) (hc : n ≤ maxLen) (hr : Sees w w.heap.size 2 A n (flat headC hs)) (hm : headMax hs) :
    Calls Try.prog 32 #[.slice A n c] w (RowP w 9 1 (linesOf hs).length (flat strC (linesOf hs))) := by
  unfold linesOf
  by_cases hv : headsB hs = true
  · rw [if_pos hv, List.length_map, ← hn]
    exact ihl_t A n c hs w hn hc hr hm hv
  · have hv2 : headsB hs = false := by simpa using hv
    rw [if_neg hv]
    have hcv : Calls Try.prog 30 #[.slice A n c] w fun e w' => e = .returned (.bool false) ∧ Below w.heap.size w w' := by
      have := ihv_any A n c hs w hn hc hr hm
      rw [hv2] at this; exact this
    have HCV := Lib.hid hcv
    clear hr hn hm hv hv2 hcv
    go_enter Try.func32, Try.ntmps32
    go_wp2_with fail
    refine HCV.out.mono ?_
    rintro e w1 ⟨rfl, hb1⟩
    go_wp2
    go_ret
    exact ⟨_, _, rfl, ⟨rfl, .inl ⟨rfl, rfl⟩⟩, hb1⟩

/-- The place of the first colon, or -1. -/
def colI (s : ByteArray) : Int := if colL s.data.toList < s.size then (colL s.data.toList : Int) else -1
set_option maxHeartbeats 400000 in
theorem ico_any (s : ByteArray) (w : World) (hs : s.size ≤ maxLen) :
    Calls Try.prog 38 #[.string s, .int .u8 58] w fun e w' => e = .returned (.int .i64 (colI s)) ∧ w = w' := by
  unfold maxLen at hs
  go_enter Try.func38, Try.ntmps38
  go_wp2
  go_loop [5] (fun i => ∃ k : Nat, k ≤ s.size ∧ i = .int .i64 k ∧ k ≤ colL s.data.toList) (fun i => s.size - (intOf i).toNat)
  case atStart => exact ⟨0, Nat.zero_le _, rfl, Nat.zero_le _⟩
  case round =>
    obtain ⟨k, hk, rfl, hat⟩ := hrel
    have HA := Lib.hid hat
    clear hat
    by_cases hlt : k < s.size
    · by_cases h3 : s[k] = 58
      · have HE := Lib.hid (col_hit s k hlt HA.out h3)
        have h4 := c58_eq h3
        clear h3
        go_wp2
        go_ret
        refine ⟨ret_int ?_, rfl⟩
        unfold colI; rw [HE.out, if_pos hlt]
      · have HE := Lib.hid (col_miss s k hlt HA.out h3)
        have h4 := c58_ne h3
        clear h3
        go_wp2
        go_round
        case rel => exact ⟨k + 1, by omega, by go_num, HE.out⟩
        case measure => simp [intOf]; omega
    · go_wp2
      go_ret
      refine ⟨ret_int ?_, rfl⟩
      have := HA.out
      unfold colI; rw [if_neg (by omega)]
theorem ico_yes (s : ByteArray) (k : Nat) (w : World) (hs : s.size ≤ maxLen) (h : colL s.data.toList = k) (hk : k < s.size) :
    Calls Try.prog 38 #[.string s, .int .u8 58] w fun e w' => e = .returned (.int .i64 (k : Int)) ∧ w = w' := by
  have := ico_any s w hs
  unfold colI at this; rw [h, if_pos hk] at this; exact this
theorem ico_no (s : ByteArray) (w : World) (hs : s.size ≤ maxLen) (hk : ¬ colL s.data.toList < s.size) :
    Calls Try.prog 38 #[.string s, .int .u8 58] w fun e w' => e = .returned (.int .i64 (-1)) ∧ w = w' := by
  have := ico_any s w hs
  unfold colI at this; rw [if_neg hk] at this; exact this

/-- A line is that of a valid head. -/
def rhB (s : ByteArray) : Bool := colB s && headB (readL s)
def noHead : Value := .tuple #[.agg #[.string ⟨#[]⟩, .string ⟨#[]⟩], .bool false]
def yesHead (p : HeadM) : Value := .tuple #[.agg #[.string p.x0, .string p.x1], .bool true]
def rhV (v : Bool) (p : HeadM) : Value := if v = true then yesHead p else noHead

theorem col_at (s : ByteArray) (k : Nat) (h : colL s.data.toList = k) (hk : k < s.size) : s[k] = 58 := by
  have hk2 : k < s.data.toList.length := by simpa using hk
  have h3 : List.findIdx (· == (58 : UInt8)) s.data.toList < s.data.toList.length := by unfold colL at h; omega
  have := List.findIdx_getElem (w := h3)
  unfold colL at h
  simp only [h] at this
  have e2 : s.data.toList[k] = s[k] := rfl
  rw [e2] at this
  exact eq_of_beq this
theorem col_bytes (s : ByteArray) (k : Nat) (h : colL s.data.toList = k) (h2 : k + 2 ≤ s.size) : ((s.extract k (k + 2)).toList == [58, 32]) = colB s := by
  rw [colB_at h h2, ByteArray.toList_eq]
  have e0 : s[k] = 58 := col_at s k h (by omega)
  have hl : (s.extract k (k + 2)).data.toList = [s[k], s[k + 1]] := by
    have e1 : s.data.toList[k]'(by simp; omega) = s[k] := rfl
    have e2 : s.data.toList[k + 1]'(by simp; omega) = s[k + 1] := rfl
    simp only [ByteArray.data_extract, Array.toList_extract, List.extract_eq_take_drop]
    rw [List.drop_eq_getElem_cons (by simp; omega), List.drop_eq_getElem_cons (by simp; omega), show k + 2 - k = 2 by omega]
    simp [e1, e2]
  rw [hl, e0]
  simp

theorem irh_f1 (s : ByteArray) (w : World) (hs : s.size ≤ maxLen) (h : ¬ colL s.data.toList < s.size) :
    Calls Try.prog 40 #[.string s] w fun e w' => e = .returned noHead ∧ Below w.heap.size w w' := by
  have HS := Lib.hid hs
  have HA := Lib.hid h
  clear hs h
  go_enter Try.func40, Try.ntmps40
  go_wp2_with fail
  refine (ico_no _ _ HS.out HA.out).mono ?_
  rintro e w' ⟨rfl, rfl⟩
  go_wp2
  exact bodyPost_ret (v := .tuple #[.agg #[.string ⟨#[]⟩, .string ⟨#[]⟩], .bool false]) (by simp [results, Try.results40, go_sem]) rfl ⟨rfl, (Below.refl _ _).alloc (Nat.le_refl _) _⟩

theorem irh_f2 (s : ByteArray) (k : Nat) (w : World) (hs : s.size ≤ 1048576) (h : colL s.data.toList = k) (hk : k < s.size) (h2 : k + 2 ≤ s.size → colB s = false) :
    Calls Try.prog 40 #[.string s] w fun e w' => e = .returned noHead ∧ Below w.heap.size w w' := by
  have HS : Hid (s.size ≤ maxLen) := Lib.hid (by unfold maxLen; omega)
  have HA := Lib.hid h
  have wj : IntKind.i64.wrap ((k : Int) + 2) = (k : Int) + 2 := IntWalk.i64_in _ (by omega)
  have tj : ((k : Int) + 2).toNat = k + 2 := by omega
  have hq : ¬ (k : Int) < 0 := by omega
  by_cases h3 : k + 2 ≤ s.size
  · have h5 := col_bytes s k h h3
    rw [h2 h3] at h5
    have b1 : ¬ (s.size : Int) < (k : Int) + 2 := by omega
    have b1d : decide ((s.size : Int) < (k : Int) + 2) = false := decide_eq_false b1
    have b2 : (k : Int) ≤ (k : Int) + 2 := by omega
    clear h h2
    go_enter Try.func40, Try.ntmps40
    go_wp2_with fail
    refine (ico_yes _ _ _ HS.out HA.out hk).mono ?_
    rintro e w' ⟨rfl, rfl⟩
    go_wp2
    exact bodyPost_ret (v := .tuple #[.agg #[.string ⟨#[]⟩, .string ⟨#[]⟩], .bool false]) (by simp [results, Try.results40, go_sem]) rfl ⟨rfl, (Below.refl _ _).alloc (Nat.le_refl _) _⟩
  · have b1 : (s.size : Int) < (k : Int) + 2 := by omega
    have b1d : decide ((s.size : Int) < (k : Int) + 2) = true := decide_eq_true b1
    clear h h2
    go_enter Try.func40, Try.ntmps40
    go_wp2_with fail
    refine (ico_yes _ _ _ HS.out HA.out hk).mono ?_
    rintro e w' ⟨rfl, rfl⟩
    go_wp2
    exact bodyPost_ret (v := .tuple #[.agg #[.string ⟨#[]⟩, .string ⟨#[]⟩], .bool false]) (by simp [results, Try.results40, go_sem]) rfl ⟨rfl, (Below.refl _ _).alloc (Nat.le_refl _) _⟩

theorem readL_max (s : ByteArray) (h : s.size ≤ maxLen) : (readL s).x0.size ≤ maxLen ∧ (readL s).x1.size ≤ maxLen := by
  have e0 : (s.extract 0 (colL s.data.toList)).size ≤ s.size := by simp; omega
  have e1 : (s.extract (colL s.data.toList + 2) s.size).size ≤ s.size := by simp
  exact ⟨by show (s.extract 0 (colL s.data.toList)).size ≤ _; omega, by show (s.extract (colL s.data.toList + 2) s.size).size ≤ _; omega⟩

set_option maxHeartbeats 1000000 in
theorem irh_t (s : ByteArray) (k : Nat) (v : Bool) (w : World) (hs : s.size ≤ 1048576) (h : colL s.data.toList = k) (h3 : k + 2 ≤ s.size) (h2 : colB s = true) (hv : headB (readL s) = v) :
    Calls Try.prog 40 #[.string s] w fun e w' => e = .returned (rhV v (readL s)) ∧ Below w.heap.size w w' := by
  have HS : Hid (s.size ≤ maxLen) := Lib.hid (by unfold maxLen; omega)
  have HA := Lib.hid h
  have hx0 : s.extract 0 k = (readL s).x0 := by unfold readL; rw [h]
  have hx1 : s.extract (k + 2) s.size = (readL s).x1 := by unfold readL; rw [h]
  have HX0 := Lib.hid hx0
  have HX1 := Lib.hid hx1
  have hc : ∀ W : World, Calls Try.prog 50 #[.agg #[.string (readL s).x0, .string (readL s).x1]] W fun e w' => e = .returned (.bool v) ∧ Below W.heap.size W w' :=
    fun W => ihd_b (readL s) v W (readL_max s (by unfold maxLen; omega)) hv
  have HC := Lib.hid hc
  have wj : IntKind.i64.wrap ((k : Int) + 2) = (k : Int) + 2 := IntWalk.i64_in _ (by omega)
  have tj : ((k : Int) + 2).toNat = k + 2 := by omega
  have hq : ¬ (k : Int) < 0 := by omega
  have h5 := col_bytes s k h h3
  rw [h2] at h5
  have b1 : ¬ (s.size : Int) < (k : Int) + 2 := by omega
  have b1d : decide ((s.size : Int) < (k : Int) + 2) = false := decide_eq_false b1
  have b2 : (k : Int) ≤ (k : Int) + 2 := by omega
  have b3 : (0 : Int) ≤ (k : Int) + 2 := by omega
  have b4 : (k : Int) + 2 ≤ (s.size : Int) := by omega
  have b5 : (0 : Int) ≤ (k : Int) := by omega
  have b6 : (k : Int) ≤ (s.size : Int) := by omega
  have hk : k < s.size := by omega
  clear h h2 hv hc hx0 hx1
  go_enter Try.func40, Try.ntmps40
  go_wp2_with fail
  refine (ico_yes _ _ _ HS.out HA.out hk).mono ?_
  rintro e w' ⟨rfl, rfl⟩
  go_wp2
  go_region
  go_wp2_with fail
  rw [HX0.out, HX1.out]
  refine (HC.out _).mono ?_
  rintro e w1 ⟨rfl, hb⟩
  obtain ⟨hcl, hfr⟩ := bcell hb
  have HB := Lib.hid (((bdrew (((Below.refl w.heap.size w).alloc (Nat.le_refl _) (.cells #[.string ⟨#[]⟩, .string ⟨#[]⟩] 68)).alloc (by simp) (.cells #[.string (readL s).x0, .string (readL s).x1] 68)))).trans (hb.mono (by simp; omega)))
  have HZ := Lib.hid hb.size
  clear hb
  have hsz : w.heap.size + 1 < w1.heap.size := by have := HZ.out; simp at this; omega
  have hc0 : w1.cell? ⟨w.heap.size, 0, none⟩ = some (.string ⟨#[]⟩) := by rw [hcl _ _ (by simp; omega)]; simp [go_sem]
  have hc1 : w1.cell? ⟨w.heap.size, 1, none⟩ = some (.string ⟨#[]⟩) := by rw [hcl _ _ (by simp; omega)]; simp [go_sem]
  have HT := Lib.hid (set_two hc0 hc1)
  clear hc0 hc1
  cases v
  · go_wp2
    have hT := HT.out (.string ⟨#[]⟩) (.string ⟨#[]⟩)
    refine bodyPost_ret (v := .tuple #[.agg #[.string ⟨#[]⟩, .string ⟨#[]⟩], .bool false]) (by simp [results, Try.results40, go_sem, hT.1, hT.2]) rfl ⟨rfl, ?_⟩
    repeat (first | exact HB.out | refine Below.setCell ?_ (by simp) _)
  · go_wp2
    have hT := HT.out (.string (readL s).x0) (.string (readL s).x1)
    refine bodyPost_ret (v := .tuple #[.agg #[.string (readL s).x0, .string (readL s).x1], .bool true]) (by simp [results, Try.results40, go_sem, hT.1, hT.2]) rfl ⟨rfl, ?_⟩
    repeat (first | exact HB.out | refine Below.setCell ?_ (by simp) _)

theorem irh_any (s : ByteArray) (v : Bool) (w : World) (hs : s.size ≤ 1048576) (hv : rhB s = v) :
    Calls Try.prog 40 #[.string s] w fun e w' => e = .returned (rhV v (readL s)) ∧ Below w.heap.size w w' := by
  unfold rhB at hv
  by_cases h1 : colL s.data.toList < s.size
  · by_cases h2 : colB s = true
    · rw [h2, Bool.true_and] at hv
      have h3 : colL s.data.toList + 2 ≤ s.size := by
        unfold colB at h2
        rw [Bool.and_eq_true, decide_eq_true_eq] at h2
        exact h2.1
      exact irh_t s _ v w hs rfl h3 h2 hv
    · have h2 : colB s = false := by simpa using h2
      rw [h2, Bool.false_and] at hv
      subst hv
      exact irh_f2 s _ w hs rfl h1 (fun _ => h2)
  · have h2 : colB s = false := colB_short rfl (by omega)
    rw [h2, Bool.false_and] at hv
    subst hv
    exact irh_f1 s w (by unfold maxLen; omega) h1

theorem readB_all (ls : List ByteArray) : readB ls = (decide (ls.length ≤ 8) && ls.all rhB) := by
  unfold readB headsB
  rw [List.length_map, List.all_map]
  have : ls.all rhB = (ls.all colB && ls.all (headB ∘ readL)) := by
    induction ls with
    | nil => rfl
    | cons a t ih =>
      simp only [List.all_cons, ih]
      unfold rhB
      simp only [Function.comp]
      cases colB a <;> cases headB (readL a) <;> simp
  rw [this]
  cases ls.all colB <;> cases decide (ls.length ≤ 8) <;> cases ls.all (headB ∘ readL) <;> rfl

set_option maxHeartbeats 4000000 in
theorem ird_any (A : Option Addr) (n c : Nat) (ls : List ByteArray) (w : World) (hn : n = ls.length) (hc : n ≤ maxLen) (hr : Sees w w.heap.size 1 A n (flat strC ls)) (hm : ∀ s ∈ ls, s.size ≤ 1048576) (r : List HeadM) (v : Bool) (hrr : r = readR ls) (hv : v = readB ls) :
    Calls Try.prog 19 #[.slice A n c] w (RowB w 68 2 r.length (flat headC r) v) := by
  have HR := Lib.hid hr
  have HN := Lib.hid hn
  have HM := Lib.hid hm
  have HRR := Lib.hid hrr
  have HV := Lib.hid hv
  clear hr hn hm hrr hv
  unfold maxLen at hc
  have hnone : ∀ w' : World, Below w.heap.size w w' → readB ls = false → RowB w 68 2 r.length (flat headC r) v (.returned (.tuple #[.slice none 0 0, .bool false])) w' := by
    intro w' hb hf
    have h1 := HRR.out
    unfold readR at h1
    rw [hf, if_neg (by simp)] at h1
    have h2 := HV.out
    rw [hf] at h2
    subst h1; subst h2
    exact ⟨_, _, rfl, ⟨rfl, .inl ⟨rfl, rfl⟩⟩, hb⟩
  have HNO := Lib.hid hnone
  clear hnone
  by_cases h8 : 8 < n
  · have HF : Hid (readB ls = false) := Lib.hid (by rw [readB_all, ← HN.out, decide_eq_false (by omega)]; rfl)
    go_enter Try.func19, Try.ntmps19
    go_wp2
    go_ret2
    exact HNO.out _ (Below.refl _ _) HF.out
  obtain ⟨cs, hcs, hmk⟩ := made_row (P := Try.prog) 27 68 _ 2 32 Try.underlying27 info_head n (by omega) (by omega)
  have HO := Lib.hid (World.ownsRow_lit (base := w.heap.size) (e := 68) (size := 2) w cs n (Nat.le_refl _) (by unfold maxLen; omega) hcs)
  have HCS : Hid (cs.toList.length = n * 2) := Lib.hid (by simpa using hcs)
  have HD : Hid (decide (ls.length ≤ 8) = true) := Lib.hid (decide_eq_true (by rw [← HN.out]; omega))
  clear hcs
  go_enter Try.func19, Try.ntmps19
  go_wp2
  clear hmk
  go_loopw [5, 6, 7] (fun i a b wr => ∃ k : Nat, ∃ ys : List Value, k ≤ n ∧ i = .int .i64 k ∧ ys.length = n * 2 ∧ ys.take (k * 2) = flat headC ((ls.map readL).take k) ∧ (ls.take k).all rhB = true ∧ wr.ownsRow w.heap.size 68 2 (.slice (some ⟨w.heap.size, 0, none⟩) n n) n ys ∧ Below w.heap.size w wr) (fun i _ _ _ => n - (intOf i).toNat)
  case atStart => exact ⟨0, _, Nat.zero_le _, rfl, HCS.out, by rw [Nat.zero_mul]; rfl, rfl, HO.out, bnew _ _⟩
  case round =>
    obtain ⟨k, ys, hk, rfl, hy, ht, hall, hown, hbel⟩ := hrel
    have HY := Lib.hid hy
    have HT := Lib.hid ht
    have HA := Lib.hid hall
    have HW := Lib.hid hown
    have HB := Lib.hid hbel
    clear hy ht hall hown hbel
    by_cases hlt : k < n
    · obtain ⟨b, off, rfl, hb, hcell⟩ := (HR.out.below HB.out (Nat.le_refl _)).2 (by omega)
      obtain ⟨s, hp⟩ := get_of HN.out hlt
      have HP := Lib.hid hp
      have c0 := str_cell hcell hp
      have HSM := Lib.hid (HM.out s (List.mem_of_getElem? hp))
      clear hcell hb hp
      obtain ⟨t, ht⟩ : ∃ t, rhB s = t := ⟨_, rfl⟩
      have HT1 := Lib.hid ht
      clear ht
      go_wp2_with fail
      refine (irh_any s t _ HSM.out HT1.out).mono ?_
      rintro e w1 ⟨rfl, hb1⟩
      have HB1 := Lib.hid (btrans HB.out hb1)
      have HW1 := Lib.hid (own_call HW.out hb1)
      have hz1 := HB1.out.size
      clear hb1
      cases t
      · have HF : Hid (readB ls = false) := Lib.hid (by rw [readB_all, all_no rhB HP.out HT1.out, Bool.and_false])
        have er : rhV false (readL s) = .tuple #[.agg #[.string ⟨#[]⟩, .string ⟨#[]⟩], .bool false] := rfl
        rw [er]
        go_wp2
        go_ret2
        exact HNO.out _ (HB1.out.alloc hz1 _) HF.out
      · have er : rhV true (readL s) = .tuple #[.agg #[.string (readL s).x0, .string (readL s).x1], .bool true] := rfl
        rw [er]
        have HW2 := Lib.hid (HW1.out.alloc (.cells #[.string (readL s).x0, .string (readL s).x1] 68))
        obtain ⟨u0, d0⟩ := own_some HW2.out (j := k * 2) (by omega)
        have f0 := HW2.out.frozenAt (k * 2)
        obtain ⟨u1, d1⟩ := own_some HW2.out (j := k * 2 + 1) (by omega)
        have f1 := HW2.out.frozenAt (k * 2 + 1)
        have HPM : Hid ((ls.map readL)[k]? = some (readL s)) := Lib.hid (by rw [List.getElem?_map, HP.out]; rfl)
        have HNM : Hid (n = (ls.map readL).length) := Lib.hid (by rw [List.length_map]; exact HN.out)
        go_wp2
        go_roundw
        case rel =>
          have hs0 := HW2.out.stored (k * 2) (.string (readL s).x0)
          have hs1 := hs0.1.stored (k * 2 + 1) (.string (readL s).x1)
          have := fill_step headC_len HY.out HNM.out HT.out HPM.out
          simp only [setAll, headC] at this
          refine ⟨k + 1, _, by omega, by go_num, this.1, this.2, ?_, hs1.1, ?_⟩
          · rw [all_more rhB HP.out, HA.out, HT1.out]; rfl
          · repeat (first | exact HB1.out.alloc hz1 _ | refine Below.setCell ?_ (by simp) _)
        case measure => simp [intOf]; omega
    · go_wp2
      go_ret2
      have h1 := HA.out
      rw [take_all HN.out hlt] at h1
      have hb : readB ls = true := by rw [readB_all, h1, HD.out]; rfl
      have hr : r = ls.map readL := by rw [HRR.out]; unfold readR; rw [if_pos hb]
      have hvt : v = true := by rw [HV.out, hb]
      subst hr; subst hvt
      have HNM : n = (ls.map readL).length := by rw [List.length_map]; exact HN.out
      rw [← fill_end HY.out HNM HT.out hlt hk, ← HNM]
      exact ⟨_, _, rfl, HW.out, HB.out⟩
end Go.Proofs.Ytplcdadedpbkpaa
