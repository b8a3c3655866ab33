/- The contracts of the program's functions of chapter 4: reading messages. -/
import Derived.Test.YtplcdadedpbkpaaIMsgL
import Derived.Test.YtplcdadedpbkpaaMsgR
import Derived.Test.YtplcdadedpbkpaaPlace
namespace Go.Proofs.Ytplcdadedpbkpaa
open Go.RowKit
set_option linter.unusedVariables false
set_option maxRecDepth 20000

/-- The place of the first empty line, or -1. -/
def emZ (ls : List ByteArray) : Int := if emI ls < ls.length then (emI ls : Int) else -1
theorem em_hit {ls : List ByteArray} {k : Nat} {s : ByteArray} (hp : ls[k]? = some s) (ha : ∀ s ∈ ls.take k, (s.toList == []) = false) (he : (s.toList == []) = true) : emI ls = k ∧ k < ls.length := by
  obtain ⟨h1, h2⟩ := List.getElem?_eq_some_iff.mp hp
  refine ⟨?_, h1⟩
  unfold emI
  rw [List.findIdx_eq h1, h2]
  refine ⟨he, fun j hj => ?_⟩
  have := ha (ls[j]'(by omega)) (List.mem_of_getElem? (i := j) (by rw [List.getElem?_take, if_pos hj]; exact List.getElem?_eq_getElem (by omega)))
  simpa using this
set_option maxHeartbeats 400000 in
theorem ife_any (A : Option Addr) (n c : Nat) (ls : List ByteArray) (w : World) (hn : n = ls.length) (hc : n ≤ maxLen) (hr : Sees w w.heap.size 1 A n (flat strC ls)) :
    Calls Try.prog 17 #[.slice A n c] w fun e w' => e = .returned (.int .i64 (emZ ls)) ∧ w = w' := by
  unfold maxLen at hc
  have HN := Lib.hid hn
  have HR := Lib.hid hr
  clear hn hr
  go_enter Try.func17, Try.ntmps17
  go_wp2
  go_loop [3] (fun i => ∃ k : Nat, k ≤ n ∧ i = .int .i64 k ∧ ∀ s ∈ ls.take k, (s.toList == []) = false) (fun i => n - (intOf i).toNat)
  case atStart => exact ⟨0, Nat.zero_le _, rfl, fun p hp => by simp at hp⟩
  case round =>
    obtain ⟨k, hk, rfl, hall⟩ := hrel
    have HA := Lib.hid hall
    clear hall
    by_cases hlt : k < n
    · obtain ⟨b, off, rfl, hb, hcell⟩ := HR.out.2 (by omega)
      obtain ⟨s, hp⟩ := get_of HN.out hlt
      have HP := Lib.hid hp
      have c0 := str_cell hcell hp
      clear hcell hb hp
      by_cases he : (s.toList == []) = true
      · have HE := Lib.hid (em_hit HP.out HA.out he)
        go_wp2
        go_ret
        exact ⟨ret_int (by unfold emZ; rw [if_pos (by rw [HE.out.1]; exact HE.out.2), HE.out.1]), rfl⟩
      · have he : (s.toList == []) = false := by simpa using he
        have HE := Lib.hid he
        go_wp2
        go_round
        case rel => exact ⟨k + 1, by omega, by go_num, mem_more HP.out HA.out HE.out⟩
        case measure => simp [intOf]; omega
    · have hA : ∀ s ∈ ls, (s.toList == []) = false := by
        have := HA.out
        rw [take_all HN.out hlt] at this
        exact this
      have HAA := Lib.hid hA
      clear hA
      go_wp2
      go_ret
      refine ⟨ret_int ?_, rfl⟩
      have hem : emI ls = ls.length := by
        unfold emI
        rw [List.findIdx_eq_length]
        exact HAA.out
      unfold emZ
      rw [hem, if_neg (by omega)]

theorem icl_any (A : Option Addr) (n c : Nat) (hs : List ByteArray) (w : World) (hn : n = hs.length) (hc : n ≤ 1048576) (hr : Sees w w.heap.size 1 A n (flat strC hs)) :
    Calls Try.prog 21 #[.slice A n c] w (RowP w 9 1 n (flat strC hs)) := by
  obtain ⟨cs, hcs, hmk⟩ := made_row (P := Try.prog) 23 9 _ 1 16 Try.underlying23 info_string n (by omega) (by omega)
  have HO := Lib.hid (World.ownsRow_lit (base := w.heap.size) (e := 9) (size := 1) w cs n (Nat.le_refl _) (by unfold maxLen; omega) hcs)
  have HR := Lib.hid (hr.alloc (Nat.le_refl _) (.cells cs 9))
  clear hcs hr hn
  go_enter Try.func21, Try.ntmps21
  go_wp2_with (with_reducible refine wpList_copy_list rfl (.tmp 7) (.tmp 8) 23 23 rfl w.heap.size 9 1 n c w.heap.size w.heap.size A (flat strC hs) cs.toList Try.underlying23 (by kernel_rfl) rfl rfl HO.out HR.out (str_ones' hs) ?_; intro w2 hown2 hg2; have HW2 := Lib.hid hown2; have HG2 := Lib.hid hg2; clear hown2 hg2)
  go_ret
  exact ⟨_, _, rfl, HW2.out, (bnew w _).grown HG2.out (by simp) (fun g hg => by injection hg with hg; omega)⟩

/-- The start that a word and a text make. -/
def startM (a z : ByteArray) : MsgM := if (a.toList == ansL) = true then ⟨⟨#[]⟩, ⟨#[]⟩, ⟨#[]⟩, readN z.data.toList, [], []⟩ else ⟨a, readU z, readH z, 0, [], []⟩
/-- A message without lists. -/
def msgV (p : MsgM) : Value := .agg #[.string p.x0, .string p.x1, .string p.x2, .int .i64 p.x3, .slice none 0 0, .slice none 0 0]
theorem six_set {w : World} {g : Nat} {t : TypeId} {a0 a1 a2 a3 a4 a5 : Value} (h : Holds w g t #[a0, a1, a2, a3, a4, a5]) (v0 v1 v2 v3 v4 v5 : Value) :
    Holds ((((((w.setCell ⟨g, 0, none⟩ v0).setCell ⟨g, 1, none⟩ v1).setCell ⟨g, 2, none⟩ v2).setCell ⟨g, 3, none⟩ v3).setCell ⟨g, 4, none⟩ v4).setCell ⟨g, 5, none⟩ v5) g t #[v0, v1, v2, v3, v4, v5] := by
  have h0 : Holds _ g t #[v0, a1, a2, a3, a4, a5] := h.set 0 v0
  have h1 : Holds _ g t #[v0, v1, a2, a3, a4, a5] := h0.set 1 v1
  have h2 : Holds _ g t #[v0, v1, v2, a3, a4, a5] := h1.set 2 v2
  have h3 : Holds _ g t #[v0, v1, v2, v3, a4, a5] := h2.set 3 v3
  have h4 : Holds _ g t #[v0, v1, v2, v3, v4, a5] := h3.set 4 v4
  exact h4.set 5 v5
theorem iso_any (a z : ByteArray) (w : World) (hz : z.size ≤ maxLen) :
    Calls Try.prog 39 #[.string a, .string z] w fun e w' => e = .returned (msgV (startM a z)) ∧ Below w.heap.size w w' := by
  have HZ := Lib.hid hz
  clear hz
  by_cases h : (a.toList == ansL) = true
  · have HM : Hid (startM a z = ⟨⟨#[]⟩, ⟨#[]⟩, ⟨#[]⟩, readN z.data.toList, [], []⟩) := Lib.hid (by unfold startM; rw [if_pos h])
    unfold ansL at h
    go_enter Try.func39, Try.ntmps39
    go_wp2_with fail
    refine (iread_any _ _ HZ.out).mono ?_
    rintro e w' ⟨rfl, rfl⟩
    go_wp2
    refine bodyPost_ret (v := msgV ⟨⟨#[]⟩, ⟨#[]⟩, ⟨#[]⟩, readN z.data.toList, [], []⟩) ?_ rfl ?_
    · simp [results, Try.results39, go_sem, msgV]
    · refine ⟨by rw [HM.out], ?_⟩
      exact bnew w _
  · have h : (a.toList == ansL) = false := by simpa using h
    have HM : Hid (startM a z = ⟨a, readU z, readH z, 0, [], []⟩) := Lib.hid (by unfold startM; rw [if_neg (by rw [h]; simp)])
    unfold ansL at h
    go_enter Try.func39, Try.ntmps39
    have BR0 := Lib.hid (Holds.new w 29 #[.string ⟨#[]⟩, .string ⟨#[]⟩, .string ⟨#[]⟩, .int .i64 0, .slice none 0 0, .slice none 0 0])
    have HB0 := Lib.hid (bnew w (.cells #[.string ⟨#[]⟩, .string ⟨#[]⟩, .string ⟨#[]⟩, .int .i64 0, .slice none 0 0, .slice none 0 0] 29))
    go_wp2_with fail
    refine (ira_any _ _ HZ.out).mono ?_
    rintro e w1 ⟨rfl, hb1⟩
    have BR1 := Lib.hid ((BR0.out.call hb1).alloc (.cells #[.string (readU z), .string (readH z)] 26))
    have hb2 := btrans HB0.out hb1
    have HB1 := Lib.hid (hb2.alloc hb2.size (.cells #[.string (readU z), .string (readH z)] 26))
    clear hb1 hb2
    obtain ⟨r0, r1, r2, r3, r4, r5⟩ := six_cells BR1.out
    obtain ⟨k0, k1, k2, k3, k4, k5⟩ := six_free BR1.out
    go_wp2
    have hq := six_put BR1.out (.string a) (.string (readU z)) (.string (readH z)) (.int .i64 0) (.slice none 0 0) (.slice none 0 0)
    refine bodyPost_ret (v := msgV ⟨a, readU z, readH z, 0, [], []⟩) ?_ rfl ?_
    · simp [results, Try.results39, go_sem, msgV, hq.1, hq.2.1, hq.2.2.1, hq.2.2.2.1, hq.2.2.2.2.1, hq.2.2.2.2.2]
    · refine ⟨by rw [HM.out], ?_⟩
      repeat (refine Below.setCell ?_ (by simp) _)
      exact HB1.out

/-- What the first line of a message says. -/
def rsB (s : ByteArray) : Bool := decide (spL s.data.toList < s.size) && startB (startM (wordA s) (wordZ s))
def rsM (s : ByteArray) : MsgM := if rsB s = true then startM (wordA s) (wordZ s) else zeroM
theorem startM_max (a z : ByteArray) (ha : a.size ≤ maxLen) (hz : z.size ≤ maxLen) : (startM a z).x0.size ≤ maxLen ∧ (startM a z).x1.size ≤ maxLen ∧ (startM a z).x2.size ≤ maxLen := by
  unfold startM
  split
  · exact ⟨Nat.zero_le _, Nat.zero_le _, Nat.zero_le _⟩
  · exact ⟨ha, (readU_max z hz).1, (readU_max z hz).2⟩
theorem startM_nil (a z : ByteArray) : (startM a z).h = [] ∧ (startM a z).b = [] := by
  unfold startM
  split
  · exact ⟨rfl, rfl⟩
  · exact ⟨rfl, rfl⟩
set_option maxHeartbeats 1000000 in
theorem irs_any (s : ByteArray) (v : Bool) (w : World) (hs : s.size ≤ 1048576) (hv : v = rsB s) :
    Calls Try.prog 18 #[.string s] w fun e w' => e = .returned (.tuple #[msgV (rsM s), .bool v]) ∧ Below w.heap.size w w' := by
  have HS : Hid (s.size ≤ maxLen) := Lib.hid (by unfold maxLen; omega)
  have HV := Lib.hid hv
  have BR0 := Lib.hid (Holds.new w 29 #[.string ⟨#[]⟩, .string ⟨#[]⟩, .string ⟨#[]⟩, .int .i64 0, .slice none 0 0, .slice none 0 0])
  have HB0 := Lib.hid (bnew w (.cells #[.string ⟨#[]⟩, .string ⟨#[]⟩, .string ⟨#[]⟩, .int .i64 0, .slice none 0 0, .slice none 0 0] 29))
  clear hv
  by_cases h1 : spL s.data.toList < s.size
  · obtain ⟨k, hk⟩ : ∃ k, spL s.data.toList = k := ⟨_, rfl⟩
    have HK := Lib.hid hk
    have h1' : k < s.size := by omega
    have hx0 : s.extract 0 k = wordA s := by unfold wordA; rw [hk]
    have hx1 : s.extract (k + 1) s.size = wordZ s := by unfold wordZ; rw [hk]
    have HX0 := Lib.hid hx0
    have HX1 := Lib.hid hx1
    have hz0 : (wordZ s).size ≤ maxLen := by unfold wordZ maxLen; simp; omega
    have hz1 : (wordA s).size ≤ maxLen := by unfold wordA maxLen; simp; omega
    have HZ := Lib.hid hz0
    have wj : IntKind.i64.wrap ((k : Int) + 1) = (k : Int) + 1 := IntWalk.i64_in _ (by omega)
    have tj : ((k : Int) + 1).toNat = k + 1 := by omega
    have hq : ¬ (k : Int) < 0 := by omega
    have b3 : (0 : Int) ≤ (k : Int) + 1 := by omega
    have b4 : (k : Int) + 1 ≤ (s.size : Int) := by omega
    have b5 : (0 : Int) ≤ (k : Int) := by omega
    have b6 : (k : Int) ≤ (s.size : Int) := by omega
    obtain ⟨p, hp⟩ : ∃ p, startM (wordA s) (wordZ s) = p := ⟨_, rfl⟩
    have hmx := startM_max _ _ hz1 hz0
    have hnl := startM_nil (wordA s) (wordZ s)
    rw [hp] at hmx hnl
    have hvp : v = startB p := by rw [HV.out]; unfold rsB; rw [decide_eq_true h1, hp]; rfl
    have hcs : ∀ W : World, Calls Try.prog 39 #[.string (wordA s), .string (wordZ s)] W fun e w' => e = .returned (.agg #[.string p.x0, .string p.x1, .string p.x2, .int .i64 p.x3, .slice none 0 0, .slice none 0 0]) ∧ Below W.heap.size W w' := fun W => by
      have := iso_any (wordA s) (wordZ s) W hz0
      rw [hp] at this; exact this
    have hcv : ∀ W : World, Calls Try.prog 29 #[.agg #[.string p.x0, .string p.x1, .string p.x2, .int .i64 p.x3, .slice none 0 0, .slice none 0 0]] W fun e w' => e = .returned (.bool v) ∧ Below W.heap.size W w' := fun W => by
      rw [hvp]
      exact isv_any p.x0 p.x1 p.x2 p.x3 _ _ p.h p.b W hmx.1 hmx.2.1 hmx.2.2
    have HCS := Lib.hid hcs
    have HCV := Lib.hid hcv
    have HRS : Hid (rsM s = if v = true then p else zeroM) := Lib.hid (by unfold rsM; rw [← HV.out, hp])
    clear hx0 hx1 hcs hcv hmx hnl hvp hp hk h1 hz0 hz1
    go_enter Try.func18, Try.ntmps18
    go_wp2_with fail
    refine (isp_yes _ _ _ HS.out HK.out h1').mono ?_
    rintro e w' ⟨rfl, rfl⟩
    go_wp2
    go_region_law (first | (go_simp; go_at_call 39; rw [HX0.out, HX1.out]; refine (HCS.out _).mono ?_; rintro e w1 ⟨rfl, hb1⟩; (first | (have BM1 : Hid (Holds w1 (w.heap.size + 1) 29 #[.string ⟨#[]⟩, .string ⟨#[]⟩, .string ⟨#[]⟩, .int .i64 0, .slice none 0 0, .slice none 0 0]) := Lib.hid (Holds.call (by first | (refine Holds.new' _ _ _ ?_; simp; done) | (refine Holds.drew ?_; refine Holds.new' _ _ _ ?_; simp; done)) hb1); obtain ⟨q0, q1, q2, q3, q4, q5⟩ := six_cells BM1.out; obtain ⟨j0, j1, j2, j3, j4, j5⟩ := six_free BM1.out; have BR1 : Hid (Holds w1 w.heap.size 29 #[.string ⟨#[]⟩, .string ⟨#[]⟩, .string ⟨#[]⟩, .int .i64 0, .slice none 0 0, .slice none 0 0]) := Lib.hid (Holds.call (by first | exact BR0.out.alloc _ | exact (BR0.out.alloc _).drew) hb1); have HB1 : Hid (Below w.heap.size w w1) := Lib.hid (Below.trans (by first | exact (HB0.out.alloc HB0.out.size _) | exact bdrew (HB0.out.alloc HB0.out.size _)) (hb1.mono (by simp; omega)))) | (have BR1' : Hid (Holds w1 w.heap.size 29 #[.string ⟨#[]⟩, .string ⟨#[]⟩, .string ⟨#[]⟩, .int .i64 0, .slice none 0 0, .slice none 0 0]) := Lib.hid (Holds.call (by first | exact BR0.out | exact BR0.out.drew) hb1); have HB1' : Hid (Below w.heap.size w w1) := Lib.hid (Below.trans (by first | exact HB0.out | exact bdrew HB0.out) (hb1.mono (by simp)))))))
    all_goals
      first
        | (have BM2 := Lib.hid (six_set BM1.out (.string p.x0) (.string p.x1) (.string p.x2) (.int .i64 p.x3) (.slice none 0 0) (.slice none 0 0))
           have BR2 : Hid (Holds _ w.heap.size 29 #[.string ⟨#[]⟩, .string ⟨#[]⟩, .string ⟨#[]⟩, .int .i64 0, .slice none 0 0, .slice none 0 0]) := Lib.hid (Holds.far (p := ⟨w.heap.size + 1, 5, none⟩) (Holds.far (p := ⟨w.heap.size + 1, 4, none⟩) (Holds.far (p := ⟨w.heap.size + 1, 3, none⟩) (Holds.far (p := ⟨w.heap.size + 1, 2, none⟩) (Holds.far (p := ⟨w.heap.size + 1, 1, none⟩) (Holds.far (p := ⟨w.heap.size + 1, 0, none⟩) BR1.out (by simp) (.string p.x0)) (by simp) (.string p.x1)) (by simp) (.string p.x2)) (by simp) (.int .i64 p.x3)) (by simp) (.slice none 0 0)) (by simp) (.slice none 0 0))
           have HB2 : Hid (Below w.heap.size w ((((((w1.setCell ⟨w.heap.size + 1, 0, none⟩ (.string p.x0)).setCell ⟨w.heap.size + 1, 1, none⟩ (.string p.x1)).setCell ⟨w.heap.size + 1, 2, none⟩ (.string p.x2)).setCell ⟨w.heap.size + 1, 3, none⟩ (.int .i64 p.x3)).setCell ⟨w.heap.size + 1, 4, none⟩ (.slice none 0 0)).setCell ⟨w.heap.size + 1, 5, none⟩ (.slice none 0 0))) := Lib.hid (by
             repeat (refine Below.setCell ?_ (by simp) _)
             exact HB1.out)
           clear BM1 q0 q1 q2 q3 q4 q5 j0 j1 j2 j3 j4 j5)
        | (have BM2 := Lib.hid (Holds.new w1 29 #[.string p.x0, .string p.x1, .string p.x2, .int .i64 p.x3, .slice none 0 0, .slice none 0 0])
           have BR2 := Lib.hid (BR1'.out.alloc (.cells #[.string p.x0, .string p.x1, .string p.x2, .int .i64 p.x3, .slice none 0 0, .slice none 0 0] 29))
           have HB2 := Lib.hid (HB1'.out.alloc HB1'.out.size (.cells #[.string p.x0, .string p.x1, .string p.x2, .int .i64 p.x3, .slice none 0 0, .slice none 0 0] 29)))
      obtain ⟨q0, q1, q2, q3, q4, q5⟩ := six_cells BM2.out
      go_wp2_with fail
      refine (HCV.out _).mono ?_
      rintro e w3 ⟨rfl, hb3⟩
      have BM3 := Lib.hid (BM2.out.call hb3)
      have BR3 := Lib.hid (BR2.out.call hb3)
      have HB3 := Lib.hid (btrans HB2.out hb3)
      clear q0 q1 q2 q3 q4 q5 hb3
      obtain ⟨r0, r1, r2, r3, r4, r5⟩ := six_cells BR3.out
      obtain ⟨k0, k1, k2, k3, k4, k5⟩ := six_free BR3.out
      cases v
      · go_wp2
        have hq := six_put BR3.out (.string ⟨#[]⟩) (.string ⟨#[]⟩) (.string ⟨#[]⟩) (.int .i64 0) (.slice none 0 0) (.slice none 0 0)
        refine bodyPost_ret (v := .tuple #[msgV zeroM, .bool false]) ?_ rfl ?_
        · simp [results, Try.results18, go_sem, msgV, zeroM, hq.1, hq.2.1, hq.2.2.1, hq.2.2.2.1, hq.2.2.2.2.1, hq.2.2.2.2.2]
        · refine ⟨by rw [HRS.out]; rfl, ?_⟩
          repeat (refine Below.setCell ?_ (by simp) _)
          exact HB3.out
      · obtain ⟨q0, q1, q2, q3, q4, q5⟩ := six_cells BM3.out
        go_wp2
        have hq := six_put BR3.out (.string p.x0) (.string p.x1) (.string p.x2) (.int .i64 p.x3) (.slice none 0 0) (.slice none 0 0)
        refine bodyPost_ret (v := .tuple #[msgV p, .bool true]) ?_ rfl ?_
        · simp [results, Try.results18, go_sem, msgV, hq.1, hq.2.1, hq.2.2.1, hq.2.2.2.1, hq.2.2.2.2.1, hq.2.2.2.2.2]
        · refine ⟨by rw [HRS.out]; rfl, ?_⟩
          repeat (refine Below.setCell ?_ (by simp) _)
          exact HB3.out
  · have HK := Lib.hid h1
    have HF : Hid (v = false ∧ rsM s = zeroM) := Lib.hid (by
      have : rsB s = false := by unfold rsB; rw [decide_eq_false h1]; rfl
      exact ⟨by rw [HV.out, this], by unfold rsM; rw [this]; rfl⟩)
    clear h1
    go_enter Try.func18, Try.ntmps18
    go_wp2_with fail
    refine (isp_no _ _ HS.out HK.out).mono ?_
    rintro e w' ⟨rfl, rfl⟩
    go_wp2
    refine bodyPost_ret (v := .tuple #[msgV zeroM, .bool false]) ?_ rfl ?_
    · simp [results, Try.results18, go_sem, msgV, zeroM]
    · exact ⟨by rw [HF.out.1, HF.out.2], HB0.out⟩

theorem saidM_hb (s : ByteArray) (hs bs : List ByteArray) : (saidM s hs bs).h = readR hs ∧ (saidM s hs bs).b = bs := by
  unfold saidM
  split <;> exact ⟨rfl, rfl⟩
theorem startB_said (s : ByteArray) (hs bs : List ByteArray) : startB (saidM s hs bs) = startB (startM (wordA s) (wordZ s)) := by
  unfold saidM startM
  split <;> rfl
theorem said_is (s : ByteArray) (hs bs : List ByteArray) : saidB s hs bs = (rsB s && readB hs && bodyB bs) := by
  have h0 : msgB (saidM s hs bs) = (startB (startM (wordA s) (wordZ s)) && headsB (readR hs) && bodyB bs) := by
    rw [msgB_is, startB_said, (saidM_hb s hs bs).1, (saidM_hb s hs bs).2]
  unfold saidB rsB
  rw [h0]
  by_cases h1 : readB hs = true
  · rw [h1, headsB_read h1]
    by_cases ha : ((wordA s).toList == ansL) = true
    · rw [ha]; simp [Bool.and_assoc]
    · have ha' : ((wordA s).toList == ansL) = false := by simpa using ha
      rw [ha']
      by_cases h2 : addrB (wordZ s).data.toList = true
      · rw [h2]; simp [Bool.and_assoc]
      · have h2' : addrB (wordZ s).data.toList = false := by simpa using h2
        have h3 : startB (startM (wordA s) (wordZ s)) = false := by
          unfold startM
          rw [if_neg ha]
          unfold startB reqB ansB readU readH
          rw [if_neg h2, if_neg h2]
          simp [wordB_nil]
        rw [h2', h3]; simp
  · have h1' : readB hs = false := by simpa using h1
    rw [h1']; simp

set_option maxHeartbeats 10000000 in
theorem irm_any (A : Option Addr) (n c : Nat) (ls : List ByteArray) (w : World) (hn : n = ls.length) (hc : n ≤ 1048576) (hcap : n ≤ c) (hr : Sees w w.heap.size 1 A n (flat strC ls)) (hm : ∀ s ∈ ls, s.size ≤ 1048576) (r : MsgM) (v : Bool) (hrr : r = rmM ls) (hv : v = rmB ls) :
    Calls Try.prog 5 #[.slice A n c] w (MsgRes w r v) := by
  have HR := Lib.hid hr
  have HN := Lib.hid hn
  have HM := Lib.hid hm
  have HRR := Lib.hid hrr
  have HV := Lib.hid hv
  have BR0 := Lib.hid (Holds.new w 29 #[.string ⟨#[]⟩, .string ⟨#[]⟩, .string ⟨#[]⟩, .int .i64 0, .slice none 0 0, .slice none 0 0])
  have HB0 := Lib.hid (bnew w (.cells #[.string ⟨#[]⟩, .string ⟨#[]⟩, .string ⟨#[]⟩, .int .i64 0, .slice none 0 0, .slice none 0 0] 29))
  have hno : ∀ w' : World, Below w.heap.size w w' → rmB ls = false → MsgRes w r v (.returned (.tuple #[.agg #[.string ⟨#[]⟩, .string ⟨#[]⟩, .string ⟨#[]⟩, .int .i64 0, .slice none 0 0, .slice none 0 0], .bool false])) w' := by
    intro w' hb hf
    have h1 := HRR.out
    unfold rmM at h1
    rw [hf, if_neg (by simp)] at h1
    have h2 := HV.out
    rw [hf] at h2
    subst h1; subst h2
    exact MsgRes.zero hb
  have HNO := Lib.hid hno
  have hfe : ∀ (W : World) (e : Int), e = emZ ls → Sees W W.heap.size 1 A n (flat strC ls) → Calls Try.prog 17 #[.slice A n c] W fun x w' => x = .returned (.int .i64 e) ∧ W = w' := fun W e he h => by rw [he]; exact ife_any A n c ls W HN.out (by unfold maxLen; omega) h
  have HFE := Lib.hid hfe
  clear hr hn hm hrr hv hno hfe
  go_enter Try.func5, Try.ntmps5
  by_cases h0 : 0 < emI ls ∧ emI ls < ls.length
  · obtain ⟨k, hk⟩ : ∃ k, emI ls = k := ⟨_, rfl⟩
    have HK := Lib.hid hk
    have hk0 : 0 < k := by omega
    have hkn : k < n := by have := HN.out; omega
    have HE : Hid ((k : Int) = emZ ls) := Lib.hid (by unfold emZ; rw [if_pos h0.2, hk])
    clear h0 hk
    go_wp2_with fail
    refine (HFE.out _ (k : Int) HE.out ((HR.out.alloc (Nat.le_refl _) _).more (by simp))).mono ?_
    rintro e w' ⟨rfl, rfl⟩
    obtain ⟨b, off, rfl, hb, hcell⟩ := (HR.out.alloc (Nat.le_refl _) (.cells #[.string ⟨#[]⟩, .string ⟨#[]⟩, .string ⟨#[]⟩, .int .i64 0, .slice none 0 0, .slice none 0 0] 29)).2 (by omega)
    obtain ⟨s0, hp0⟩ := get_of HN.out (show 0 < n by omega)
    have HP0 := Lib.hid hp0
    have d0 := str_cell hcell hp0
    rw [Nat.add_zero] at d0
    have hn0 : (0 : Int) < (n : Int) := by omega
    have hk1 : (1 : Int) ≤ (k : Int) := by omega
    have hk2 : ¬ (k : Int) < 1 := by omega
    have hk3 : (k : Int) ≤ (c : Int) := by omega
    obtain ⟨p, hp⟩ : ∃ p, rsM s0 = p := ⟨_, rfl⟩
    obtain ⟨vs, hvs⟩ : ∃ vs, vs = rsB s0 := ⟨_, rfl⟩
    have hcs : ∀ W : World, Calls Try.prog 18 #[.string s0] W fun e w' => e = .returned (.tuple #[.agg #[.string p.x0, .string p.x1, .string p.x2, .int .i64 p.x3, .slice none 0 0, .slice none 0 0], .bool vs]) ∧ Below W.heap.size W w' := fun W => by
      have := irs_any s0 vs W (HM.out s0 (List.mem_of_getElem? HP0.out)) hvs
      rw [hp] at this; exact this
    have HP := Lib.hid hp
    have HVS := Lib.hid hvs
    have HCS := Lib.hid hcs
    have hsl : Sees w w.heap.size 1 (some ⟨b, off + 1, none⟩) (k - 1) (flat strC ((ls.take k).drop 1)) := by
      have := (HR.out.upto (k := k) (by omega)).cut (k := 1) (by omega)
      rw [← flat_take strC_len, Nat.mul_one] at this
      have e := flat_drop strC_len (ls.take k) 1
      rw [Nat.mul_one] at e
      rw [e]; exact this
    obtain ⟨hl, hhl⟩ : ∃ hl, hl = (ls.take k).drop 1 := ⟨_, rfl⟩
    rw [← hhl] at hsl
    have HHL := Lib.hid hhl
    have hlm : ∀ x ∈ hl, x.size ≤ 1048576 := fun x hx => HM.out x (List.mem_of_mem_take (List.mem_of_mem_drop (by rw [← hhl]; exact hx)))
    have hll : k - 1 = hl.length := by rw [hhl, List.length_drop, List.length_take, ← HN.out]; omega
    have HLM := Lib.hid hlm
    have HLL := Lib.hid hll
    have HSL := Lib.hid hsl
    obtain ⟨rh, hrh⟩ : ∃ rh, rh = readR hl := ⟨_, rfl⟩
    obtain ⟨vh, hvh⟩ : ∃ vh, vh = readB hl := ⟨_, rfl⟩
    have HRH := Lib.hid hrh
    have HVH := Lib.hid hvh
    obtain ⟨bs, hbs⟩ : ∃ bs, bs = ls.drop (k + 1) := ⟨_, rfl⟩
    have HBL : Hid (n - (k + 1) = bs.length) := Lib.hid (by rw [hbs, List.length_drop, ← HN.out])
    have HBM : Hid (∀ s ∈ bs, s.size ≤ maxLen) := Lib.hid (by intro x hx; rw [hbs] at hx; have := HM.out x (List.mem_of_mem_drop hx); unfold maxLen; omega)
    have hsb : Sees w w.heap.size 1 (some ⟨b, off + (k + 1), none⟩) (n - (k + 1)) (flat strC bs) := by
      have := HR.out.cut (k := k + 1) (by omega)
      have e := flat_drop strC_len ls (k + 1)
      rw [Nat.mul_one] at e this
      rw [hbs, e]; exact this
    have HSB := Lib.hid hsb
    have hs0 : ls.headD ⟨#[]⟩ = s0 := by
      have := HP0.out
      cases ls with
      | nil => simp at this
      | cons x y => simpa using this
    obtain ⟨vb, hvb⟩ : ∃ vb, vb = bodyB bs := ⟨_, rfl⟩
    have HVB := Lib.hid hvb
    have HRB : Hid (rmB ls = (vs && vh && vb)) := Lib.hid (by
      unfold rmB
      rw [HK.out, ← HHL.out, ← hbs, hs0, decide_eq_true (p := 0 < k) hk0, decide_eq_true (p := k < ls.length) (by rw [← HN.out]; exact hkn), said_is, ← hvs, ← hvh, ← hvb]
      rfl)
    have HRM : Hid (vs = true → rmB ls = true → rmM ls = ⟨p.x0, p.x1, p.x2, p.x3, rh, bs⟩) := Lib.hid (by
      intro h1 h2
      unfold rmM
      rw [if_pos h2, HK.out, ← HHL.out, ← hbs, hs0, hrh, ← hp]
      unfold rsM
      rw [if_pos (by rw [← hvs]; exact h1)]
      unfold saidM startM
      split <;> rfl)
    have HBV : Hid (∀ (W : World) (A' : Option Addr) (c' : Nat), Sees W W.heap.size 1 A' (n - (k + 1)) (flat strC bs) → Calls Try.prog 20 #[.slice A' (n - (k + 1)) c'] W fun e w' => e = .returned (.bool vb) ∧ W = w') := Lib.hid (fun W A' c' h => by
      rw [hvb]; exact ibv_any A' _ c' bs W HBL.out (by unfold maxLen; omega) HBM.out h)
    clear hhl hlm hll hsl hrh hvh hp hvs hcs hbs hsb hs0 hvb hb hcell hp0
    go_wp2_with fail
    refine (HCS.out _).mono ?_
    rintro e w1 ⟨rfl, hb1⟩
    have BR1 := Lib.hid ((BR0.out.call hb1).alloc (.cells #[.string p.x0, .string p.x1, .string p.x2, .int .i64 p.x3, .slice none 0 0, .slice none 0 0] 29))
    have hb1' := btrans HB0.out hb1
    have BM1 := Lib.hid (Holds.new w1 29 #[.string p.x0, .string p.x1, .string p.x2, .int .i64 p.x3, .slice none 0 0, .slice none 0 0])
    have HB1 := Lib.hid (hb1'.alloc hb1'.size (.cells #[.string p.x0, .string p.x1, .string p.x2, .int .i64 p.x3, .slice none 0 0, .slice none 0 0] 29))
    have hy0 := hb1.size
    simp at hy0
    clear hb1 hb1' d0
    go_wp2_with fail
    refine (ird_any _ (k - 1) (c - 1) hl _ HLL.out (by unfold maxLen; omega) ((HSL.out.below HB1.out (Nat.le_refl _)).more HB1.out.size) HLM.out rh vh HRH.out HVH.out).mono ?_
    rintro e w2 ⟨Ah, ch, rfl, hown2, hb2⟩
    have BR2 := Lib.hid (BR1.out.call hb2)
    have BM2 := Lib.hid (BM1.out.call hb2)
    have HB2 := Lib.hid (btrans HB1.out hb2)
    have hy2 := hb2.size
    simp at hy2
    have HH2 := Lib.hid (own_more (base' := w1.heap.size + 1) hown2 (by simp))
    clear hb2 hown2
    have hkw : IntKind.i64.wrap ((k : Int) + 1) = (k : Int) + 1 := IntWalk.i64_in _ (by omega)
    have hkt : ((k : Int) + 1).toNat = k + 1 := by omega
    have hkl : (k : Int) + 1 ≤ (n : Int) := by omega
    have hk0' : (0 : Int) ≤ (k : Int) + 1 := by omega
    rcases Nat.lt_or_ge (k + 1) c with hck | hck
    · have SB := Lib.hid HSB.out
      cases vs
      · have HF : Hid (rmB ls = false) := Lib.hid (by rw [HRB.out]; simp)
        obtain ⟨r0, r1, r2, r3, r4, r5⟩ := six_cells BR2.out
        obtain ⟨k0, k1, k2, k3, k4, k5⟩ := six_free BR2.out
        go_wp2
        have hq := six_put BR2.out (.string ⟨#[]⟩) (.string ⟨#[]⟩) (.string ⟨#[]⟩) (.int .i64 0) (.slice none 0 0) (.slice none 0 0)
        refine bodyPost_ret (v := .tuple #[.agg #[.string ⟨#[]⟩, .string ⟨#[]⟩, .string ⟨#[]⟩, .int .i64 0, .slice none 0 0, .slice none 0 0], .bool false]) ?_ rfl ?_
        · simp [results, Try.results5, go_sem, hq.1, hq.2.1, hq.2.2.1, hq.2.2.2.1, hq.2.2.2.2.1, hq.2.2.2.2.2]
        · refine HNO.out _ ?_ HF.out
          repeat (refine Below.setCell ?_ (by simp) _)
          exact HB2.out
      cases vh
      · have HF : Hid (rmB ls = false) := Lib.hid (by rw [HRB.out]; simp)
        obtain ⟨r0, r1, r2, r3, r4, r5⟩ := six_cells BR2.out
        obtain ⟨k0, k1, k2, k3, k4, k5⟩ := six_free BR2.out
        go_wp2
        have hq := six_put BR2.out (.string ⟨#[]⟩) (.string ⟨#[]⟩) (.string ⟨#[]⟩) (.int .i64 0) (.slice none 0 0) (.slice none 0 0)
        refine bodyPost_ret (v := .tuple #[.agg #[.string ⟨#[]⟩, .string ⟨#[]⟩, .string ⟨#[]⟩, .int .i64 0, .slice none 0 0, .slice none 0 0], .bool false]) ?_ rfl ?_
        · simp [results, Try.results5, go_sem, hq.1, hq.2.1, hq.2.2.1, hq.2.2.2.1, hq.2.2.2.2.1, hq.2.2.2.2.2]
        · refine HNO.out _ ?_ HF.out
          repeat (refine Below.setCell ?_ (by simp) _)
          exact HB2.out
      go_wp2_with fail
      refine (HBV.out _ _ _ ((SB.out.below HB2.out (Nat.le_refl _)).more HB2.out.size)).mono ?_
      rintro e w' ⟨rfl, rfl⟩
      cases vb
      · have HF : Hid (rmB ls = false) := Lib.hid (by rw [HRB.out]; simp)
        obtain ⟨r0, r1, r2, r3, r4, r5⟩ := six_cells BR2.out
        obtain ⟨k0, k1, k2, k3, k4, k5⟩ := six_free BR2.out
        go_wp2
        have hq := six_put BR2.out (.string ⟨#[]⟩) (.string ⟨#[]⟩) (.string ⟨#[]⟩) (.int .i64 0) (.slice none 0 0) (.slice none 0 0)
        refine bodyPost_ret (v := .tuple #[.agg #[.string ⟨#[]⟩, .string ⟨#[]⟩, .string ⟨#[]⟩, .int .i64 0, .slice none 0 0, .slice none 0 0], .bool false]) ?_ rfl ?_
        · simp [results, Try.results5, go_sem, hq.1, hq.2.1, hq.2.2.1, hq.2.2.2.1, hq.2.2.2.2.1, hq.2.2.2.2.2]
        · refine HNO.out _ ?_ HF.out
          repeat (refine Below.setCell ?_ (by simp) _)
          exact HB2.out
      have HT : Hid (rmB ls = true) := Lib.hid (by rw [HRB.out]; rfl)
      have m4 := BM2.out.cell 4 _ rfl
      have f4 := BM2.out.free 4
      have BM3 : Hid (Holds (w2.setCell ⟨w1.heap.size, 4, none⟩ (.slice Ah rh.length ch)) w1.heap.size 29 #[.string p.x0, .string p.x1, .string p.x2, .int .i64 p.x3, .slice Ah rh.length ch, .slice none 0 0]) := Lib.hid (BM2.out.set 4 _)
      have BR3 := Lib.hid (BR2.out.far (p := ⟨w1.heap.size, 4, none⟩) (by simp; omega) (.slice Ah rh.length ch))
      have HB3 := Lib.hid (HB2.out.setCell (p := ⟨w1.heap.size, 4, none⟩) (by simp; omega) (.slice Ah rh.length ch))
      have HHLT : Hid (∀ j, (Value.slice Ah rh.length ch).ownBlock = some j → w1.heap.size < j ∧ j < w2.heap.size) := Lib.hid (fun j hj => ⟨by have := (HH2.out.lt j hj).1; omega, (HH2.out.lt j hj).2⟩)
      have HH3 := Lib.hid (own_far HH2.out (p := ⟨w1.heap.size, 4, none⟩) (fun j hj => by have h0 := HHLT.out j hj; simp; omega) (.slice Ah rh.length ch))
      go_wp2_with fail
      refine (icl_any _ _ _ bs _ HBL.out (by omega) ((SB.out.below HB3.out (Nat.le_refl _)).more HB3.out.size)).mono ?_
      rintro e w4 ⟨Ab, cb, rfl, hown4, hb4⟩
      have BM4 := Lib.hid (BM3.out.call hb4)
      have BR4 := Lib.hid (BR3.out.call hb4)
      have HB4 := Lib.hid (btrans HB3.out hb4)
      have HH4 := Lib.hid (own_call HH3.out hb4)
      have HO4 := Lib.hid hown4
      have hy4 := hb4.size
      simp at hy4
      have HOLT : Hid (∀ j, (Value.slice Ab (n - (k + 1)) cb).ownBlock = some j → w2.heap.size ≤ j) := Lib.hid (fun j hj => by have := (HO4.out.lt j hj).1; simpa using this)
      clear hb4 hown4 m4 f4
      have m5 := BM4.out.cell 5 _ rfl
      have f5 := BM4.out.free 5
      have BM5 : Hid (Holds (w4.setCell ⟨w1.heap.size, 5, none⟩ (.slice Ab (n - (k + 1)) cb)) w1.heap.size 29 #[.string p.x0, .string p.x1, .string p.x2, .int .i64 p.x3, .slice Ah rh.length ch, .slice Ab (n - (k + 1)) cb]) := Lib.hid (BM4.out.set 5 _)
      have BR5 := Lib.hid (BR4.out.far (p := ⟨w1.heap.size, 5, none⟩) (by simp; omega) (.slice Ab (n - (k + 1)) cb))
      have HB5 := Lib.hid (HB4.out.setCell (p := ⟨w1.heap.size, 5, none⟩) (by simp; omega) (.slice Ab (n - (k + 1)) cb))
      have HH5 := Lib.hid (own_far HH4.out (p := ⟨w1.heap.size, 5, none⟩) (fun j hj => by have h0 := HHLT.out j hj; simp; omega) (.slice Ab (n - (k + 1)) cb))
      have HO5 := Lib.hid (own_far HO4.out (p := ⟨w1.heap.size, 5, none⟩) (fun j hj => by have h0 := HOLT.out j hj; simp; omega) (.slice Ab (n - (k + 1)) cb))
      obtain ⟨q0, q1, q2, q3, q4, q5⟩ := six_cells BM5.out
      obtain ⟨r0, r1, r2, r3, r4, r5⟩ := six_cells BR5.out
      obtain ⟨k0, k1, k2, k3, k4, k5⟩ := six_free BR5.out
      go_wp2
      have hq := six_put BR5.out (.string p.x0) (.string p.x1) (.string p.x2) (.int .i64 p.x3) (.slice Ah rh.length ch) (.slice Ab (n - (k + 1)) cb)
      refine bodyPost_ret (v := .tuple #[.agg #[.string p.x0, .string p.x1, .string p.x2, .int .i64 p.x3, .slice Ah rh.length ch, .slice Ab (n - (k + 1)) cb], .bool true]) ?_ rfl ?_
      · simp [results, Try.results5, go_sem, hq.1, hq.2.1, hq.2.2.1, hq.2.2.2.1, hq.2.2.2.2.1, hq.2.2.2.2.2]
      · obtain rfl : r = ⟨p.x0, p.x1, p.x2, p.x3, rh, bs⟩ := by rw [HRR.out]; exact HRM.out (by first | rfl | trivial) HT.out
        obtain rfl : v = true := by rw [HV.out, HT.out]
        refine ⟨Ah, ch, Ab, cb, by rw [← HBL.out], ?_, ?_, ?_, ?_⟩
        · show World.ownsRow _ w.heap.size 68 2 (.slice Ah rh.length ch) rh.length (flat headC rh)
          iterate 6 (refine own_far ?_ (fun k hk => by have := HHLT.out k hk; simp; omega) _)
          exact own_more HH5.out (by omega)
        · show World.ownsRow _ w.heap.size 9 1 (.slice Ab bs.length cb) bs.length (flat strC bs)
          rw [← HBL.out]
          iterate 6 (refine own_far ?_ (fun k hk => by have := HOLT.out k hk; simp; omega) _)
          exact own_more HO5.out (by simp; omega)
        · intro j h1 h2
          have h3 := HHLT.out j h1
          have h4 : (Value.slice Ab (n - (k + 1)) cb).ownBlock = some j := by rw [HBL.out]; exact h2
          have h5 := HOLT.out j h4
          omega
        · iterate 6 (refine Below.setCell ?_ (by simp) _)
          exact HB5.out
    · have hck : c = k + 1 := by omega
      have hn0 : n - (k + 1) = 0 := by omega
      have SB : Hid (Sees w w.heap.size 1 (some ⟨b, off, none⟩) (n - (k + 1)) (flat strC bs)) := Lib.hid (by
        have HBS0 : bs = [] := List.eq_nil_of_length_eq_zero (by rw [← HBL.out, hn0])
        rw [hn0, HBS0]
        exact ⟨rfl, fun h => absurd h (by omega)⟩)
      clear hn0
      cases vs
      · have HF : Hid (rmB ls = false) := Lib.hid (by rw [HRB.out]; simp)
        obtain ⟨r0, r1, r2, r3, r4, r5⟩ := six_cells BR2.out
        obtain ⟨k0, k1, k2, k3, k4, k5⟩ := six_free BR2.out
        go_wp2
        have hq := six_put BR2.out (.string ⟨#[]⟩) (.string ⟨#[]⟩) (.string ⟨#[]⟩) (.int .i64 0) (.slice none 0 0) (.slice none 0 0)
        refine bodyPost_ret (v := .tuple #[.agg #[.string ⟨#[]⟩, .string ⟨#[]⟩, .string ⟨#[]⟩, .int .i64 0, .slice none 0 0, .slice none 0 0], .bool false]) ?_ rfl ?_
        · simp [results, Try.results5, go_sem, hq.1, hq.2.1, hq.2.2.1, hq.2.2.2.1, hq.2.2.2.2.1, hq.2.2.2.2.2]
        · refine HNO.out _ ?_ HF.out
          repeat (refine Below.setCell ?_ (by simp) _)
          exact HB2.out
      cases vh
      · have HF : Hid (rmB ls = false) := Lib.hid (by rw [HRB.out]; simp)
        obtain ⟨r0, r1, r2, r3, r4, r5⟩ := six_cells BR2.out
        obtain ⟨k0, k1, k2, k3, k4, k5⟩ := six_free BR2.out
        go_wp2
        have hq := six_put BR2.out (.string ⟨#[]⟩) (.string ⟨#[]⟩) (.string ⟨#[]⟩) (.int .i64 0) (.slice none 0 0) (.slice none 0 0)
        refine bodyPost_ret (v := .tuple #[.agg #[.string ⟨#[]⟩, .string ⟨#[]⟩, .string ⟨#[]⟩, .int .i64 0, .slice none 0 0, .slice none 0 0], .bool false]) ?_ rfl ?_
        · simp [results, Try.results5, go_sem, hq.1, hq.2.1, hq.2.2.1, hq.2.2.2.1, hq.2.2.2.2.1, hq.2.2.2.2.2]
        · refine HNO.out _ ?_ HF.out
          repeat (refine Below.setCell ?_ (by simp) _)
          exact HB2.out
      go_wp2_with fail
      refine (HBV.out _ _ _ ((SB.out.below HB2.out (Nat.le_refl _)).more HB2.out.size)).mono ?_
      rintro e w' ⟨rfl, rfl⟩
      cases vb
      · have HF : Hid (rmB ls = false) := Lib.hid (by rw [HRB.out]; simp)
        obtain ⟨r0, r1, r2, r3, r4, r5⟩ := six_cells BR2.out
        obtain ⟨k0, k1, k2, k3, k4, k5⟩ := six_free BR2.out
        go_wp2
        have hq := six_put BR2.out (.string ⟨#[]⟩) (.string ⟨#[]⟩) (.string ⟨#[]⟩) (.int .i64 0) (.slice none 0 0) (.slice none 0 0)
        refine bodyPost_ret (v := .tuple #[.agg #[.string ⟨#[]⟩, .string ⟨#[]⟩, .string ⟨#[]⟩, .int .i64 0, .slice none 0 0, .slice none 0 0], .bool false]) ?_ rfl ?_
        · simp [results, Try.results5, go_sem, hq.1, hq.2.1, hq.2.2.1, hq.2.2.2.1, hq.2.2.2.2.1, hq.2.2.2.2.2]
        · refine HNO.out _ ?_ HF.out
          repeat (refine Below.setCell ?_ (by simp) _)
          exact HB2.out
      have HT : Hid (rmB ls = true) := Lib.hid (by rw [HRB.out]; rfl)
      have m4 := BM2.out.cell 4 _ rfl
      have f4 := BM2.out.free 4
      have BM3 : Hid (Holds (w2.setCell ⟨w1.heap.size, 4, none⟩ (.slice Ah rh.length ch)) w1.heap.size 29 #[.string p.x0, .string p.x1, .string p.x2, .int .i64 p.x3, .slice Ah rh.length ch, .slice none 0 0]) := Lib.hid (BM2.out.set 4 _)
      have BR3 := Lib.hid (BR2.out.far (p := ⟨w1.heap.size, 4, none⟩) (by simp; omega) (.slice Ah rh.length ch))
      have HB3 := Lib.hid (HB2.out.setCell (p := ⟨w1.heap.size, 4, none⟩) (by simp; omega) (.slice Ah rh.length ch))
      have HHLT : Hid (∀ j, (Value.slice Ah rh.length ch).ownBlock = some j → w1.heap.size < j ∧ j < w2.heap.size) := Lib.hid (fun j hj => ⟨by have := (HH2.out.lt j hj).1; omega, (HH2.out.lt j hj).2⟩)
      have HH3 := Lib.hid (own_far HH2.out (p := ⟨w1.heap.size, 4, none⟩) (fun j hj => by have h0 := HHLT.out j hj; simp; omega) (.slice Ah rh.length ch))
      go_wp2_with fail
      refine (icl_any _ _ _ bs _ HBL.out (by omega) ((SB.out.below HB3.out (Nat.le_refl _)).more HB3.out.size)).mono ?_
      rintro e w4 ⟨Ab, cb, rfl, hown4, hb4⟩
      have BM4 := Lib.hid (BM3.out.call hb4)
      have BR4 := Lib.hid (BR3.out.call hb4)
      have HB4 := Lib.hid (btrans HB3.out hb4)
      have HH4 := Lib.hid (own_call HH3.out hb4)
      have HO4 := Lib.hid hown4
      have hy4 := hb4.size
      simp at hy4
      have HOLT : Hid (∀ j, (Value.slice Ab (n - (k + 1)) cb).ownBlock = some j → w2.heap.size ≤ j) := Lib.hid (fun j hj => by have := (HO4.out.lt j hj).1; simpa using this)
      clear hb4 hown4 m4 f4
      have m5 := BM4.out.cell 5 _ rfl
      have f5 := BM4.out.free 5
      have BM5 : Hid (Holds (w4.setCell ⟨w1.heap.size, 5, none⟩ (.slice Ab (n - (k + 1)) cb)) w1.heap.size 29 #[.string p.x0, .string p.x1, .string p.x2, .int .i64 p.x3, .slice Ah rh.length ch, .slice Ab (n - (k + 1)) cb]) := Lib.hid (BM4.out.set 5 _)
      have BR5 := Lib.hid (BR4.out.far (p := ⟨w1.heap.size, 5, none⟩) (by simp; omega) (.slice Ab (n - (k + 1)) cb))
      have HB5 := Lib.hid (HB4.out.setCell (p := ⟨w1.heap.size, 5, none⟩) (by simp; omega) (.slice Ab (n - (k + 1)) cb))
      have HH5 := Lib.hid (own_far HH4.out (p := ⟨w1.heap.size, 5, none⟩) (fun j hj => by have h0 := HHLT.out j hj; simp; omega) (.slice Ab (n - (k + 1)) cb))
      have HO5 := Lib.hid (own_far HO4.out (p := ⟨w1.heap.size, 5, none⟩) (fun j hj => by have h0 := HOLT.out j hj; simp; omega) (.slice Ab (n - (k + 1)) cb))
      obtain ⟨q0, q1, q2, q3, q4, q5⟩ := six_cells BM5.out
      obtain ⟨r0, r1, r2, r3, r4, r5⟩ := six_cells BR5.out
      obtain ⟨k0, k1, k2, k3, k4, k5⟩ := six_free BR5.out
      go_wp2
      have hq := six_put BR5.out (.string p.x0) (.string p.x1) (.string p.x2) (.int .i64 p.x3) (.slice Ah rh.length ch) (.slice Ab (n - (k + 1)) cb)
      refine bodyPost_ret (v := .tuple #[.agg #[.string p.x0, .string p.x1, .string p.x2, .int .i64 p.x3, .slice Ah rh.length ch, .slice Ab (n - (k + 1)) cb], .bool true]) ?_ rfl ?_
      · simp [results, Try.results5, go_sem, hq.1, hq.2.1, hq.2.2.1, hq.2.2.2.1, hq.2.2.2.2.1, hq.2.2.2.2.2]
      · obtain rfl : r = ⟨p.x0, p.x1, p.x2, p.x3, rh, bs⟩ := by rw [HRR.out]; exact HRM.out (by first | rfl | trivial) HT.out
        obtain rfl : v = true := by rw [HV.out, HT.out]
        refine ⟨Ah, ch, Ab, cb, by rw [← HBL.out], ?_, ?_, ?_, ?_⟩
        · show World.ownsRow _ w.heap.size 68 2 (.slice Ah rh.length ch) rh.length (flat headC rh)
          iterate 6 (refine own_far ?_ (fun k hk => by have := HHLT.out k hk; simp; omega) _)
          exact own_more HH5.out (by omega)
        · show World.ownsRow _ w.heap.size 9 1 (.slice Ab bs.length cb) bs.length (flat strC bs)
          rw [← HBL.out]
          iterate 6 (refine own_far ?_ (fun k hk => by have := HOLT.out k hk; simp; omega) _)
          exact own_more HO5.out (by simp; omega)
        · intro j h1 h2
          have h3 := HHLT.out j h1
          have h4 : (Value.slice Ab (n - (k + 1)) cb).ownBlock = some j := by rw [HBL.out]; exact h2
          have h5 := HOLT.out j h4
          omega
        · iterate 6 (refine Below.setCell ?_ (by simp) _)
          exact HB5.out
  · have hf : rmB ls = false := by
      unfold rmB
      by_cases h1 : 0 < emI ls
      · rw [decide_eq_false (p := emI ls < ls.length) (by omega), Bool.and_false, Bool.false_and]
      · rw [decide_eq_false (p := 0 < emI ls) h1, Bool.false_and, Bool.false_and]
    have HF := Lib.hid hf
    obtain ⟨e, he⟩ : ∃ e, e = emZ ls := ⟨_, rfl⟩
    have hlt : e < 1 := by
      rw [he]; unfold emZ
      split
      · omega
      · omega
    have HE := Lib.hid he
    clear h0 hf he
    go_wp2_with fail
    refine (HFE.out _ e HE.out ((HR.out.alloc (Nat.le_refl _) _).more (by simp))).mono ?_
    rintro e w' ⟨rfl, rfl⟩
    go_wp2
    refine bodyPost_ret (v := .tuple #[.agg #[.string ⟨#[]⟩, .string ⟨#[]⟩, .string ⟨#[]⟩, .int .i64 0, .slice none 0 0, .slice none 0 0], .bool false]) ?_ rfl ?_
    · simp [results, Try.results5, go_sem]
    · exact HNO.out _ HB0.out HF.out
end Go.Proofs.Ytplcdadedpbkpaa
