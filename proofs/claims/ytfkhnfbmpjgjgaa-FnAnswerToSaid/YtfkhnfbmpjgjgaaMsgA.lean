/- The contracts of the model's functions of chapter 4: answers to messages. -/
import Derived.Test.YtfkhnfbmpjgjgaaMsgR
namespace Go.Proofs.Ytfkhnfbmpjgjgaa
open Go.RowKit
set_option linter.unusedVariables false
set_option maxRecDepth 20000

/-- The names whose heads go into an answer. -/
def nmL : List ByteArray := [⟨#[118, 105, 97]⟩, ⟨#[102, 114, 111, 109]⟩, ⟨#[116, 111]⟩, ⟨#[99, 97, 108, 108]⟩, ⟨#[99, 115, 101, 113]⟩]
def isN (p : HeadM) (n : ByteArray) : Bool := p.x0.toList == n.toList
def viaB (p : HeadM) : Bool := nmL.any (isN p)
def ansM (p : MsgM) (cd : Int) : MsgM := ⟨⟨#[]⟩, ⟨#[]⟩, ⟨#[]⟩, cd, p.h.filter viaB, []⟩
def ansOk (p : MsgM) (cd : Int) : Bool := msgB p && !(p.x0.toList == []) && (decide (100 ≤ cd) && decide (cd ≤ 699))
def ansR (p : MsgM) (cd : Int) : MsgM := if ansOk p cd = true then ansM p cd else zeroM
/-- What has been taken of a head behind j names. -/
def tookL (p : HeadM) (j : Nat) : List HeadM := if (nmL.take j).any (isN p) = true then [p] else []
theorem took_zero (p : HeadM) : tookL p 0 = [] := rfl
theorem took_five (p : HeadM) : tookL p 5 = [p].filter viaB := by
  unfold tookL
  rw [show nmL.take 5 = nmL from rfl]
  change (if viaB p = true then [p] else []) = _
  by_cases h : viaB p = true
  · rw [List.filter_cons_of_pos h, if_pos h]; rfl
  · rw [List.filter_cons_of_neg h, if_neg h]; rfl
theorem took_no {p : HeadM} {j : Nat} {n : ByteArray} (hn : nmL[j]? = some n) (h : isN p n = false) : tookL p (j + 1) = tookL p j := by
  unfold tookL
  rw [take_more hn, List.any_append]
  simp [h]
theorem nm_apart : ∀ j, j < 5 → ∀ i, i < j → ∀ a b, nmL[j]? = some a → nmL[i]? = some b → a.toList ≠ b.toList := by
  intro j hj i hi a b ha hb
  have hh : ∀ j : Fin 5, ∀ i : Fin 5, i.val < j.val → ((nmL[j.val]?).map (·.data.toList)) ≠ ((nmL[i.val]?).map (·.data.toList)) := by decide
  have := hh ⟨j, hj⟩ ⟨i, by omega⟩ hi
  intro e
  apply this
  rw [ha, hb]
  rw [ByteArray.toList_eq, ByteArray.toList_eq] at e
  simp [e]
theorem took_yes {p : HeadM} {j : Nat} {n : ByteArray} (hj : j < 5) (hn : nmL[j]? = some n) (h : isN p n = true) : tookL p j = [] ∧ tookL p (j + 1) = [p] := by
  have h0 : (nmL.take j).any (isN p) = false := by
    rw [Bool.eq_false_iff]
    intro ha
    obtain ⟨b, hb, hb2⟩ := List.any_eq_true.mp ha
    obtain ⟨i, hi, he⟩ := List.getElem_of_mem hb
    rw [List.length_take] at hi
    rw [List.getElem_take] at he
    have hi5 : i < nmL.length := by omega
    refine nm_apart j hj i (by omega) n b hn (by rw [List.getElem?_eq_getElem hi5, he]) ?_
    unfold isN at h hb2
    rw [← eq_of_beq h, ← eq_of_beq hb2]
  unfold tookL
  refine ⟨by rw [if_neg (by rw [h0]; simp)], ?_⟩
  rw [take_more hn, List.any_append]
  simp [h]
theorem strs_names : flat strC nmL = [.string ⟨#[118, 105, 97]⟩, .string ⟨#[102, 114, 111, 109]⟩, .string ⟨#[116, 111]⟩, .string ⟨#[99, 97, 108, 108]⟩, .string ⟨#[99, 115, 101, 113]⟩] := rfl

theorem names_at (j : Nat) (hj : j < 5) : ∃ nm, nmL[j]? = some nm ∧ (#[.string ⟨#[118, 105, 97]⟩, .string ⟨#[102, 114, 111, 109]⟩, .string ⟨#[116, 111]⟩, .string ⟨#[99, 97, 108, 108]⟩, .string ⟨#[99, 115, 101, 113]⟩] : Array Value)[j]? = some (.string nm) := by
  rcases j with _ | _ | _ | _ | _ | j
  · exact ⟨_, rfl, rfl⟩
  · exact ⟨_, rfl, rfl⟩
  · exact ⟨_, rfl, rfl⟩
  · exact ⟨_, rfl, rfl⟩
  · exact ⟨_, rfl, rfl⟩
  · omega
set_option maxHeartbeats 8000000 in
theorem sans_t (x0 x1 x2 : ByteArray) (x3 : Int) (A4 : Option Addr) (n4 c4 : Nat) (h4 : List HeadM) (A5 : Option Addr) (n5 c5 : Nat) (b5 : List ByteArray) (cd : Int) (w : World) (m0 : x0.size ≤ maxLen) (m1 : x1.size ≤ maxLen) (m2 : x2.size ≤ maxLen)
    (hn4 : n4 = h4.length) (hc4 : n4 ≤ maxLen) (hm4 : headMax h4) (hn5 : n5 = b5.length) (hc5 : n5 ≤ maxLen) (hm5 : ∀ s ∈ b5, s.size ≤ maxLen) (hr4 : Sees w w.heap.size 2 A4 n4 (flat headC h4)) (hr5 : Sees w w.heap.size 1 A5 n5 (flat strC b5))
    (hv : msgB ⟨x0, x1, x2, x3, h4, b5⟩ = true) (he : (x0.toList == []) = false) (hcd : (decide (100 ≤ cd) && decide (cd ≤ 699)) = true) :
    Calls Try.prog 25 #[.agg #[.string x0, .string x1, .string x2, .int .i64 x3, .slice A4 n4 c4, .slice A5 n5 c5], .int .i64 cd] w (MsgRes w (ansM ⟨x0, x1, x2, x3, h4, b5⟩ cd) true) := by
  obtain ⟨i0, hi0, hz0, hz1, hz2⟩ := info_parts info_head
  have hn8 : n4 ≤ 8 := by rw [hn4]; exact headsB_len (msgB_parts hv).2.1
  have hcv := smv_any x0 x1 x2 x3 A4 n4 c4 h4 A5 n5 c5 b5 ((w.alloc (.cells #[.string x0, .string x1, .string x2, .int .i64 x3, .slice A4 n4 c4, .slice A5 n5 c5] 28)).alloc (.cells #[.string ⟨#[]⟩, .string ⟨#[]⟩, .string ⟨#[]⟩, .int .i64 0, .slice none 0 0, .slice none 0 0] 28)) m0 m1 m2 hn4 hc4 hm4 hn5 hc5 hm5
    (((hr4.alloc (Nat.le_refl _) _).alloc (by simp) _).more (by simp; omega)) (((hr5.alloc (Nat.le_refl _) _).alloc (by simp) _).more (by simp; omega))
  rw [hv] at hcv
  have HCV := Lib.hid hcv
  have HN4 := Lib.hid hn4
  have HR4 := Lib.hid hr4
  have HCD := Lib.hid hcd
  have BX0 := Lib.hid ((Holds.new w 28 #[.string x0, .string x1, .string x2, .int .i64 x3, .slice A4 n4 c4, .slice A5 n5 c5]).alloc (.cells #[.string ⟨#[]⟩, .string ⟨#[]⟩, .string ⟨#[]⟩, .int .i64 0, .slice none 0 0, .slice none 0 0] 28))
  have BR0 := Lib.hid (Holds.new' (g := w.heap.size + 1) (w.alloc (.cells #[.string x0, .string x1, .string x2, .int .i64 x3, .slice A4 n4 c4, .slice A5 n5 c5] 28)) 28 #[.string ⟨#[]⟩, .string ⟨#[]⟩, .string ⟨#[]⟩, .int .i64 0, .slice none 0 0, .slice none 0 0] (by simp))
  have HB0 := Lib.hid (balloc (bnew w (.cells #[.string x0, .string x1, .string x2, .int .i64 x3, .slice A4 n4 c4, .slice A5 n5 c5] 28)) (.cells #[.string ⟨#[]⟩, .string ⟨#[]⟩, .string ⟨#[]⟩, .int .i64 0, .slice none 0 0, .slice none 0 0] 28))
  clear m0 m1 m2 hn4 hc4 hm4 hn5 hc5 hm5 hr4 hr5 hcv hv hcd
  go_enter Try.func25, Try.ntmps25
  go_wp2_with fail
  refine HCV.out.mono ?_
  rintro e w1 ⟨rfl, hb1⟩
  have hz3 := hb1.size
  simp at hz3
  have BX1 := Lib.hid (BX0.out.call hb1)
  have BR1 := Lib.hid (BR0.out.call hb1)
  have HB1 := Lib.hid (HB0.out.trans (hb1.mono (by simp; omega)))
  clear hb1
  have c0q := BX1.out.cell 0 _ rfl
  go_wp2_with fail
  refine (in_any _ _ _ _).mono ?_
  rintro e w' ⟨rfl, rfl⟩
  rw [HCD.out]
  go_wp2
  have hlw := BX1.out.lt
  have hrw := BR1.out.lt
  go_loopw [8, 9] (fun a b wr => ∃ k : Nat, k ≤ n4 ∧ a = .int .i64 k ∧ ∃ (A : Option Addr) (n c : Nat) (os : List HeadM), os = (h4.take k).filter viaB ∧ n = os.length ∧ n ≤ 8 ∧ Holds wr w.heap.size 28 #[.string x0, .string x1, .string x2, .int .i64 x3, .slice A4 n4 c4, .slice A5 n5 c5] ∧ Holds wr (w.heap.size + 1) 28 #[.string ⟨#[]⟩, .string ⟨#[]⟩, .string ⟨#[]⟩, .int .i64 0, .slice none 0 0, .slice none 0 0] ∧ Holds wr w1.heap.size 28 #[.string ⟨#[]⟩, .string ⟨#[]⟩, .string ⟨#[]⟩, .int .i64 cd, .slice A n c, .slice none 0 0] ∧ Holds wr (w1.heap.size + 1) 9 #[.string ⟨#[118, 105, 97]⟩, .string ⟨#[102, 114, 111, 109]⟩, .string ⟨#[116, 111]⟩, .string ⟨#[99, 97, 108, 108]⟩, .string ⟨#[99, 115, 101, 113]⟩] ∧ wr.ownsRow (w1.heap.size + 1 + 1) 43 2 (.slice A n c) n (flat headC os) ∧ Below w.heap.size w wr) (fun a _ _ => n4 - (intOf a).toNat)
  case atStart =>
    exact ⟨0, Nat.zero_le _, rfl, none, 0, 0, [], rfl, rfl, by omega, (BX1.out.alloc _).alloc _, (BR1.out.alloc _).alloc _, (Holds.new w1 28 #[.string ⟨#[]⟩, .string ⟨#[]⟩, .string ⟨#[]⟩, .int .i64 cd, .slice none 0 0, .slice none 0 0]).alloc _, Holds.new' _ _ _ (by simp), ⟨rfl, .inl ⟨rfl, rfl⟩⟩, (HB1.out.alloc HB1.out.size _).alloc (by simp; omega) _⟩
  case round =>
    obtain ⟨k, hk, rfl, A, n, c, os, hos, hno, hn8', hbx, hbr, hbo, hbn, hown, hbel⟩ := hrel
    have HOS := Lib.hid hos
    have HNO := Lib.hid hno
    have BX := Lib.hid hbx
    have BR := Lib.hid hbr
    have BO := Lib.hid hbo
    have BN := Lib.hid hbn
    have HW := Lib.hid hown
    have HB := Lib.hid hbel
    clear hos hno hbx hbr hbo hbn hown hbel
    obtain ⟨wo, hwo⟩ : ∃ wo : World, wo = wr := ⟨_, rfl⟩
    subst hwo
    by_cases hlt : k < n4
    · obtain ⟨p, hp⟩ := get_of HN4.out hlt
      have HP := Lib.hid hp
      have d4 := BX.out.cell 4 _ rfl
      clear hp
      go_wp2
      go_loopw [9] (fun b wr => ∃ j : Nat, j ≤ 5 ∧ b = .int .i64 j ∧ ∃ (A : Option Addr) (n c : Nat) (os : List HeadM), os = (h4.take k).filter viaB ++ tookL p j ∧ n = os.length ∧ n ≤ 9 ∧ Holds wr w.heap.size 28 #[.string x0, .string x1, .string x2, .int .i64 x3, .slice A4 n4 c4, .slice A5 n5 c5] ∧ Holds wr (w.heap.size + 1) 28 #[.string ⟨#[]⟩, .string ⟨#[]⟩, .string ⟨#[]⟩, .int .i64 0, .slice none 0 0, .slice none 0 0] ∧ Holds wr w1.heap.size 28 #[.string ⟨#[]⟩, .string ⟨#[]⟩, .string ⟨#[]⟩, .int .i64 cd, .slice A n c, .slice none 0 0] ∧ Holds wr (w1.heap.size + 1) 9 #[.string ⟨#[118, 105, 97]⟩, .string ⟨#[102, 114, 111, 109]⟩, .string ⟨#[116, 111]⟩, .string ⟨#[99, 97, 108, 108]⟩, .string ⟨#[99, 115, 101, 113]⟩] ∧ wr.ownsRow (w1.heap.size + 1 + 1) 43 2 (.slice A n c) n (flat headC os) ∧ Below w.heap.size w wr) (fun b _ => 5 - (intOf b).toNat)
      case atStart =>
        exact ⟨0, by omega, rfl, A, n, c, os, by rw [took_zero, List.append_nil]; exact HOS.out, HNO.out, by omega, BX.out, BR.out, BO.out, BN.out, HW.out, HB.out⟩
      case round =>
        clear BX BR BO BN HW HB HOS HNO d4 hn8'
        obtain ⟨j, hj, rfl, A, n, c, os, hos, hno, hn9, hbx, hbr, hbo, hbn, hown, hbel⟩ := hrel
        have HOS := Lib.hid hos
        have HNO := Lib.hid hno
        have BX := Lib.hid hbx
        have BR := Lib.hid hbr
        have BO := Lib.hid hbo
        have BN := Lib.hid hbn
        have HW := Lib.hid hown
        have HB := Lib.hid hbel
        clear hos hno hbx hbr hbo hbn hown hbel
        have d4 := BX.out.cell 4 _ rfl
        by_cases hj5 : j < 5
        · obtain ⟨nm, hnm, hnc⟩ := names_at j hj5
          have e0 := BN.out.cell j _ hnc
          have HNM := Lib.hid hnm
          obtain ⟨b, off, rfl, hb, hcell⟩ := (HR4.out.below HB.out (Nat.le_refl _)).2 (by omega)
          obtain ⟨q0, q1⟩ := head_cells hcell HP.out
          obtain ⟨tt, htt⟩ : ∃ tt, isN p nm = tt := ⟨_, rfl⟩
          have HTT := Lib.hid htt
          have h5 : (p.x0.toList == nm.toList) = tt := htt
          have g1 : (0 : Int) ≤ (k : Int) := by omega
          have g2 : (k : Int) < (n4 : Int) := by omega
          have g3 : (0 : Int) ≤ (j : Int) := by omega
          have g4 : (j : Int) < 5 := by omega
          clear hcell hnm hnc htt
          cases tt
          · go_wp2
            go_region
            go_wp2
            go_roundw
            case rel =>
              exact ⟨j + 1, by omega, by go_num, A, n, c, os, by rw [took_no HNM.out HTT.out]; exact HOS.out, HNO.out, hn9, BX.out.drew, BR.out.drew, BO.out.drew, BN.out.drew, HW.out.drew, bdrew HB.out⟩
            case measure => simp [intOf]; omega
          · go_wp2
            go_region
            have o4 := BO.out.drew.cell 4 _ rfl
            have of4 := BO.out.drew.free 4
            have dd4 := BX.out.drew.cell 4 _ rfl
            have qq0 : wr.drew.cell? ⟨b, off + k * 2, none⟩ = some (.string p.x0) := q0
            have qq1 : wr.drew.cell? ⟨b, off + k * 2 + 1, none⟩ = some (.string p.x1) := q1
            have hzr := HB.out.size
            have qa0 : ∀ o : Obj, (wr.alloc o).drew.drew.cell? ⟨b, off + k * 2, none⟩ = some (.string p.x0) := fun o => by show (wr.alloc o).cell? _ = _; rw [(bnew wr o).cell (p := ⟨b, off + k * 2, none⟩) (show b < _ by omega)]; exact q0
            have qa1 : ∀ o : Obj, (wr.alloc o).drew.drew.cell? ⟨b, off + k * 2 + 1, none⟩ = some (.string p.x1) := fun o => by show (wr.alloc o).cell? _ = _; rw [(bnew wr o).cell (p := ⟨b, off + k * 2 + 1, none⟩) (show b < _ by omega)]; exact q1
            have QA0 := Lib.hid qa0
            have QA1 := Lib.hid qa1
            clear q0 q1 d4 e0 qa0 qa1
            have hlo := BO.out.lt
            have kp : (wr.alloc (.cells #[.string p.x0, .string p.x1] 43)).drew.drew.cell? ⟨w1.heap.size, 4, none⟩ = some (.slice A n c) ∧ (wr.alloc (.cells #[.string p.x0, .string p.x1] 43)).drew.drew.frozen? ⟨w1.heap.size, 4, none⟩ = false ∧ (wr.alloc (.cells #[.string p.x0, .string p.x1] 43)).drew.drew.cell? ⟨w.heap.size, 4, none⟩ = some (.slice (some ⟨b, off, none⟩) n4 c4) ∧ (wr.alloc (.cells #[.string p.x0, .string p.x1] 43)).drew.drew.cell? ⟨b, off + k * 2, none⟩ = some (.string p.x0) ∧ (wr.alloc (.cells #[.string p.x0, .string p.x1] 43)).drew.drew.cell? ⟨b, off + k * 2 + 1, none⟩ = some (.string p.x1) := ⟨((BO.out.alloc (.cells #[.string p.x0, .string p.x1] 43)).drew.drew).cell 4 _ rfl, ((BO.out.alloc (.cells #[.string p.x0, .string p.x1] 43)).drew.drew).free 4, ((BX.out.alloc (.cells #[.string p.x0, .string p.x1] 43)).drew.drew).cell 4 _ rfl, QA0.out _, QA1.out _⟩
            obtain ⟨ka0, ka1, ka2, ka3, ka4⟩ := kp
            go_wp2
            go_region_law (first
              | (refine step_append_lies _ rfl _ _ _ rfl (w1.heap.size + 1 + 1) 43 i0 _ 2 32 Try.underlying25 hi0 hz0 hz1 hz2 rfl (by omega) (.slice A n c) n (flat headC os) rfl (HW.out.alloc (.cells #[.string p.x0, .string p.x1] 43))
                  ⟨wr.heap.size, 0, none⟩ 1 1 [.string p.x0, .string p.x1] rfl rfl (World.news_of_block (cs := #[.string p.x0, .string p.x1]) (t := 43) (fr := (0, 0)) (heap_alloc_new wr _)) (by simp [Value.oneCell'])
                  (by omega) (by unfold maxLen; omega) (by omega) (by simp; omega) (wr.heap.size + 1) (by simp) ?_; intro gg cap w9 hown9 hgrow hat hlt9; have o9 := (hgrow.cell_far ⟨w1.heap.size, 4, none⟩ (show w1.heap.size < _ by simp; omega) (fun e => by have h0 := (HW.out.lt w1.heap.size e.symm).1; omega)).trans ka0; have f9 := (hgrow.frozen_far ⟨w1.heap.size, 4, none⟩ (show w1.heap.size < _ by simp; omega) (fun e => by have h0 := (HW.out.lt w1.heap.size e.symm).1; omega)).trans ka1))
            all_goals
              go_wp2
              go_roundw
              case rel =>
                have GI := Gr.of_grown hgrow
                obtain ⟨ht0, ht1⟩ := took_yes hj5 HNM.out HTT.out
                have hos : os = (h4.take k).filter viaB := by rw [HOS.out, ht0, List.append_nil]
                have hnk : n ≤ k := by
                  rw [HNO.out, hos]
                  have h2 := List.length_filter_le viaB (h4.take k)
                  rw [List.length_take] at h2
                  omega
                refine ⟨j + 1, by omega, by go_num, some ⟨gg, 0, none⟩, n + 1, cap, os ++ [p], by rw [ht1, hos], by rw [List.length_append, ← HNO.out]; rfl, by omega, ?_, ?_, ?_, ?_, ?_, ?_⟩
                · exact ((((BX.out.alloc (.cells #[.string p.x0, .string p.x1] 43)).drew.drew).gr GI (fun e => by have := (HW.out.lt _ e).1; omega)).far (p := ⟨w1.heap.size, 4, none⟩) (by simp; omega) _)
                · exact ((((BR.out.alloc (.cells #[.string p.x0, .string p.x1] 43)).drew.drew).gr GI (fun e => by have := (HW.out.lt _ e).1; omega)).far (p := ⟨w1.heap.size, 4, none⟩) (by simp; omega) _)
                · exact (((BO.out.alloc (.cells #[.string p.x0, .string p.x1] 43)).drew.drew).gr GI (fun e => by have := (HW.out.lt _ e).1; omega)).set 4 _
                · exact ((((BN.out.alloc (.cells #[.string p.x0, .string p.x1] 43)).drew.drew).gr GI (fun e => by have := (HW.out.lt _ e).1; omega)).far (p := ⟨w1.heap.size, 4, none⟩) (by simp) _)
                · rw [flat_append, flat_one]
                  exact own_far hown9 (p := ⟨w1.heap.size, 4, none⟩) (fun x hx => by have := (hown9.lt x hx).1; simp; omega) _
                · exact ((bdrew (bdrew (HB.out.alloc hzr (.cells #[.string p.x0, .string p.x1] 43)))).grown hgrow (by simp; omega) (fun g hg => by have := (HW.out.lt g hg).1; omega)).setCell (p := ⟨w1.heap.size, 4, none⟩) (by simp; omega) _
              case measure => simp [intOf]; omega
        · go_wp2
          go_roundw
          case rel =>
            obtain rfl : j = 5 := by omega
            refine ⟨k + 1, by omega, by go_num, A, n, c, os, ?_, HNO.out, ?_, BX.out, BR.out, BO.out, BN.out, HW.out, HB.out⟩
            · rw [HOS.out, took_five, take_more HP.out, List.filter_append]
            · have h1 := HNO.out
              rw [HOS.out, took_five, ← List.filter_append, ← take_more HP.out] at h1
              have h2 := List.length_filter_le viaB (h4.take (k + 1))
              rw [List.length_take] at h2
              omega
          case measure => simp [intOf]; omega
    · obtain ⟨r0, r1, r2, r3, r4, r5⟩ := six_cells BR.out
      obtain ⟨k0, k1, k2, k3, k4, k5⟩ := six_free BR.out
      obtain ⟨o0, o1, o2, o3, o4, o5⟩ := six_cells BO.out
      have d4 := BX.out.cell 4 _ rfl
      go_wp2
      have hq := six_put BR.out (.string ⟨#[]⟩) (.string ⟨#[]⟩) (.string ⟨#[]⟩) (.int .i64 cd) (.slice A n c) (.slice none 0 0)
      refine bodyPost_ret (v := .tuple #[.agg #[.string ⟨#[]⟩, .string ⟨#[]⟩, .string ⟨#[]⟩, .int .i64 cd, .slice A n c, .slice none 0 0], .bool true]) ?_ rfl ?_
      · simp [results, Try.results25, go_sem, hq.1, hq.2.1, hq.2.2.1, hq.2.2.2.1, hq.2.2.2.2.1, hq.2.2.2.2.2]
      · have hos : os = h4.filter viaB := by rw [HOS.out, take_all HN4.out hlt]
        refine ⟨A, c, none, 0, ?_, ?_, ⟨rfl, .inl ⟨rfl, rfl⟩⟩, fun x h1 h2 => by simp [Value.ownBlock] at h2, ?_⟩
        · show _ = Ending.returned (.tuple #[.agg #[.string ⟨#[]⟩, .string ⟨#[]⟩, .string ⟨#[]⟩, .int .i64 cd, .slice A (h4.filter viaB).length c, .slice none 0 0], .bool true])
          rw [← hos, ← HNO.out]
        · show World.ownsRow _ w.heap.size 43 2 (.slice A (h4.filter viaB).length c) (h4.filter viaB).length (flat headC (h4.filter viaB))
          rw [← hos, ← HNO.out]
          repeat (refine own_far ?_ (fun x hx => by have := (HW.out.lt x hx).1; simp; omega) _)
          exact own_more HW.out (by omega)
        · repeat (refine Below.setCell ?_ (by simp) _)
          exact HB.out

set_option maxHeartbeats 4000000 in
theorem sans_f (x0 x1 x2 : ByteArray) (x3 : Int) (A4 : Option Addr) (n4 c4 : Nat) (h4 : List HeadM) (A5 : Option Addr) (n5 c5 : Nat) (b5 : List ByteArray) (cd : Int) (w : World) (m0 : x0.size ≤ maxLen) (m1 : x1.size ≤ maxLen) (m2 : x2.size ≤ maxLen)
    (hn4 : n4 = h4.length) (hc4 : n4 ≤ maxLen) (hm4 : headMax h4) (hn5 : n5 = b5.length) (hc5 : n5 ≤ maxLen) (hm5 : ∀ s ∈ b5, s.size ≤ maxLen) (hr4 : Sees w w.heap.size 2 A4 n4 (flat headC h4)) (hr5 : Sees w w.heap.size 1 A5 n5 (flat strC b5))
    (hv : ansOk ⟨x0, x1, x2, x3, h4, b5⟩ cd = false) :
    Calls Try.prog 25 #[.agg #[.string x0, .string x1, .string x2, .int .i64 x3, .slice A4 n4 c4, .slice A5 n5 c5], .int .i64 cd] w (MsgRes w zeroM false) := by
  obtain ⟨vm, hvm⟩ : ∃ vm, msgB ⟨x0, x1, x2, x3, h4, b5⟩ = vm := ⟨_, rfl⟩
  have hcv := smv_any x0 x1 x2 x3 A4 n4 c4 h4 A5 n5 c5 b5 ((w.alloc (.cells #[.string x0, .string x1, .string x2, .int .i64 x3, .slice A4 n4 c4, .slice A5 n5 c5] 28)).alloc (.cells #[.string ⟨#[]⟩, .string ⟨#[]⟩, .string ⟨#[]⟩, .int .i64 0, .slice none 0 0, .slice none 0 0] 28)) m0 m1 m2 hn4 hc4 hm4 hn5 hc5 hm5
    (((hr4.alloc (Nat.le_refl _) _).alloc (by simp) _).more (by simp; omega)) (((hr5.alloc (Nat.le_refl _) _).alloc (by simp) _).more (by simp; omega))
  rw [hvm] at hcv
  have HCV := Lib.hid hcv
  unfold ansOk at hv
  rw [hvm] at hv
  have BX0 := Lib.hid ((Holds.new w 28 #[.string x0, .string x1, .string x2, .int .i64 x3, .slice A4 n4 c4, .slice A5 n5 c5]).alloc (.cells #[.string ⟨#[]⟩, .string ⟨#[]⟩, .string ⟨#[]⟩, .int .i64 0, .slice none 0 0, .slice none 0 0] 28))
  have BR0 := Lib.hid (Holds.new' (g := w.heap.size + 1) (w.alloc (.cells #[.string x0, .string x1, .string x2, .int .i64 x3, .slice A4 n4 c4, .slice A5 n5 c5] 28)) 28 #[.string ⟨#[]⟩, .string ⟨#[]⟩, .string ⟨#[]⟩, .int .i64 0, .slice none 0 0, .slice none 0 0] (by simp))
  have HB0 := Lib.hid (balloc (bnew w (.cells #[.string x0, .string x1, .string x2, .int .i64 x3, .slice A4 n4 c4, .slice A5 n5 c5] 28)) (.cells #[.string ⟨#[]⟩, .string ⟨#[]⟩, .string ⟨#[]⟩, .int .i64 0, .slice none 0 0, .slice none 0 0] 28))
  clear m0 m1 m2 hn4 hc4 hm4 hn5 hc5 hm5 hr4 hr5 hcv hvm
  cases vm
  · clear hv
    go_enter Try.func25, Try.ntmps25
    go_wp2_with fail
    refine HCV.out.mono ?_
    rintro e w1 ⟨rfl, hb1⟩
    have BR1 := Lib.hid (BR0.out.call hb1)
    have HB1 := Lib.hid (HB0.out.trans (hb1.mono (by simp; omega)))
    clear hb1
    obtain ⟨r0, r1, r2, r3, r4, r5⟩ := six_cells BR1.out
    obtain ⟨k0, k1, k2, k3, k4, k5⟩ := six_free BR1.out
    go_wp2
    have hq := six_put BR1.out (.string ⟨#[]⟩) (.string ⟨#[]⟩) (.string ⟨#[]⟩) (.int .i64 0) (.slice none 0 0) (.slice none 0 0)
    refine bodyPost_ret (v := .tuple #[.agg #[.string ⟨#[]⟩, .string ⟨#[]⟩, .string ⟨#[]⟩, .int .i64 0, .slice none 0 0, .slice none 0 0], .bool false]) ?_ rfl ?_
    · simp [results, Try.results25, go_sem, hq.1, hq.2.1, hq.2.2.1, hq.2.2.2.1, hq.2.2.2.2.1, hq.2.2.2.2.2]
    · refine MsgRes.zero ?_
      repeat (refine Below.setCell ?_ (by simp) _)
      exact HB1.out

  · by_cases he : (x0.toList == []) = true
    · clear hv
      go_enter Try.func25, Try.ntmps25
      go_wp2_with fail
      refine HCV.out.mono ?_
      rintro e w1 ⟨rfl, hb1⟩
      have BX1 := Lib.hid (BX0.out.call hb1)
      have BR1 := Lib.hid (BR0.out.call hb1)
      have HB1 := Lib.hid (HB0.out.trans (hb1.mono (by simp; omega)))
      clear hb1
      have c0q := BX1.out.cell 0 _ rfl
      obtain ⟨r0, r1, r2, r3, r4, r5⟩ := six_cells BR1.out
      obtain ⟨k0, k1, k2, k3, k4, k5⟩ := six_free BR1.out
      go_wp2
      have hq := six_put BR1.out (.string ⟨#[]⟩) (.string ⟨#[]⟩) (.string ⟨#[]⟩) (.int .i64 0) (.slice none 0 0) (.slice none 0 0)
      refine bodyPost_ret (v := .tuple #[.agg #[.string ⟨#[]⟩, .string ⟨#[]⟩, .string ⟨#[]⟩, .int .i64 0, .slice none 0 0, .slice none 0 0], .bool false]) ?_ rfl ?_
      · simp [results, Try.results25, go_sem, hq.1, hq.2.1, hq.2.2.1, hq.2.2.2.1, hq.2.2.2.2.1, hq.2.2.2.2.2]
      · refine MsgRes.zero ?_
        repeat (refine Below.setCell ?_ (by simp) _)
        exact HB1.out

    · have he : (x0.toList == []) = false := by simpa using he
      have hcd : (decide (100 ≤ cd) && decide (cd ≤ 699)) = false := by
        rw [show (({ x0 := x0, x1 := x1, x2 := x2, x3 := x3, h := h4, b := b5 } : MsgM).x0.toList == []) = false from he] at hv
        simpa using hv
      have HCD := Lib.hid hcd
      clear hcd hv
      go_enter Try.func25, Try.ntmps25
      go_wp2_with fail
      refine HCV.out.mono ?_
      rintro e w1 ⟨rfl, hb1⟩
      have BX1 := Lib.hid (BX0.out.call hb1)
      have BR1 := Lib.hid (BR0.out.call hb1)
      have HB1 := Lib.hid (HB0.out.trans (hb1.mono (by simp; omega)))
      clear hb1
      have c0q := BX1.out.cell 0 _ rfl
      go_wp2_with fail
      refine (in_any _ _ _ _).mono ?_
      rintro e w' ⟨rfl, rfl⟩
      rw [HCD.out]
      obtain ⟨r0, r1, r2, r3, r4, r5⟩ := six_cells BR1.out
      obtain ⟨k0, k1, k2, k3, k4, k5⟩ := six_free BR1.out
      go_wp2
      have hq := six_put BR1.out (.string ⟨#[]⟩) (.string ⟨#[]⟩) (.string ⟨#[]⟩) (.int .i64 0) (.slice none 0 0) (.slice none 0 0)
      refine bodyPost_ret (v := .tuple #[.agg #[.string ⟨#[]⟩, .string ⟨#[]⟩, .string ⟨#[]⟩, .int .i64 0, .slice none 0 0, .slice none 0 0], .bool false]) ?_ rfl ?_
      · simp [results, Try.results25, go_sem, hq.1, hq.2.1, hq.2.2.1, hq.2.2.2.1, hq.2.2.2.2.1, hq.2.2.2.2.2]
      · refine MsgRes.zero ?_
        repeat (refine Below.setCell ?_ (by simp) _)
        exact HB1.out

theorem sans_any (x0 x1 x2 : ByteArray) (x3 : Int) (A4 : Option Addr) (n4 c4 : Nat) (h4 : List HeadM) (A5 : Option Addr) (n5 c5 : Nat) (b5 : List ByteArray) (cd : Int) (w : World) (m0 : x0.size ≤ maxLen) (m1 : x1.size ≤ maxLen) (m2 : x2.size ≤ maxLen)
    (hn4 : n4 = h4.length) (hc4 : n4 ≤ maxLen) (hm4 : headMax h4) (hn5 : n5 = b5.length) (hc5 : n5 ≤ maxLen) (hm5 : ∀ s ∈ b5, s.size ≤ maxLen) (hr4 : Sees w w.heap.size 2 A4 n4 (flat headC h4)) (hr5 : Sees w w.heap.size 1 A5 n5 (flat strC b5)) :
    Calls Try.prog 25 #[.agg #[.string x0, .string x1, .string x2, .int .i64 x3, .slice A4 n4 c4, .slice A5 n5 c5], .int .i64 cd] w (MsgRes w (ansR ⟨x0, x1, x2, x3, h4, b5⟩ cd) (ansOk ⟨x0, x1, x2, x3, h4, b5⟩ cd)) := by
  unfold ansR
  by_cases hv : ansOk ⟨x0, x1, x2, x3, h4, b5⟩ cd = true
  · rw [if_pos hv, hv]
    unfold ansOk at hv
    rw [Bool.and_eq_true, Bool.and_eq_true] at hv
    exact sans_t x0 x1 x2 x3 A4 n4 c4 h4 A5 n5 c5 b5 cd w m0 m1 m2 hn4 hc4 hm4 hn5 hc5 hm5 hr4 hr5 hv.1.1 (by simpa using hv.1.2) hv.2
  · rw [if_neg hv]
    have hv : ansOk ⟨x0, x1, x2, x3, h4, b5⟩ cd = false := by simpa using hv
    rw [hv]
    exact sans_f x0 x1 x2 x3 A4 n4 c4 h4 A5 n5 c5 b5 cd w m0 m1 m2 hn4 hc4 hm4 hn5 hc5 hm5 hr4 hr5 hv
end Go.Proofs.Ytfkhnfbmpjgjgaa
