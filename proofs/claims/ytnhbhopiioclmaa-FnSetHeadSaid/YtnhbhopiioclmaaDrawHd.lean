/- The contracts of the functions that draw the inputs of chapter 3. -/
import Derived.Test.YtnhbhopiioclmaaDrawH
import Derived.Test.YtnhbhopiioclmaaHeadsS
namespace Go.Proofs.Ytnhbhopiioclmaa
open Go.RowKit
set_option linter.unusedVariables false

/-- Heads in new memory. -/
def HeadsO (w : World) (hs : List HeadM) (A : Option Addr) (c : Nat) (w' : World) : Prop :=
  w'.ownsRow w.heap.size 27 2 (.slice A hs.length c) hs.length (flat headC hs) ∧ headsSm hs ∧ hs.length ≤ 9 ∧ Below w.heap.size w w'
theorem sm_max {hs : List HeadM} (h : headsSm hs) : headMax hs := by
  intro p hp
  have := h p hp
  exact ⟨by unfold maxLen; omega, by unfold maxLen; omega⟩
/-- Texts in new memory. -/
def StrsO (w : World) (ls : List ByteArray) (A : Option Addr) (c : Nat) (w' : World) : Prop :=
  w'.ownsRow w.heap.size 9 1 (.slice A ls.length c) ls.length (flat strC ls) ∧ (∀ s ∈ ls, s.size ≤ 80) ∧ ls.length ≤ 20 ∧ Below w.heap.size w w'
theorem ls_app {ls : List ByteArray} {s : ByteArray} (h : ∀ s ∈ ls, s.size ≤ 80) (hs : s.size ≤ 80) : ∀ r ∈ ls ++ [s], r.size ≤ 80 := by
  intro q hq
  rw [List.mem_append, List.mem_singleton] at hq
  rcases hq with h1 | h1
  · exact h q h1
  · rw [h1]; exact hs
theorem lines_sm (hs : List HeadM) : (∀ s ∈ linesOf hs, s.size ≤ 80) ∧ (linesOf hs).length ≤ 8 := by
  unfold linesOf
  by_cases hv : headsB hs = true
  · rw [if_pos hv]
    refine ⟨fun s hs' => ?_, by rw [List.length_map]; exact headsB_len hv⟩
    rw [List.mem_map] at hs'
    obtain ⟨p, hp, rfl⟩ := hs'
    obtain ⟨k, hk, he⟩ := List.getElem_of_mem hp
    have := headB_size (headsB_at hv (k := k) (p := p) (by rw [List.getElem?_eq_getElem hk, he]))
    unfold headL
    rw [size_cat, size_cat]
    show _ + 2 + _ ≤ 80
    omega
  · rw [if_neg hv]
    exact ⟨fun s hs => by simp at hs, Nat.zero_le _⟩

set_option maxHeartbeats 1000000 in
theorem drawHv_any (w : World) (ao : Option Addr) (len cap : Nat) (hlc : len ≤ cap) (hc : cap ≤ maxLen) (hb : Bytes w ao len w.heap.size) :
    Calls Try.prog 13 #[.slice ao len cap] w fun e w' => ∃ (hs : List HeadM) (A : Option Addr) (c : Nat), e = .returned (.slice A hs.length c) ∧ HeadsO w hs A c w' := by
  have HB := Lib.hid hb
  clear hb
  go_enter Try.func13, Try.ntmps13
  go_wp2_with fail
  refine (open_any _ _ _ _ hlc hc HB.out).mono ?_
  rintro e w1 ⟨rfl, hr1, hb1⟩
  have HR1 := Lib.hid hr1
  have HB1 := Lib.hid hb1
  clear hr1 hb1
  go_wp2_with fail
  refine (heads_any _ w.heap.size 0 2 HR1.out (by omega) (by omega) (by omega)).mono ?_
  rintro e w2 ⟨hs, A, c, rfl, hown, hsm, hlen, hr2, hg2⟩
  have HH := Lib.hid (show HeadsO w hs A c w2 from ⟨own_more hown HB1.out.size, hsm, hlen, below_g HB1.out hg2⟩)
  clear hown hsm hlen hr2 hg2
  go_wp2
  go_ret
  exact ⟨hs, A, c, rfl, HH.out⟩

set_option maxHeartbeats 1000000 in
theorem drawHl_any (w : World) (ao : Option Addr) (len cap : Nat) (hlc : len ≤ cap) (hc : cap ≤ maxLen) (hb : Bytes w ao len w.heap.size) :
    Calls Try.prog 17 #[.slice ao len cap] w fun e w' => ∃ (hs : List HeadM) (A : Option Addr) (c : Nat), e = .returned (.slice A hs.length c) ∧ HeadsO w hs A c w' := by
  have HB := Lib.hid hb
  clear hb
  go_enter Try.func17, Try.ntmps17
  go_wp2_with fail
  refine (open_any _ _ _ _ hlc hc HB.out).mono ?_
  rintro e w1 ⟨rfl, hr1, hb1⟩
  have HR1 := Lib.hid hr1
  have HB1 := Lib.hid hb1
  clear hr1 hb1
  go_wp2_with fail
  refine (heads_any _ w.heap.size 0 6 HR1.out (by omega) (by omega) (by omega)).mono ?_
  rintro e w2 ⟨hs, A, c, rfl, hown, hsm, hlen, hr2, hg2⟩
  have HH := Lib.hid (show HeadsO w hs A c w2 from ⟨own_more hown HB1.out.size, hsm, hlen, below_g HB1.out hg2⟩)
  clear hown hsm hlen hr2 hg2
  go_wp2
  go_ret
  exact ⟨hs, A, c, rfl, HH.out⟩

/-- The end of the drawer of lines: perhaps too many of them. -/
def LinesI (w : World) (g : Nat) (ls : List ByteArray) (A : Option Addr) (c q : Nat) (wr : World) : Prop :=
  wr.ownsRow (w.heap.size + 1) 9 1 (.slice A ls.length c) ls.length (flat strC ls) ∧ (∀ s ∈ ls, s.size ≤ 80) ∧ Rd wr g q ∧ Below w.heap.size w wr

set_option maxHeartbeats 2000000 in
theorem drawRh_any (w : World) (ao : Option Addr) (len cap : Nat) (hlc : len ≤ cap) (hc : cap ≤ maxLen) (hb : Bytes w ao len w.heap.size) :
    Calls Try.prog 23 #[.slice ao len cap] w fun e w' => ∃ (ls : List ByteArray) (A : Option Addr) (c : Nat), e = .returned (.slice A ls.length c) ∧ StrsO w ls A c w' := by
  obtain ⟨i0, hi0, hz0, hz1, hz2⟩ := info_parts info_string
  have HB := Lib.hid hb
  clear hb
  go_enter Try.func23, Try.ntmps23
  go_wp2_with fail
  refine (open_any _ _ _ _ hlc hc HB.out).mono ?_
  rintro e w1 ⟨rfl, hr1, hb1⟩
  have HR1 := Lib.hid hr1
  have HB1 := Lib.hid hb1
  have hg1 := hr1.lt
  clear hr1 hb1
  go_wp2_with fail
  refine (heads_any _ w.heap.size 0 0 HR1.out (by omega) (by omega) (by omega)).mono ?_
  rintro e w2 ⟨hs, A, c, rfl, hown, hsm, hlen, hr2, hg2⟩
  have HO := Lib.hid hown
  have HS := Lib.hid hsm
  have HR2 := Lib.hid hr2
  have HB2 := Lib.hid (below_g HB1.out hg2)
  have hsz2 := hg2.size
  clear hown hsm hr2 hg2
  go_wp2_with fail
  refine (shl_any A hs.length c hs _ rfl (by unfold maxLen; omega) (Sees.of_own HO.out) (sm_max HS.out)).mono ?_
  rintro e w3 ⟨A3, c3, rfl, hown3, hb3⟩
  obtain ⟨ls, hls⟩ : ∃ ls, ls = linesOf hs := ⟨_, rfl⟩
  rw [← hls] at hown3 ⊢
  have HL := Lib.hid (show (∀ s ∈ ls, s.size ≤ 80) ∧ ls.length ≤ 8 by rw [hls]; exact lines_sm hs)
  have hl8 := HL.out.2
  have HW3 := Lib.hid (own_more (base' := w.heap.size + 1) hown3 (by omega))
  have HR3 := Lib.hid (HR2.out.below (hb3.mono HR2.out.lt))
  have HB3 := Lib.hid (HB2.out.trans (hb3.mono HB2.out.size))
  clear hown3 hb3 hls hlen
  go_wp2_with fail
  refine (odd_any _ w.heap.size 20 3 HR3.out (by omega) (by omega) (by omega)).mono ?_
  rintro e w4 ⟨z, rfl, hr4, hg4⟩
  have HR4 := Lib.hid hr4
  have HB4 := Lib.hid (below_g HB3.out hg4)
  have HW4 := Lib.hid (HW3.out.kept hg4 (.inr (fun e => by have := HW3.out.lt _ e; omega)))
  have hsz4 := HB4.out.size
  clear hr4 hg4
  obtain ⟨N, hN⟩ : ∃ N, N = ls.length := ⟨_, rfl⟩
  have HN := Lib.hid hN
  rw [← hN] at hl8 HW4 ⊢
  clear hN HW3
  cases z
  · have hlsN := Lib.hid HN.out.symm
    go_wp2_with fail
    refine (odd_any _ w.heap.size 21 14 HR4.out (by omega) (by omega) (by omega)).mono ?_
    rintro e w7 ⟨z7, rfl, hr7, hg7⟩
    have HR7 := Lib.hid hr7
    have HB7 := Lib.hid (below_g HB4.out hg7)
    have HW7 := Lib.hid (HW4.out.kept hg7 (.inr (fun e => by have := HW4.out.lt _ e; omega)))
    have hsz7 := HB7.out.size
    clear hr7 hg7
    cases z7
    · go_wp2
      go_ret
      refine ⟨ls, A3, c3, ?_, own_more (base := w.heap.size + 1) ?_ (by omega), HL.out.1, ?_, HB7.out⟩
      · rw [hlsN.out]; rfl
      · rw [hlsN.out]; exact HW7.out
      · rw [hlsN.out]; omega
    · go_wp2
      go_loopw [4] (fun o wr2 => ∃ (ts : List ByteArray) (A : Option Addr) (c : Nat), ts.length ≤ 9 ∧ o = .slice A ts.length c ∧ wr2.ownsRow (w.heap.size + 1) 9 1 (.slice A ts.length c) ts.length (flat strC ts) ∧ (∀ s ∈ ts, s.size ≤ 80) ∧ Below w.heap.size w wr2 ∧ w.heap.size < wr2.heap.size) (fun o _ => match o with | .slice _ k _ => 9 - k | _ => 0)
      case atStart => exact ⟨ls, A3, c3, by rw [hlsN.out]; omega, by rw [hlsN.out], by rw [hlsN.out]; exact HW7.out, HL.out.1, HB7.out, HR7.out.lt⟩
      case round =>
        obtain ⟨ts, A2, c2, ht9, rfl, hown2, hsm2, hgr2, hlt8⟩ := hrel
        have HW6 := Lib.hid hown2
        have HS6 := Lib.hid hsm2
        have HB6 := Lib.hid hgr2
        have hsz6 := hgr2.size
        obtain ⟨M, hM⟩ : ∃ M, M = ts.length := ⟨_, rfl⟩
        have HM := Lib.hid hM
        rw [← hM] at ht9 HW6 ⊢
        clear hown2 hsm2 hgr2 hM
        by_cases hlt : M ≤ 8
        · have hlt2 : (M : Int) ≤ 8 := by omega
          go_wp2_with (at_builtin; refine wpList_append_own _ rfl _ _ 30 rfl (w.heap.size + 1) 9 i0 _ 1 16 Try.underlying30 hi0 hz0 hz1 hz2 rfl (by omega) (.slice A2 M c2) (M) (flat strC ts) rfl (HW6.out.alloc _) ⟨wr.heap.size, 0, none⟩ 1 1 [.string ⟨#[97, 58, 32, 98]⟩] rfl rfl (World.news_of_block (cs := #[.string ⟨#[97, 58, 32, 98]⟩]) (t := 9) (fr := (0, 0)) (heap_alloc_new wr _)) (by simp [Value.oneCell']) (by unfold maxLen; omega) (by omega) (by simp; omega) ?_; intro v9 w9 hown9 hg9 _; obtain ⟨A9, c9, hv9⟩ := own_slice hown9; subst hv9; have HW9 := Lib.hid hown9; have HG9 := Lib.hid hg9; clear hown9 hg9)
          go_roundw
          case rel =>
            have hl : (ts ++ [(⟨#[97, 58, 32, 98]⟩ : ByteArray)]).length = M + 1 := by rw [List.length_append, ← HM.out]; rfl
            refine ⟨ts ++ [⟨#[97, 58, 32, 98]⟩], A9, c9, by rw [hl]; omega, by rw [hl], ?_, ls_app HS6.out (by show 4 ≤ 80; omega), ?_, ?_⟩
            · rw [hl, flat_append, flat_one]; exact HW9.out
            · exact (HB6.out.alloc HB6.out.size _).grown HG9.out (by simp; omega) (fun b hb => by have := (HW6.out.lt b hb).1; omega)
            · have := HG9.out.size; simp at this; omega
          case measure => simp; omega
        · have hlt2 : ¬ (M : Int) ≤ 8 := by omega
          go_wp2
          go_ret
          refine ⟨ts, A2, c2, ?_, own_more (base := w.heap.size + 1) ?_ (by omega), HS6.out, ?_, HB6.out⟩
          · rw [← HM.out]; rfl
          · rw [← HM.out]; exact HW6.out
          · rw [← HM.out]; omega
  · go_wp2_with fail
    refine (pick_pos _ w.heap.size 21 8 (HR4.out.alloc _) (by omega) (by omega) (by omega)).mono ?_
    rintro e w5 ⟨y, y0, y1, rfl, hr5, hg5⟩
    obtain ⟨s, hs8, hWt, hCt⟩ := tab_at #[.string ⟨#[]⟩, .string ⟨#[97]⟩, .string ⟨#[97, 58]⟩, .string ⟨#[97, 58, 98]⟩, .string ⟨#[58, 32, 98]⟩, .string ⟨#[65, 58, 32, 98]⟩, .string ⟨#[97, 58, 32, 32, 98]⟩, .string ⟨#[97, 58, 32, 98, 32]⟩] 5 rfl y y0 y1 9
    have c5 := tabn hCt HR4.out.lt hg5
    have HR5 := Lib.hid hr5
    have HB5 := Lib.hid (below_g (below_a HB4.out _) hg5)
    have HW5 := Lib.hid ((HW4.out.alloc _).kept hg5 (.inr (fun e => by have := HW4.out.lt _ e; omega)))
    have hsz5 := HB5.out.size
    have hlt5 := HR5.out.lt
    clear hr5 hg5 hWt hCt
    go_wp2_with (at_builtin; refine wpList_append_own _ rfl _ _ 30 rfl (w.heap.size + 1) 9 i0 _ 1 16 Try.underlying30 hi0 hz0 hz1 hz2 rfl (by omega) (.slice A3 N c3) (N) (flat strC ls) rfl (HW5.out.alloc _) ⟨w5.heap.size, 0, none⟩ 1 1 [.string s] rfl rfl (World.news_of_block (cs := #[.string s]) (t := 9) (fr := (0, 0)) (heap_alloc_new w5 _)) (by simp [Value.oneCell']) (by unfold maxLen; omega) (by omega) (by simp; omega) ?_; intro v6 w6 hown6 hg6 _; obtain ⟨A6, c6, hv6⟩ := own_slice hown6; subst hv6; have HW6 := Lib.hid hown6; have HG6 := Lib.hid hg6; clear hown6 hg6)
    have HR6 := Lib.hid ((HR5.out.alloc (.cells #[.string s] 9)).row HG6.out (fun b hb => by have := (HW5.out.lt b hb).1; omega))
    have HB6 := Lib.hid ((HB5.out.alloc HB5.out.size (.cells #[.string s] 9)).grown HG6.out (by simp; omega) (fun b hb => by have := (HW5.out.lt b hb).1; omega))
    have HX := Lib.hid (show w6.ownsRow (w.heap.size + 1) 9 1 (.slice A6 (N + 1) c6) (N + 1) (flat strC (ls ++ [s])) by rw [flat_append, flat_one]; exact HW6.out)
    have hlsN : Hid ((ls ++ [s]).length = N + 1) := Lib.hid (by rw [List.length_append, ← HN.out]; rfl)
    clear c5
    go_wp2_with fail
    refine (odd_any _ w.heap.size 22 14 HR6.out (by omega) (by omega) (by omega)).mono ?_
    rintro e w7 ⟨z7, rfl, hr7, hg7⟩
    have HR7 := Lib.hid hr7
    have HB7 := Lib.hid (below_g HB6.out hg7)
    have HW7 := Lib.hid (HX.out.kept hg7 (.inr (fun e => by have := HX.out.lt _ e; omega)))
    have hsz7 := HB7.out.size
    clear hr7 hg7
    cases z7
    · go_wp2
      go_ret
      refine ⟨(ls ++ [s]), A6, c6, ?_, own_more (base := w.heap.size + 1) ?_ (by omega), (ls_app HL.out.1 (by omega)), ?_, HB7.out⟩
      · rw [hlsN.out]; rfl
      · rw [hlsN.out]; exact HW7.out
      · rw [hlsN.out]; omega
    · go_wp2
      go_loopw [4] (fun o wr2 => ∃ (ts : List ByteArray) (A : Option Addr) (c : Nat), ts.length ≤ 9 ∧ o = .slice A ts.length c ∧ wr2.ownsRow (w.heap.size + 1) 9 1 (.slice A ts.length c) ts.length (flat strC ts) ∧ (∀ s ∈ ts, s.size ≤ 80) ∧ Below w.heap.size w wr2 ∧ w.heap.size < wr2.heap.size) (fun o _ => match o with | .slice _ k _ => 9 - k | _ => 0)
      case atStart => exact ⟨(ls ++ [s]), A6, c6, by rw [hlsN.out]; omega, by rw [hlsN.out], by rw [hlsN.out]; exact HW7.out, (ls_app HL.out.1 (by omega)), HB7.out, HR7.out.lt⟩
      case round =>
        obtain ⟨ts, A2, c2, ht9, rfl, hown2, hsm2, hgr2, hlt8⟩ := hrel
        have HW6 := Lib.hid hown2
        have HS6 := Lib.hid hsm2
        have HB6 := Lib.hid hgr2
        have hsz6 := hgr2.size
        obtain ⟨M, hM⟩ : ∃ M, M = ts.length := ⟨_, rfl⟩
        have HM := Lib.hid hM
        rw [← hM] at ht9 HW6 ⊢
        clear hown2 hsm2 hgr2 hM
        by_cases hlt : M ≤ 8
        · have hlt2 : (M : Int) ≤ 8 := by omega
          go_wp2_with (at_builtin; refine wpList_append_own _ rfl _ _ 30 rfl (w.heap.size + 1) 9 i0 _ 1 16 Try.underlying30 hi0 hz0 hz1 hz2 rfl (by omega) (.slice A2 M c2) (M) (flat strC ts) rfl (HW6.out.alloc _) ⟨wr.heap.size, 0, none⟩ 1 1 [.string ⟨#[97, 58, 32, 98]⟩] rfl rfl (World.news_of_block (cs := #[.string ⟨#[97, 58, 32, 98]⟩]) (t := 9) (fr := (0, 0)) (heap_alloc_new wr _)) (by simp [Value.oneCell']) (by unfold maxLen; omega) (by omega) (by simp; omega) ?_; intro v9 w9 hown9 hg9 _; obtain ⟨A9, c9, hv9⟩ := own_slice hown9; subst hv9; have HW9 := Lib.hid hown9; have HG9 := Lib.hid hg9; clear hown9 hg9)
          go_roundw
          case rel =>
            have hl : (ts ++ [(⟨#[97, 58, 32, 98]⟩ : ByteArray)]).length = M + 1 := by rw [List.length_append, ← HM.out]; rfl
            refine ⟨ts ++ [⟨#[97, 58, 32, 98]⟩], A9, c9, by rw [hl]; omega, by rw [hl], ?_, ls_app HS6.out (by show 4 ≤ 80; omega), ?_, ?_⟩
            · rw [hl, flat_append, flat_one]; exact HW9.out
            · exact (HB6.out.alloc HB6.out.size _).grown HG9.out (by simp; omega) (fun b hb => by have := (HW6.out.lt b hb).1; omega)
            · have := HG9.out.size; simp at this; omega
          case measure => simp; omega
        · have hlt2 : ¬ (M : Int) ≤ 8 := by omega
          go_wp2
          go_ret
          refine ⟨ts, A2, c2, ?_, own_more (base := w.heap.size + 1) ?_ (by omega), HS6.out, ?_, HB6.out⟩
          · rw [← HM.out]; rfl
          · rw [← HM.out]; exact HW6.out
          · rw [← HM.out]; omega

set_option maxHeartbeats 2000000 in
theorem drawFh_any (w : World) (ao : Option Addr) (len cap : Nat) (hlc : len ≤ cap) (hc : cap ≤ maxLen) (hb : Bytes w ao len w.heap.size) :
    Calls Try.prog 25 #[.slice ao len cap] w fun e w' => ∃ (hs : List HeadM) (A : Option Addr) (c : Nat) (nm : ByteArray), e = .returned (.tuple #[.slice A hs.length c, .string nm]) ∧ nm.size ≤ 10 ∧ HeadsO w hs A c w' := by
  have HB := Lib.hid hb
  clear hb
  go_enter Try.func25, Try.ntmps25
  go_wp2_with fail
  refine (open_any _ _ _ _ hlc hc HB.out).mono ?_
  rintro e w1 ⟨rfl, hr1, hb1⟩
  have HR1 := Lib.hid hr1
  have HB1 := Lib.hid hb1
  have hg1 := hr1.lt
  clear hr1 hb1
  go_wp2_with fail
  refine (heads_any _ w.heap.size 0 9 HR1.out (by omega) (by omega) (by omega)).mono ?_
  rintro e w2 ⟨hs, A, c, rfl, hown, hsm, hlen, hr2, hg2⟩
  have HO := Lib.hid hown
  have HS := Lib.hid hsm
  have HL := Lib.hid hlen
  have HR2 := Lib.hid hr2
  have HB2 := Lib.hid (below_g HB1.out hg2)
  have hsz2 := hg2.size
  clear hown hsm hr2 hg2 hlen
  go_wp2
  go_region_with (go_at_call 49; refine Calls.mono (pick_pos _ w.heap.size 20 3 ?_ (by omega) (by omega) (by omega)) ?_; (first | exact HR2.out.drew | exact (HR2.out.alloc _).drew); rintro e w3 ⟨y, y0, y1, rfl, hr3, hg3⟩; obtain ⟨s, hs5, hWt, hCt⟩ := tab_at #[.string ⟨#[118, 105, 97]⟩, .string ⟨#[102, 114, 111, 109]⟩, .string ⟨#[110, 111, 110, 101]⟩] 5 rfl y y0 y1 9; (first | have hc3 := tabd hCt (by omega) hg3 | skip); (first | have HG3 := Lib.hid (gda hg3) | have HG3 := Lib.hid (gd hg3)); clear hr3 hg3)
  all_goals
    have HB3 := Lib.hid (below_g HB2.out HG3.out)
    have HO3 := Lib.hid (HO.out.kept HG3.out (.inr (fun e => by have := HO.out.lt _ e; omega)))
    go_wp2
    go_ret2
    first
      | exact ⟨hs, A, c, s, by first | rfl | simp [hCt], by omega, own_more HO3.out (by omega), HS.out, HL.out, HB3.out⟩
      | exact ⟨hs, A, c, s, by first | rfl | simp [hCt], by omega, own_more (HO3.out.alloc _) (by omega), HS.out, HL.out, below_a HB3.out _⟩

set_option maxHeartbeats 2000000 in
theorem drawSh_any (w : World) (ao : Option Addr) (len cap : Nat) (hlc : len ≤ cap) (hc : cap ≤ maxLen) (hb : Bytes w ao len w.heap.size) :
    Calls Try.prog 28 #[.slice ao len cap] w fun e w' => ∃ (hs : List HeadM) (A : Option Addr) (c : Nat) (nm ln : ByteArray), e = .returned (.tuple #[.slice A hs.length c, .string nm, .string ln]) ∧ nm.size ≤ 61 ∧ ln.size ≤ 61 ∧ HeadsO w hs A c w' := by
  have HB := Lib.hid hb
  clear hb
  go_enter Try.func28, Try.ntmps28
  go_wp2_with fail
  refine (open_any _ _ _ _ hlc hc HB.out).mono ?_
  rintro e w1 ⟨rfl, hr1, hb1⟩
  have HR1 := Lib.hid hr1
  have HB1 := Lib.hid hb1
  have hg1 := hr1.lt
  clear hr1 hb1
  go_wp2_with fail
  refine (heads_any _ w.heap.size 0 9 HR1.out (by omega) (by omega) (by omega)).mono ?_
  rintro e w2 ⟨hs, A, c, rfl, hown, hsm, hlen, hr2, hg2⟩
  have HO := Lib.hid hown
  have HS := Lib.hid hsm
  have HL := Lib.hid hlen
  have HR2 := Lib.hid hr2
  have HB2 := Lib.hid (below_g HB1.out hg2)
  have hsz2 := hg2.size
  clear hown hsm hr2 hg2 hlen
  go_wp2_with fail
  refine (pick_pos _ w.heap.size 20 6 ((HR2.out.alloc _).alloc _) (by omega) (by omega) (by omega)).mono ?_
  rintro e w3 ⟨y, y0, y1, rfl, hr3, hg3⟩
  have HR3 := Lib.hid hr3
  have hT := Lib.hid (two_tables hg3 HR2.out.lt)
  have HO3 := Lib.hid (((HO.out.alloc _).alloc _).kept hg3 (.inr (fun e => by have := HO.out.lt _ e; omega)))
  have HB3 := Lib.hid (below_g (below_a (below_a HB2.out _) _) hg3)
  clear hr3 hg3
  obtain ⟨j, j0, j1, hj⟩ := ints_at (lo := 0) (hi := 2) (C := #[.int .i64 0, .int .i64 0, .int .i64 0, .int .i64 1, .int .i64 1, .int .i64 2]) rfl y.toNat (by show y.toNat < 6; omega)
  obtain ⟨s, hs5, hv⟩ := strs_at (M := 5) (C := #[.string ⟨#[118, 105, 97]⟩, .string ⟨#[110, 101, 119]⟩, .string ⟨#[65]⟩]) rfl j.toNat (by show j.toNat < 3; omega)
  have hcj := (hT.out y.toNat).2.trans hj
  have hcv := (hT.out j.toNat).1.trans hv
  clear hj hv
  go_wp2_with fail
  refine (line_any _ w.heap.size 21 9 HR3.out (by omega) (by omega) (by omega)).mono ?_
  rintro e w4 ⟨l, hl, rfl, hr4, hg4⟩
  have HB4 := Lib.hid (below_g HB3.out hg4)
  have HO4 := Lib.hid (HO3.out.kept hg4 (.inr (fun e => by have := HO3.out.lt _ e; omega)))
  clear hr4 hg4 hcj hcv
  go_wp2
  go_ret3
  exact ⟨hs, A, c, s, l, rfl, by omega, by omega, own_more HO4.out (by omega), HS.out, HL.out, HB4.out⟩
end Go.Proofs.Ytnhbhopiioclmaa
