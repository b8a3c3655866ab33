/- The contracts of the functions that draw heads. -/
import Derived.Test.YtnhbhopiioclmaaDrawL
import Derived.Test.YtnhbhopiioclmaaHeads
import Derived.Deep.RegionLaw
namespace Go.Proofs.Ytnhbhopiioclmaa
open Go.RowKit
set_option linter.unusedVariables false

/-- Drawn heads: their sizes. -/
def headsSm (hs : List HeadM) : Prop := ∀ p ∈ hs, p.x0.size ≤ 61 ∧ p.x1.size ≤ 61
theorem sm_app {hs : List HeadM} {p : HeadM} (h : headsSm hs) (hp : p.x0.size ≤ 61 ∧ p.x1.size ≤ 61) : headsSm (hs ++ [p]) := by
  intro q hq
  rw [List.mem_append, List.mem_singleton] at hq
  rcases hq with h1 | h1
  · exact h q h1
  · rw [h1]; exact hp
/-- A drawn list of heads. -/
def HeadsD (w : World) (g q : Nat) (e : Ending) (w' : World) : Prop :=
  ∃ (hs : List HeadM) (A : Option Addr) (c : Nat), e = .returned (.slice A hs.length c) ∧ w'.ownsRow w.heap.size 27 2 (.slice A hs.length c) hs.length (flat headC hs) ∧ headsSm hs ∧ hs.length ≤ 9 ∧ Rd w' g (q + 20) ∧ w.grownBy w' (some g)

set_option maxHeartbeats 4000000 in
theorem heads_any (w : World) (g q : Nat) (n : Int) (hr : Rd w g q) (hq : q ≤ 999900) (hn : 0 ≤ n) (hn2 : n ≤ 2147483647) :
    Calls Try.prog 41 #[.pointer (some ⟨g, 0, none⟩), .int .i64 n] w (HeadsD w g q) := by
  obtain ⟨i0, hi0, hz0, hz1, hz2⟩ := info_parts info_head
  have HR := Lib.hid hr
  have hg := hr.lt
  have HO := Lib.hid (World.ownsRow_lit (base := w.heap.size) (e := 27) (size := 2) w #[] 0 (Nat.le_refl _) (Nat.zero_le _) rfl)
  clear hr
  go_enter Try.func41, Try.ntmps41
  go_wp2_with fail
  refine (pick_pos _ g q 5 (HR.out.alloc _) (by omega) (by omega) (by omega)).mono ?_
  rintro e w1 ⟨x, x0, x1, rfl, hr1, hg1⟩
  have HR1 := Lib.hid hr1
  have HG1 := Lib.hid (gda' hg1)
  have HO1 := Lib.hid (HO.out.kept hg1 (.inr (by simp [Value.ownBlock]; omega)))
  clear hr1 hg1
  go_wp2
  go_loopw [5, 6] (fun o i wr => ∃ (hs : List HeadM) (m : Nat) (A : Option Addr) (c : Nat), hs.length + m ≤ 4 ∧ i = .int .i64 (m : Int) ∧ o = .slice A hs.length c ∧ wr.ownsRow w.heap.size 27 2 (.slice A hs.length c) hs.length (flat headC hs) ∧ headsSm hs ∧ Rd wr g (q + 1 + 3 * hs.length) ∧ w.grownBy wr (some g)) (fun _ i _ => (intOf i).toNat)
  case atStart => exact ⟨[], x.toNat, _, _, by simp; omega, by rw [Int.toNat_of_nonneg x0], rfl, HO1.out, fun p hp => by simp at hp, HR1.out, HG1.out⟩
  case round =>
    obtain ⟨hs, m, A, c, hm, rfl, rfl, hown, hsm, hrd, hgr⟩ := hrel
    have HW := Lib.hid hown
    have HS := Lib.hid hsm
    have HRD := Lib.hid hrd
    have HGR := Lib.hid hgr
    have hsz := hgr.size
    have hne : (Value.slice A hs.length c).ownBlock ≠ some g := fun e => by have := HW.out.lt g e; omega
    have HNE := Lib.hid hne
    obtain ⟨N, hN⟩ : ∃ N, N = hs.length := ⟨_, rfl⟩
    have HN := Lib.hid hN
    rw [← hN] at hm HW HRD HNE ⊢
    clear hown hsm hrd hgr hne hN
    by_cases hlt : 0 < m
    · have hmg : (0 : Int) < (m : Int) := by omega
      go_wp2
      go_region_law (first
        | (go_simp; go_at_call 49; refine Calls.mono (pick_pos _ g (q + 1 + 3 * N) 5 ?_ (by omega) (by omega) (by omega)) ?_; (first | exact HRD.out.drew | exact (HRD.out.alloc _).drew); rintro e w2 ⟨y, y0, y1, rfl, hr2, hg2⟩; obtain ⟨s, hs5, hWt, hCt⟩ := tab_at #[.string ⟨#[118, 105, 97]⟩, .string ⟨#[102, 114, 111, 109]⟩, .string ⟨#[116, 111]⟩, .string ⟨#[99, 97, 108, 108]⟩, .string ⟨#[111, 116, 104, 101, 114]⟩] 5 rfl y y0 y1 9; have HR2 := Lib.hid hr2; (first | have hc2 := tabd hCt (by omega) hg2 | skip); (first | have HG2 := Lib.hid (gda hg2) | have HG2 := Lib.hid (gd hg2)); clear hr2 hg2)
        | (go_simp; go_at_call 51; refine Calls.mono (line_any _ g (q + 1 + 3 * N + 1) 0 ?_ (by omega) (by omega) (by omega)) ?_; (first | exact HR2.out | exact HR2.out.alloc _); rintro e w3 ⟨l, hl, rfl, hr3, hg3⟩; have HR3 := Lib.hid hr3; (first | have hc3 := tabk hc2 (by omega) hg3 | have hc3 := tabn hCt (by have := HG2.out.size; omega) hg3 | skip); (first | have HG3 := Lib.hid (grown_step HG2.out (gda' hg3)) | have HG3 := Lib.hid (grown_step HG2.out hg3)); have HW3 := Lib.hid (HW.out.kept HG3.out (.inr HNE.out)); have hsz3 := HG3.out.size; clear hr3 hg3)
        | (refine step_append_one rfl _ _ 23 rfl w.heap.size 27 i0 _ 2 32 Try.underlying23 hi0 hz0 hz1 hz2 rfl (by omega) (.slice A N c) N (flat headC hs) rfl _ [.string s, .string l] rfl ?_ ?_ rfl ?_ ?_ ?_ ?_ ?_
           · first | exact (HW3.out.alloc _) | exact ((HW3.out.alloc _).alloc _)
           · exact heap_new_at _ _ _ (by simp)
           · simp [Value.oneCell']
           · unfold maxLen; omega
           · omega
           · first | (simp; omega) | omega
           intro gg cap w4 hown4 hgrow4))
      all_goals
        go_wp2
        go_roundw
        case rel =>
          have hl : (hs ++ [(⟨s, l⟩ : HeadM)]).length = N + 1 := by rw [List.length_append, ← HN.out]; rfl
          refine ⟨hs ++ [⟨s, l⟩], m - 1, some ⟨gg, 0, none⟩, cap, by rw [hl]; omega, by first | rfl | (congr 1; omega), by rw [hl], ?_, sm_app HS.out ⟨by show s.size ≤ 61; omega, by show l.size ≤ 61; omega⟩, ?_, ?_⟩
          · rw [hl, flat_append, flat_one]; exact hown4
          · rw [hl]
            first
              | exact ((HR3.out.alloc _).row hgrow4 (fun b hb => by have := (HW.out.lt b hb).1; omega)).mono (by omega)
              | exact (((HR3.out.alloc _).alloc _).row hgrow4 (fun b hb => by have := (HW.out.lt b hb).1; omega)).mono (by omega)
          · first
              | exact grown_own (grown_alloc (grown_step HGR.out HG3.out) _) hgrow4 (fun b hb => (HW.out.lt b hb).1)
              | exact grown_own (grown_alloc (grown_alloc (grown_step HGR.out HG3.out) _) _) hgrow4 (fun b hb => (HW.out.lt b hb).1)
        case measure => simp [intOf]; omega
    · have hmz : ¬ (0 : Int) < (m : Int) := by omega
      go_wp2_with fail
      refine (odd_any _ g (q + 1 + 3 * N) n HRD.out (by omega) hn hn2).mono ?_
      rintro e w3 ⟨z, rfl, hr3, hg3⟩
      have HR3 := Lib.hid hr3
      have HG3 := Lib.hid (grown_step HGR.out hg3)
      have HW3 := Lib.hid (HW.out.kept hg3 (.inr HNE.out))
      clear hr3 hg3
      cases z
      · go_wp2
        go_ret
        refine ⟨hs, A, c, ?_, ?_, HS.out, ?_, HR3.out.mono (by omega), HG3.out⟩
        · rw [← HN.out]; rfl
        · rw [← HN.out]; exact HW3.out
        · rw [← HN.out]; omega
      · go_wp2_with fail
        refine (pick_pos _ g (q + 1 + 3 * N + 1) 3 HR3.out (by omega) (by omega) (by omega)).mono ?_
        rintro e w4 ⟨y, y0, y1, rfl, hr4, hg4⟩
        have HR4 := Lib.hid hr4
        have HG4 := Lib.hid (grown_step HG3.out hg4)
        have HW4 := Lib.hid (HW3.out.kept hg4 (.inr HNE.out))
        have hsz4 := HG4.out.size
        clear hr4 hg4
        by_cases hy0 : y = 0
        · subst hy0
          go_wp2_with fail
          refine (word_any _ g (q + 1 + 3 * N + 2) 1 HR4.out (by omega) (by omega) (by omega)).mono ?_
          rintro e w5 ⟨s, hs5, rfl, hr5, hg5⟩
          have HR5 := Lib.hid hr5
          have HG5 := Lib.hid (grown_step HG4.out hg5)
          have HW5 := Lib.hid (HW4.out.kept hg5 (.inr HNE.out))
          have hsz5 := HG5.out.size
          clear hr5 hg5
          go_wp2_with (at_builtin; refine wpList_append_own _ rfl _ _ 23 rfl w.heap.size 27 i0 _ 2 32 Try.underlying23 hi0 hz0 hz1 hz2 rfl (by omega) (.slice A N c) N (flat headC hs) rfl (HW5.out.alloc _) ⟨w5.heap.size, 0, none⟩ 1 1 [.string s, .string ⟨#[]⟩] rfl rfl (World.news_of_block (cs := #[.string s, .string ⟨#[]⟩]) (t := 27) (fr := (0, 0)) (heap_alloc_new w5 _)) (by simp [Value.oneCell']) (by unfold maxLen; omega) (by omega) (by simp; omega) ?_; intro v9 w9 hown9 hg9 _; obtain ⟨A9, c9, hv9⟩ := own_slice hown9; subst hv9; have HW9 := Lib.hid hown9; have HG9 := Lib.hid hg9; clear hown9 hg9)
          go_ret
          refine ⟨hs ++ [⟨s, ⟨#[]⟩⟩], A9, c9, ?_, ?_, sm_app HS.out ⟨by show s.size ≤ 61; omega, by show 0 ≤ 61; omega⟩, ?_, ?_, ?_⟩
          · rw [List.length_append, ← HN.out]; rfl
          · rw [List.length_append, ← HN.out, flat_append, flat_one]; exact HW9.out
          · rw [List.length_append, ← HN.out]; show N + 1 ≤ 9; omega
          · exact ((HR5.out.alloc _).row HG9.out (fun b hb => by have := (HW5.out.lt b hb).1; omega)).mono (by omega)
          · exact grown_own (grown_alloc HG5.out _) HG9.out (fun b hb => (HW5.out.lt b hb).1)
        · by_cases hy1 : y = 1
          · subst hy1
            go_wp2_with fail
            refine (line_any _ g (q + 1 + 3 * N + 2) 1 HR4.out (by omega) (by omega) (by omega)).mono ?_
            rintro e w5 ⟨s, hs5, rfl, hr5, hg5⟩
            have HR5 := Lib.hid hr5
            have HG5 := Lib.hid (grown_step HG4.out hg5)
            have HW5 := Lib.hid (HW4.out.kept hg5 (.inr HNE.out))
            have hsz5 := HG5.out.size
            clear hr5 hg5
            go_wp2_with (at_builtin; refine wpList_append_own _ rfl _ _ 23 rfl w.heap.size 27 i0 _ 2 32 Try.underlying23 hi0 hz0 hz1 hz2 rfl (by omega) (.slice A N c) N (flat headC hs) rfl (HW5.out.alloc _) ⟨w5.heap.size, 0, none⟩ 1 1 [.string ⟨#[97]⟩, .string s] rfl rfl (World.news_of_block (cs := #[.string ⟨#[97]⟩, .string s]) (t := 27) (fr := (0, 0)) (heap_alloc_new w5 _)) (by simp [Value.oneCell']) (by unfold maxLen; omega) (by omega) (by simp; omega) ?_; intro v9 w9 hown9 hg9 _; obtain ⟨A9, c9, hv9⟩ := own_slice hown9; subst hv9; have HW9 := Lib.hid hown9; have HG9 := Lib.hid hg9; clear hown9 hg9)
            go_ret
            refine ⟨hs ++ [⟨⟨#[97]⟩, s⟩], A9, c9, ?_, ?_, sm_app HS.out ⟨by show 1 ≤ 61; omega, by show s.size ≤ 61; omega⟩, ?_, ?_, ?_⟩
            · rw [List.length_append, ← HN.out]; rfl
            · rw [List.length_append, ← HN.out, flat_append, flat_one]; exact HW9.out
            · rw [List.length_append, ← HN.out]; show N + 1 ≤ 9; omega
            · exact ((HR5.out.alloc _).row HG9.out (fun b hb => by have := (HW5.out.lt b hb).1; omega)).mono (by omega)
            · exact grown_own (grown_alloc HG5.out _) HG9.out (fun b hb => (HW5.out.lt b hb).1)
          · have hyb0 : (y == 0) = false := beq_eq_false_iff_ne.mpr hy0
            have hyb1 : (y == 1) = false := beq_eq_false_iff_ne.mpr hy1
            clear hy0 hy1
            go_wp2
            go_loopw [5] (fun o wr2 => ∃ (ts : List HeadM) (A : Option Addr) (c : Nat), ts.length ≤ 9 ∧ o = .slice A ts.length c ∧ wr2.ownsRow w.heap.size 27 2 (.slice A ts.length c) ts.length (flat headC ts) ∧ headsSm ts ∧ Rd wr2 g (q + 20) ∧ w.grownBy wr2 (some g)) (fun o _ => match o with | .slice _ k _ => 9 - k | _ => 0)
            case atStart => exact ⟨hs, A, c, by rw [← HN.out]; omega, by rw [← HN.out], by rw [← HN.out]; exact HW4.out, HS.out, HR4.out.mono (by omega), HG4.out⟩
            case round =>
              obtain ⟨ts, A2, c2, ht9, rfl, hown2, hsm2, hrd2, hgr2⟩ := hrel
              have HW6 := Lib.hid hown2
              have HS6 := Lib.hid hsm2
              have HR6 := Lib.hid hrd2
              have HG6 := Lib.hid hgr2
              have hsz6 := hgr2.size
              obtain ⟨M, hM⟩ : ∃ M, M = ts.length := ⟨_, rfl⟩
              have HM := Lib.hid hM
              rw [← hM] at ht9 HW6 ⊢
              clear hown2 hsm2 hrd2 hgr2 hM
              by_cases hlt : M ≤ 8
              · have hlt2 : (M : Int) ≤ 8 := by omega
                go_wp2_with (at_builtin; refine wpList_append_own _ rfl _ _ 23 rfl w.heap.size 27 i0 _ 2 32 Try.underlying23 hi0 hz0 hz1 hz2 rfl (by omega) (.slice A2 M c2) M (flat headC ts) rfl (HW6.out.alloc _) ⟨wr.heap.size, 0, none⟩ 1 1 [.string ⟨#[97]⟩, .string ⟨#[]⟩] rfl rfl (World.news_of_block (cs := #[.string ⟨#[97]⟩, .string ⟨#[]⟩]) (t := 27) (fr := (0, 0)) (heap_alloc_new wr _)) (by simp [Value.oneCell']) (by unfold maxLen; omega) (by omega) (by simp; omega) ?_; intro v9 w9 hown9 hg9 _; obtain ⟨A9, c9, hv9⟩ := own_slice hown9; subst hv9; have HW9 := Lib.hid hown9; have HG9 := Lib.hid hg9; clear hown9 hg9)
                go_roundw
                case rel =>
                  have hl : (ts ++ [(⟨⟨#[97]⟩, ⟨#[]⟩⟩ : HeadM)]).length = M + 1 := by rw [List.length_append, ← HM.out]; rfl
                  refine ⟨ts ++ [⟨⟨#[97]⟩, ⟨#[]⟩⟩], A9, c9, by rw [hl]; omega, by rw [hl], ?_, sm_app HS6.out ⟨by show 1 ≤ 61; omega, by show 0 ≤ 61; omega⟩, ?_, ?_⟩
                  · rw [hl, flat_append, flat_one]; exact HW9.out
                  · exact (HR6.out.alloc _).row HG9.out (fun b hb => by have := (HW6.out.lt b hb).1; omega)
                  · exact grown_own (grown_alloc HG6.out _) HG9.out (fun b hb => (HW6.out.lt b hb).1)
                case measure => simp; omega
              · have hlt2 : ¬ (M : Int) ≤ 8 := by omega
                go_wp2
                go_ret
                refine ⟨ts, A2, c2, ?_, ?_, HS6.out, ?_, HR6.out, HG6.out⟩
                · rw [← HM.out]; rfl
                · rw [← HM.out]; exact HW6.out
                · rw [← HM.out]; omega
end Go.Proofs.Ytnhbhopiioclmaa
