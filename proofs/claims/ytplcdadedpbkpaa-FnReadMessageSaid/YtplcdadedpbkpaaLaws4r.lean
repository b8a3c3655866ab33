/- The law of chapter 4 whose draw is by exact values: FnReadMessage. -/
import Derived.Test.YtplcdadedpbkpaaLaws4d
import Derived.Test.YtplcdadedpbkpaaMsgDP
namespace Go.Proofs.Ytplcdadedpbkpaa
open Go Go.RowKit
set_option linter.unusedVariables false
set_option maxRecDepth 20000

open Mini in
/-- The one list that a function hands back, as it is seen. -/
theorem one_list {P : Program} {w w' : World} {t tr n : Nat} {ls : List D} {v : Value} (hk : ksOf P tr = some [.list t]) (hs : isSt P tr = false) (h : ResOk P w w' [tr] [.list t n ls] v) (hb : Below w.heap.size w w') (hv : ∀ d ∈ ls, scal [d]) :
    ∃ A c, v = .slice A n c ∧ n ≤ c ∧ Sees w' w'.heap.size (sz P t) A n (ls.map valD) := by
  obtain ⟨ks, cells, vs, bs, k1, k2, k3, k4, k5, rfl⟩ := h
  unfold ksAll at k1
  rw [hk] at k1
  simp [ksAll] at k1
  subst k1
  match vs with
  | [] => unfold splitVal at k3; exact k3.elim
  | v :: vs =>
    unfold splitVal at k3
    rw [hk] at k3
    simp only at k3
    rw [if_neg (by rw [hs]; simp)] at k3
    obtain ⟨rest, rfl, k3⟩ := k3
    match vs with
    | u :: us => unfold splitVal at k3; exact absurd k3.2 (by simp)
    | [] =>
      match bs with
      | [] => unfold resL at k5; exact k5.elim
      | ob :: bs =>
        unfold resL at k5
        have h1 : ownOk P w.heap.size w' t n ls v ob := k5.1
        match ob with
        | none =>
          obtain ⟨rfl, rfl, Ad, rfl⟩ := h1
          exact ⟨Ad, 0, rfl, by omega, by simp, fun h => absurd h (by omega)⟩
        | some (b, o, N) =>
          obtain ⟨c, arr, rfl, h2, h3, h4, h5, h6, h7, h8⟩ := h1
          refine ⟨some ⟨b, o, none⟩, c, rfl, h2, by rw [List.length_map, h3], fun _ => ⟨b, o, rfl, ?_, fun j u hu => ?_⟩⟩
          · exact (Array.getElem?_eq_some_iff.mp h6).1
          · rw [List.getElem?_map] at hu
            obtain ⟨d, hd, rfl⟩ := Option.map_eq_some_iff.mp hu
            obtain ⟨x, g1, g2⟩ := h8 j d hd
            have g3 : x = valD d := by
              have g4 := hv d (List.mem_of_getElem? hd) d (by simp)
              cases d with
              | int k n => unfold gD at g2; exact g2
              | bool b => unfold gD at g2; exact g2
              | str s => unfold gD at g2; exact g2
              | list => cases g4
            rw [← g3]
            simp [World.cell?, h6, g1]
open Mini in
theorem code_gD {P : Program} {el : Nat} (hel : sz P el = 1) {a0 : Option Addr} {len0 cap0 : Nat} {z0 : List Int} {w : World} (w0 : IsBytes w a0 len0 cap0 z0) :
    ∃ l : List D, (∀ d ∈ l, ∃ z : Int, d = .int .u8 z ∧ 0 ≤ z ∧ z ≤ 255) ∧ gD P (fun b => w.heap[b]?) (.list el len0 l) (.slice a0 len0 cap0) := by
  obtain ⟨hlc, hcm, hB⟩ := bytes_of w0
  -- the bytes
  have hz : ∃ zs : List Int, zs.length = len0 ∧ (∀ z ∈ zs, 0 ≤ z ∧ z ≤ 255) ∧ Sees w w.heap.size 1 a0 len0 (zs.map (fun z => Value.int .u8 z)) := by
    rcases hB with h0 | ⟨b, off, rfl, hb, hc⟩
    · subst h0
      exact ⟨[], rfl, fun z hz => by simp at hz, by simp, fun h => absurd h (by omega)⟩
    · have : ∀ n, n ≤ len0 → ∃ zs : List Int, zs.length = n ∧ (∀ z ∈ zs, 0 ≤ z ∧ z ≤ 255) ∧ ∀ i z, zs[i]? = some z → w.cell? ⟨b, off + i, none⟩ = some (.int .u8 z) := by
        intro n
        induction n with
        | zero => exact fun _ => ⟨[], rfl, fun z hz => by simp at hz, fun i z hz => by simp at hz⟩
        | succ n ih =>
          intro hn
          obtain ⟨zs, h1, h2, h3⟩ := ih (by omega)
          obtain ⟨z, q1, q2, q3⟩ := hc n (by omega)
          refine ⟨zs ++ [z], by simp [h1], fun y hy => ?_, fun i y hy => ?_⟩
          · rcases List.mem_append.mp hy with hy | hy
            · exact h2 y hy
            · simp at hy; subst hy; exact ⟨q1, q2⟩
          · by_cases hi : i < n
            · rw [List.getElem?_append_left (by omega)] at hy; exact h3 i y hy
            · rw [List.getElem?_append_right (by omega)] at hy
              have : i - zs.length = 0 := by
                have := (List.getElem?_eq_some_iff.mp hy).1
                simp at this; omega
              rw [this] at hy
              simp at hy
              subst hy
              have : i = n := by omega
              subst this; exact q3
      obtain ⟨zs, h1, h2, h3⟩ := this len0 (Nat.le_refl _)
      refine ⟨zs, h1, h2, by simp [h1], fun _ => ⟨b, off, rfl, hb, fun j u hu => ?_⟩⟩
      rw [List.getElem?_map] at hu
      obtain ⟨z, hz, rfl⟩ := Option.map_eq_some_iff.mp hu
      exact h3 j z hz
  obtain ⟨zs, z1, z2, z3⟩ := hz
  refine ⟨zs.map (fun z => D.int .u8 z), fun d hd => ?_, gD_of_sees hlc (by rw [hel]; exact z3) (by simp) (fun j d hj => by
    rw [List.getElem?_map] at hj
    obtain ⟨z, hz, rfl⟩ := Option.map_eq_some_iff.mp hj
    exact ⟨.int .u8 z, by rw [List.getElem?_map, hz]; rfl, by unfold gD; rfl⟩)⟩
  obtain ⟨z, hz, rfl⟩ := List.mem_map.mp hd
  exact ⟨z, rfl, z2 z hz⟩
theorem texts_flat (ls : List ByteArray) : (Mini.textsD ls).map Mini.valD = flat strC ls := by
  induction ls with
  | nil => rfl
  | cons s t ih =>
    show Value.string s :: (Mini.textsD t).map Mini.valD = Value.string s :: flat strC t
    rw [ih]
theorem drawRm_any {a0 : Option Addr} {len0 cap0 : Nat} {z0 : List Int} {w : World} (w0 : IsBytes w a0 len0 cap0 z0) :
    Calls Try.prog 4 #[.slice a0 len0 cap0] w fun e w' => ∃ (ls : List ByteArray) (A : Option Addr) (c : Nat), e = .returned (.slice A ls.length c) ∧ Sees w' w'.heap.size 1 A ls.length (flat strC ls) ∧ ls.length ≤ c ∧ (∀ s ∈ ls, s.size ≤ 100) ∧ ls.length ≤ 22 ∧ Below w.heap.size w w' := by
  obtain ⟨l, hl, hg⟩ := code_gD (P := Try.prog) (el := 5) (by kernel_rfl) w0
  have hp : Try.f4.params.toList = [22] := by kernel_rfl
  have hr : Try.f4.resultTypes.toList = [23] := by kernel_rfl
  have h := Mini.ok_drm
  unfold Mini.s_drm Mini.sig at h
  rw [hp, hr] at h
  refine (Mini.calls_own h (xs := [.list 5 len0 l]) (cells := [.slice a0 len0 cap0]) (ks := [.list 5]) (by kernel_rfl) (Mini.splitVal_one (ks := [.list 5]) (by kernel_rfl) (by kernel_rfl) ⟨rfl, rfl⟩) (by simp [Mini.fits, Mini.fitK]) ⟨hg, trivial⟩ ⟨len0, l, rfl, hl⟩).mono ?_
  rintro e w' ⟨v, ys, rfl, ⟨ls, rfl, h1, h2⟩, hb, hres⟩
  obtain ⟨A, c, rfl, hc, hs⟩ := one_list (by kernel_rfl) (by kernel_rfl) hres hb (fun d hd => by
    obtain ⟨s, _, rfl⟩ := List.mem_map.mp hd
    intro x hx
    obtain rfl : x = _ := by simpa using hx
    rfl)
  have e1 : Mini.sz Try.prog 9 = 1 := by kernel_rfl
  rw [e1] at hs
  rw [texts_flat] at hs
  exact ⟨ls, A, c, rfl, hs, hc, h2, h1, hb⟩

set_option maxHeartbeats 4000000 in
theorem walk_FnReadMessage (a0 : Option Addr) (len0 cap0 : Nat) (z0 : List Int) (w : World) (w0 : IsBytes w a0 len0 cap0 z0) :
    Calls Try.prog 3 #[.slice a0 len0 cap0] w fun e w' => e = .returned (.bool true) ∧ Below w.heap.size w w' := by
  obtain ⟨hlc, hcm, hb⟩ := bytes_of w0
  have HW0 := Lib.hid w0
  have hcm' := hcm
  unfold maxLen at hcm'
  clear w0 hb
  by_cases hbig : (1048576 : Int) < len0
  · go_enter Try.func3, Try.ntmps3
    go_wp2
    go_ret
    exact ⟨rfl, Below.refl _ _⟩
  go_enter Try.func3, Try.ntmps3
  go_wp2_with fail
  refine (drawRm_any HW0.out).mono ?_
  rintro e w1 ⟨ls, A, c, rfl, hown, hcap, hsm, hlen, hb1⟩
  have HCA := Lib.hid hcap
  have HO := Lib.hid hown
  have HBV := Lib.hid hb1
  have HSZ : Hid (∀ s ∈ ls, s.size ≤ 1048576) := Lib.hid (fun s hs => by have := hsm s hs; omega)
  clear hown hcap hsm hb1
  obtain ⟨r, hr⟩ : ∃ r, r = rmM ls := ⟨_, rfl⟩
  obtain ⟨v, hv⟩ : ∃ v, v = rmB ls := ⟨_, rfl⟩
  have HR := Lib.hid hr
  have HV := Lib.hid hv
  have hfew := rmM_few ls
  rw [← hr] at hfew
  obtain ⟨hf4, hf5⟩ := hfew
  clear hr hv
  go_wp2_with fail
  refine (irm_any A ls.length c ls _ rfl (by omega) HCA.out HO.out HSZ.out r v HR.out HV.out).mono ?_
  rintro e w2 ⟨Ax4, cx4, Ax5, cx5, rfl, hownx4, hownx5, _, hb2⟩
  have HBV := Lib.hid (balloc (btrans HBV.out hb2) (.cells #[.string r.x0, .string r.x1, .string r.x2, .int .i64 r.x3, .slice Ax4 r.h.length cx4, .slice Ax5 r.b.length cx5] 29))
  have HO := Lib.hid (sees_alloc (sees_call HO.out hb2) (.cells #[.string r.x0, .string r.x1, .string r.x2, .int .i64 r.x3, .slice Ax4 r.h.length cx4, .slice Ax5 r.b.length cx5] 29))
  have HX4 := Lib.hid (hownx4.alloc (.cells #[.string r.x0, .string r.x1, .string r.x2, .int .i64 r.x3, .slice Ax4 r.h.length cx4, .slice Ax5 r.b.length cx5] 29))
  have HX5 := Lib.hid (hownx5.alloc (.cells #[.string r.x0, .string r.x1, .string r.x2, .int .i64 r.x3, .slice Ax4 r.h.length cx4, .slice Ax5 r.b.length cx5] 29))
  have BV := Lib.hid (Holds.new w2 29 #[.string r.x0, .string r.x1, .string r.x2, .int .i64 r.x3, .slice Ax4 r.h.length cx4, .slice Ax5 r.b.length cx5])
  clear hb2 hownx4 hownx5
  go_wp2_with fail
  refine (srm_any A ls.length c ls _ rfl (by omega) HCA.out HO.out HSZ.out r v HR.out HV.out).mono ?_
  rintro e w3 ⟨Ay4, cy4, Ay5, cy5, rfl, howny4, howny5, _, hb3⟩
  have HBV := Lib.hid (balloc (btrans HBV.out hb3) (.cells #[.string r.x0, .string r.x1, .string r.x2, .int .i64 r.x3, .slice Ay4 r.h.length cy4, .slice Ay5 r.b.length cy5] 29))
  have HO := Lib.hid (sees_alloc (sees_call HO.out hb3) (.cells #[.string r.x0, .string r.x1, .string r.x2, .int .i64 r.x3, .slice Ay4 r.h.length cy4, .slice Ay5 r.b.length cy5] 29))
  have HX4 := Lib.hid ((own_call HX4.out hb3).alloc (.cells #[.string r.x0, .string r.x1, .string r.x2, .int .i64 r.x3, .slice Ay4 r.h.length cy4, .slice Ay5 r.b.length cy5] 29))
  have HX5 := Lib.hid ((own_call HX5.out hb3).alloc (.cells #[.string r.x0, .string r.x1, .string r.x2, .int .i64 r.x3, .slice Ay4 r.h.length cy4, .slice Ay5 r.b.length cy5] 29))
  have HY4 := Lib.hid (howny4.alloc (.cells #[.string r.x0, .string r.x1, .string r.x2, .int .i64 r.x3, .slice Ay4 r.h.length cy4, .slice Ay5 r.b.length cy5] 29))
  have HY5 := Lib.hid (howny5.alloc (.cells #[.string r.x0, .string r.x1, .string r.x2, .int .i64 r.x3, .slice Ay4 r.h.length cy4, .slice Ay5 r.b.length cy5] 29))
  have BV := Lib.hid ((BV.out.call hb3).alloc (.cells #[.string r.x0, .string r.x1, .string r.x2, .int .i64 r.x3, .slice Ay4 r.h.length cy4, .slice Ay5 r.b.length cy5] 29))
  clear hb3 howny4 howny5
  obtain ⟨q0, q1, q2, q3, q4, q5⟩ := six_cells BV.out
  go_wp2_with fail
  refine (sameMessage_same r.x0 r.x1 r.x2 r.x3 Ax4 r.h.length cx4 r.h Ax5 r.b.length cx5 r.b Ay4 cy4 Ay5 cy5 _ rfl (by unfold maxLen; omega) rfl (by unfold maxLen; omega) (Sees.of_own HX4.out) (Sees.of_own HY4.out) (Sees.of_own HX5.out) (Sees.of_own HY5.out)).mono ?_
  rintro e w4 ⟨rfl, hb4⟩
  have HBV := Lib.hid (btrans HBV.out hb4)
  have HO := Lib.hid (sees_call HO.out hb4)
  have HX4 := Lib.hid (own_call HX4.out hb4)
  have HX5 := Lib.hid (own_call HX5.out hb4)
  have BV := Lib.hid (BV.out.call hb4)
  clear hb4 q0 q1 q2 q3 q4 q5
  obtain ⟨q0, q1, q2, q3, q4, q5⟩ := six_cells BV.out
  cases v
  · have hz : r = zeroM := by rw [HR.out]; unfold rmM; rw [if_neg (by rw [← HV.out]; simp)]
    have HBF := Lib.hid HBV.out
    have HF4 := Lib.hid HX4.out
    have HF5 := Lib.hid HX5.out
    subst hz
    go_wp2_with fail
    refine (sameMessage_same ⟨#[]⟩ ⟨#[]⟩ ⟨#[]⟩ 0 Ax4 0 cx4 [] Ax5 0 cx5 [] none 0 none 0 _ rfl (Nat.zero_le _) rfl (Nat.zero_le _) (Sees.of_own HF4.out) Sees.none_ (Sees.of_own HF5.out) Sees.none_).mono ?_
    rintro e w5 ⟨rfl, hb5⟩
    have HBF := Lib.hid (btrans HBF.out hb5)
    clear hb5 q0 q1 q2 q3 q4 q5
    go_wp2_with fail
    refine (alive_any _).mono ?_
    rintro e w6 ⟨rfl, rfl⟩
    go_wp2
    go_ret
    exact ⟨rfl, HBF.out⟩
  · obtain ⟨hg, hl⟩ := lines_said HV.out.symm
    rw [← HR.out] at hg hl
    obtain ⟨⟨m0, m1, m2⟩, hmh, hmb⟩ := msg_max hg
    have HG := Lib.hid hg
    have HL := Lib.hid hl
    have M0 := Lib.hid m0
    have M1 := Lib.hid m1
    have M2 := Lib.hid m2
    have HMH := Lib.hid hmh
    have HMB := Lib.hid hmb
    clear hg hl m0 m1 m2 hmh hmb
    go_wp2_with fail
    refine (imv_any r.x0 r.x1 r.x2 r.x3 Ax4 r.h.length cx4 r.h Ax5 r.b.length cx5 r.b _ M0.out M1.out M2.out rfl (by unfold maxLen; omega) HMH.out rfl (by unfold maxLen; omega) HMB.out (Sees.of_own HX4.out) (Sees.of_own HX5.out)).mono ?_
    rintro e w5 ⟨rfl, hb5⟩
    rw [show msgB ⟨r.x0, r.x1, r.x2, r.x3, r.h, r.b⟩ = true from HG.out]
    have HBV := Lib.hid (btrans HBV.out hb5)
    have HO := Lib.hid (sees_call HO.out hb5)
    have HX4 := Lib.hid (own_call HX4.out hb5)
    have HX5 := Lib.hid (own_call HX5.out hb5)
    have BV := Lib.hid (BV.out.call hb5)
    clear hb5 q0 q1 q2 q3 q4 q5
    obtain ⟨q0, q1, q2, q3, q4, q5⟩ := six_cells BV.out
    go_wp2_with fail
    refine (iml_any r.x0 r.x1 r.x2 r.x3 Ax4 r.h.length cx4 r.h Ax5 r.b.length cx5 r.b _ M0.out M1.out M2.out rfl (by unfold maxLen; omega) HMH.out rfl (by unfold maxLen; omega) HMB.out (Sees.of_own HX4.out) (Sees.of_own HX5.out)).mono ?_
    rintro e w6 ⟨Az, cz, rfl, hownz, hb6⟩
    rw [show msgL ⟨r.x0, r.x1, r.x2, r.x3, r.h, r.b⟩ = ls from HL.out] at hownz ⊢
    have HBV := Lib.hid (btrans HBV.out hb6)
    have HO := Lib.hid (sees_call HO.out hb6)
    have HZ := Lib.hid hownz
    clear hb6 hownz q0 q1 q2 q3 q4 q5
    go_wp2_with fail
    refine (sameTexts_same Az A ls.length cz c ls _ rfl (by unfold maxLen; omega) (Sees.of_own HZ.out) HO.out).mono ?_
    rintro e w7 ⟨rfl, hb7⟩
    have HBV := Lib.hid (btrans HBV.out hb7)
    clear hb7
    go_wp2
    go_ret
    exact ⟨rfl, HBV.out⟩
end Go.Proofs.Ytplcdadedpbkpaa
