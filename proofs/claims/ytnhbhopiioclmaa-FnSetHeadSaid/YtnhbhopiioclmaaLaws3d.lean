/- The walks of the laws of chapter 3 over drawn inputs. -/
import Derived.Test.YtnhbhopiioclmaaLaws3
import Derived.Test.YtnhbhopiioclmaaHeadsM
import Derived.Test.YtnhbhopiioclmaaDrawHd
import Derived.Test.YtnhbhopiioclmaaAlive
namespace Go.Proofs.Ytnhbhopiioclmaa
open Go.RowKit
set_option linter.unusedVariables false

set_option maxHeartbeats 1000000 in
theorem str_ones (ls : List ByteArray) : ∀ u ∈ flat strC ls, u.oneCell' = true := by
  intro u hu
  unfold flat at hu
  rw [List.mem_flatMap] at hu
  obtain ⟨p, _, hp⟩ := hu
  simp [strC] at hp
  rw [hp]; rfl

theorem setH_max {hs : List HeadM} {nm ln : ByteArray} (h : headMax hs) (hn : nm.size ≤ maxLen) (hl : ln.size ≤ maxLen) : headMax (setH hs nm ln) := by
  have ho : headOk maxLen ⟨nm, ln⟩ := ⟨by show (nm.size : Int) ≤ (maxLen : Int); omega, by show (ln.size : Int) ≤ (maxLen : Int); omega⟩
  unfold setH
  split
  · exact max_set h ho
  · exact max_app h ho
theorem read_max {ls : List ByteArray} (h : ∀ s ∈ ls, s.size ≤ 1048576) : headMax (readR ls) := by
  unfold readR
  by_cases hv : readB ls = true
  · rw [if_pos hv]
    intro p hp
    rw [List.mem_map] at hp
    obtain ⟨s, hs, rfl⟩ := hp
    have h1 := h s hs
    have e0 : (s.extract 0 (colL s.data.toList)).size ≤ s.size := by simp; omega
    have e1 : (s.extract (colL s.data.toList + 2) s.size).size ≤ s.size := by simp
    exact ⟨by show ((s.extract 0 (colL s.data.toList)).size : Int) ≤ (maxLen : Int); unfold maxLen; omega, by show ((s.extract (colL s.data.toList + 2) s.size).size : Int) ≤ (maxLen : Int); unfold maxLen; omega⟩
  · rw [if_neg hv]; intro p hp; simp at hp

set_option maxHeartbeats 1000000 in
theorem sameTexts_same (A A2 : Option Addr) (n c c2 : Nat) (hs : List ByteArray) (w : World) (hn : n = hs.length) (hc : n ≤ maxLen) (hr : Sees w w.heap.size 1 A n (flat strC hs)) (hr2 : Sees w w.heap.size 1 A2 n (flat strC hs)) :
    Calls Try.prog 19 #[.slice A n c, .slice A2 n c2] w fun e w' => e = .returned (.bool true) ∧ Below w.heap.size w w' := by
  have HR := Lib.hid hr
  have HR2 := Lib.hid hr2
  have HN := Lib.hid hn
  clear hr hr2 hn
  unfold maxLen at hc
  go_enter Try.func19, Try.ntmps19
  go_wp2
  go_loopw [5] (fun i wr => ∃ k : Nat, k ≤ n ∧ i = .int .i64 k ∧ Below w.heap.size w wr) (fun i _ => n - (intOf i).toNat)
  case atStart => exact ⟨0, Nat.zero_le _, rfl, Below.refl _ _⟩
  case round =>
    obtain ⟨k, hk, rfl, hbel⟩ := hrel
    have HB := Lib.hid hbel
    clear hbel
    by_cases hlt : k < n
    · obtain ⟨b, off, rfl, hb, hcell⟩ := (HR.out.below HB.out (Nat.le_refl _)).2 (by omega)
      obtain ⟨b2, off2, rfl, hb2, hcell2⟩ := (HR2.out.below HB.out (Nat.le_refl _)).2 (by omega)
      obtain ⟨p, hp⟩ := get_of HN.out hlt
      have c0 := str_cell hcell hp
      have d0 := str_cell hcell2 hp
      clear hcell hb hp hcell2 hb2
      go_wp2
      go_quiet (fail)
      go_wp2
      go_roundw
      case rel => exact ⟨k + 1, by omega, by go_num, bdrewN HB.out _⟩
      case measure => simp [intOf]; omega
    · go_wp2
      go_ret
      exact ⟨rfl, HB.out⟩
theorem sameTexts_len (A A2 : Option Addr) (n m c c2 : Nat) (w : World) (hn : ¬ n = m) :
    Calls Try.prog 19 #[.slice A n c, .slice A2 m c2] w fun e w' => e = .returned (.bool false) ∧ w = w' := by
  have h1 : ((n : Int) == (m : Int)) = false := beq_eq_false_iff_ne.mpr (by omega)
  have h2 : ((n : Int) != (m : Int)) = true := bne_iff_ne.mpr (by omega)
  have h3 : ¬ (n : Int) = (m : Int) := by omega
  go_enter Try.func19, Try.ntmps19
  go_wp2
  go_ret
  exact ⟨rfl, rfl⟩

set_option maxHeartbeats 1000000 in
theorem sameHeads_same (A A2 : Option Addr) (n c c2 : Nat) (hs : List HeadM) (w : World) (hn : n = hs.length) (hc : n ≤ maxLen) (hr : Sees w w.heap.size 2 A n (flat headC hs)) (hr2 : Sees w w.heap.size 2 A2 n (flat headC hs)) :
    Calls Try.prog 22 #[.slice A n c, .slice A2 n c2] w fun e w' => e = .returned (.bool true) ∧ Below w.heap.size w w' := by
  have HR := Lib.hid hr
  have HR2 := Lib.hid hr2
  have HN := Lib.hid hn
  clear hr hr2 hn
  unfold maxLen at hc
  go_enter Try.func22, Try.ntmps22
  go_wp2
  go_loopw [5] (fun i wr => ∃ k : Nat, k ≤ n ∧ i = .int .i64 k ∧ Below w.heap.size w wr) (fun i _ => n - (intOf i).toNat)
  case atStart => exact ⟨0, Nat.zero_le _, rfl, Below.refl _ _⟩
  case round =>
    obtain ⟨k, hk, rfl, hbel⟩ := hrel
    have HB := Lib.hid hbel
    clear hbel
    by_cases hlt : k < n
    · obtain ⟨b, off, rfl, hb, hcell⟩ := (HR.out.below HB.out (Nat.le_refl _)).2 (by omega)
      obtain ⟨b2, off2, rfl, hb2, hcell2⟩ := (HR2.out.below HB.out (Nat.le_refl _)).2 (by omega)
      obtain ⟨p, hp⟩ := get_of HN.out hlt
      obtain ⟨c0, c1⟩ := head_cells hcell hp
      obtain ⟨d0, d1⟩ := head_cells hcell2 hp
      clear hcell hb hp hcell2 hb2
      go_wp2
      go_quiet (fail)
      go_wp2
      go_roundw
      case rel => exact ⟨k + 1, by omega, by go_num, bdrewN HB.out _⟩
      case measure => simp [intOf]; omega
    · go_wp2
      go_ret
      exact ⟨rfl, HB.out⟩
theorem sameHeads_len (A A2 : Option Addr) (n m c c2 : Nat) (w : World) (hn : ¬ n = m) :
    Calls Try.prog 22 #[.slice A n c, .slice A2 m c2] w fun e w' => e = .returned (.bool false) ∧ w = w' := by
  have h1 : ((n : Int) == (m : Int)) = false := beq_eq_false_iff_ne.mpr (by omega)
  have h2 : ((n : Int) != (m : Int)) = true := bne_iff_ne.mpr (by omega)
  have h3 : ¬ (n : Int) = (m : Int) := by omega
  go_enter Try.func22, Try.ntmps22
  go_wp2
  go_ret
  exact ⟨rfl, rfl⟩

set_option maxHeartbeats 2000000 in
theorem walk_FnHeadsValid (a0 : Option Addr) (len0 cap0 : Nat) (z0 : List Int) (w : World) (w0 : IsBytes w a0 len0 cap0 z0) :
    Calls Try.prog 3 #[.slice a0 len0 cap0] w fun e w' => e = .returned (.bool true) ∧ Below w.heap.size w w' := by
  obtain ⟨hlc, hcm, hb⟩ := bytes_of w0
  have HB := Lib.hid hb
  have hcm' := hcm
  unfold maxLen at hcm'
  clear w0 hb
  by_cases hbig : (1048576 : Int) < len0
  · go_enter Try.func3, Try.ntmps3
    go_wp2
    go_ret
    exact ⟨rfl, Below.refl _ _⟩
  go_enter Try.func3, Try.ntmps3
  go_wp2_with fail
  refine (drawHv_any _ _ _ _ hlc hcm HB.out).mono ?_
  rintro e w1 ⟨hs, A, c, rfl, hown, hsm, hlen, hb1⟩
  obtain ⟨i0, hi0, hz0, hz1, hz2⟩ := info_parts info_head
  have HO := Lib.hid hown
  have HM := Lib.hid (sm_max hsm)
  have HB1 := Lib.hid hb1
  have hsz := hb1.size
  clear hown hsm hb1
  obtain ⟨v, hv⟩ : ∃ v, headsB hs = v := ⟨_, rfl⟩
  have HV := Lib.hid hv
  clear hv
  go_wp2_with fail
  refine (ihv_any A hs.length c hs _ rfl (by unfold maxLen; omega) (Sees.of_own HO.out) HM.out).mono ?_
  rintro e w2 ⟨rfl, hb2⟩
  have HO := Lib.hid (own_call HO.out hb2)
  have HB1 := Lib.hid (btrans HB1.out hb2)
  have hsz := HB1.out.size
  clear hb2
  rw [HV.out]
  go_wp2_with fail
  refine (shv_any A hs.length c hs _ rfl (by unfold maxLen; omega) (Sees.of_own HO.out) HM.out).mono ?_
  rintro e w7 ⟨rfl, rfl⟩
  rw [HV.out]
  have HZ := Lib.hid (World.ownsRow_lit (base := w.heap.size) (e := 27) (size := 2) w2 #[.string ⟨#[]⟩, .string ⟨#[]⟩] 1 hsz (by unfold maxLen; omega) rfl)
  have HSE := Lib.hid ((Sees.of_own HO.out).alloc (Nat.le_refl _) (.cells #[.string ⟨#[]⟩, .string ⟨#[]⟩] 27))
  go_wp2_with (at_builtin; refine wpList_append_list rfl _ _ 23 rfl w.heap.size 27 2 32 1 hs.length c w2.heap.size i0 _ (.slice (some ⟨w2.heap.size, 0, none⟩) 1 1) [.string ⟨#[]⟩, .string ⟨#[]⟩] (flat headC hs) A Try.underlying23 hi0 hz0 hz1 hz2 rfl (by omega) rfl rfl HZ.out HSE.out (head_ones hs) (by unfold maxLen; omega) (by omega) (by simp; omega) ?_; intro v3 w8 hown3 hg3 hat3; obtain ⟨A3, c3, hv3⟩ := own_slice hown3; subst hv3; have HW3 := Lib.hid hown3; have HG3 := Lib.hid hg3; clear hown3 hg3 hat3)
  have HB3 := Lib.hid ((HB1.out.alloc HB1.out.size (.cells #[.string ⟨#[]⟩, .string ⟨#[]⟩] 27)).grown HG3.out (by simp; omega) (fun g hg => by simp [Value.ownBlock] at hg; omega))
  have HX3 : Hid (w8.ownsRow w.heap.size 27 2 (.slice A3 (1 + hs.length) c3) (1 + hs.length) (flat headC (⟨⟨#[]⟩, ⟨#[]⟩⟩ :: hs))) := HW3
  have HO3 := Lib.hid ((HO.out.alloc (.cells #[.string ⟨#[]⟩, .string ⟨#[]⟩] 27)).kept HG3.out (by
    cases hb : (Value.slice A hs.length c).ownBlock with
    | none => exact .inl rfl
    | some k => exact .inr (fun e => by have := HO.out.lt k hb; simp [Value.ownBlock] at e; omega)))
  have hbad : headsB (⟨⟨#[]⟩, ⟨#[]⟩⟩ :: hs) = false := by unfold headsB; rw [List.all_cons, show headB ⟨⟨#[]⟩, ⟨#[]⟩⟩ = false from rfl, Bool.false_and, Bool.and_false]
  have HBAD := Lib.hid hbad
  have HM3 : Hid (headMax (⟨⟨#[]⟩, ⟨#[]⟩⟩ :: hs)) := Lib.hid (fun p hp => by
    rcases List.mem_cons.mp hp with h | h
    · rw [h]; exact ⟨by show (0 : Int) ≤ _; omega, by show (0 : Int) ≤ _; omega⟩
    · exact HM.out p h)
  clear hbad
  refine (ihv_any A3 (1 + hs.length) c3 _ _ (by rw [List.length_cons]; omega) (by unfold maxLen; omega) (Sees.of_own HX3.out) HM3.out).mono ?_
  rintro e w10 ⟨rfl, hb10⟩
  have HB3 := Lib.hid (btrans HB3.out hb10)
  have HO3 := Lib.hid (own_call HO3.out hb10)
  clear hb10
  rw [HBAD.out]
  cases v
  · go_wp2_with fail
    refine (alive_any _).mono ?_
    rintro e w9 ⟨rfl, rfl⟩
    go_wp2
    go_ret
    exact ⟨rfl, HB3.out⟩
  · have hdr : headsB (hs.drop (hs.length / 2)) = true := by
      have h1 := HV.out
      unfold headsB at h1 ⊢
      rw [Bool.and_eq_true, decide_eq_true_eq] at h1 ⊢
      refine ⟨by rw [List.length_drop]; omega, ?_⟩
      rw [List.all_eq_true] at h1 ⊢
      exact fun p hp => h1.2 p (List.mem_of_mem_drop hp)
    have HDR := Lib.hid hdr
    have HMD : Hid (headMax (hs.drop (hs.length / 2))) := Lib.hid (fun p hp => HM.out p (List.mem_of_mem_drop hp))
    clear hdr
    go_wp2_with fail
    · have h0 : hs.length = 0 := by have := own_cap HO.out; omega
      refine (ihv_any A (hs.length - hs.length / 2) 0 (hs.drop (hs.length / 2)) _ (by rw [List.length_drop]) (by unfold maxLen; omega) ⟨by rw [flat_len headC_len, List.length_drop], fun h => absurd h (by omega)⟩ HMD.out).mono ?_
      rintro e w11 ⟨rfl, hb11⟩
      have HB3 := Lib.hid (btrans HB3.out hb11)
      clear hb11
      rw [HDR.out]
      go_wp2_with fail
      refine (alive_any _).mono ?_
      rintro e w9 ⟨rfl, rfl⟩
      go_wp2
      go_ret
      exact ⟨rfl, HB3.out⟩
    · have hsr := (Sees.of_own HO3.out).rest (k := hs.length / 2) (by omega)
      rw [← flat_drop headC_len] at hsr
      refine (ihv_any _ (hs.length - hs.length / 2) _ (hs.drop (hs.length / 2)) _ (by rw [List.length_drop]) (by unfold maxLen; omega) hsr HMD.out).mono ?_
      clear hsr
      rintro e w11 ⟨rfl, hb11⟩
      have HB3 := Lib.hid (btrans HB3.out hb11)
      clear hb11
      rw [HDR.out]
      go_wp2_with fail
      refine (alive_any _).mono ?_
      rintro e w9 ⟨rfl, rfl⟩
      go_wp2
      go_ret
      exact ⟨rfl, HB3.out⟩

set_option maxHeartbeats 2000000 in
theorem walk_FnHeadLines (a0 : Option Addr) (len0 cap0 : Nat) (z0 : List Int) (w : World) (w0 : IsBytes w a0 len0 cap0 z0) :
    Calls Try.prog 4 #[.slice a0 len0 cap0] w fun e w' => e = .returned (.bool true) ∧ Below w.heap.size w w' := by
  obtain ⟨hlc, hcm, hb⟩ := bytes_of w0
  have HB := Lib.hid hb
  have hcm' := hcm
  unfold maxLen at hcm'
  clear w0 hb
  by_cases hbig : (1048576 : Int) < len0
  · go_enter Try.func4, Try.ntmps4
    go_wp2
    go_ret
    exact ⟨rfl, Below.refl _ _⟩
  go_enter Try.func4, Try.ntmps4
  go_wp2_with fail
  refine (drawHl_any _ _ _ _ hlc hcm HB.out).mono ?_
  rintro e w1 ⟨hs, A, c, rfl, hown, hsm, hlen, hb1⟩
  have HOl1 := Lib.hid hown
  have HM := Lib.hid (sm_max hsm)
  have HB1 := Lib.hid hb1
  clear hown hsm hb1
  have hfew := lines_few hs
  go_wp2_with fail
  refine (ihl_any A hs.length c hs _ rfl (by unfold maxLen; omega) (Sees.of_own HOl1.out) HM.out).mono ?_
  rintro e w2 ⟨Ax, cx, rfl, hown2, hb2⟩
  have HB2 := Lib.hid (btrans HB1.out hb2)
  have HOl2 := Lib.hid (own_call HOl1.out hb2)
  have HOx2 := Lib.hid hown2
  clear hb2 hown2
  go_wp2_with fail
  refine (shl_any A hs.length c hs _ rfl (by unfold maxLen; omega) (Sees.of_own HOl2.out) HM.out).mono ?_
  rintro e w3 ⟨Ay, cy, rfl, hown3, hb3⟩
  have HB3 := Lib.hid (btrans HB2.out hb3)
  have HOl3 := Lib.hid (own_call HOl2.out hb3)
  have HOx3 := Lib.hid (own_call HOx2.out hb3)
  have HOy3 := Lib.hid hown3
  clear hb3 hown3
  go_wp2_with fail
  refine (sameTexts_same Ax Ay (linesOf hs).length cx cy (linesOf hs) _ rfl (by unfold maxLen; omega) (Sees.of_own HOx3.out) (Sees.of_own HOy3.out)).mono ?_
  rintro e w4 ⟨rfl, hb4⟩
  have HB4 := Lib.hid (btrans HB3.out hb4)
  have HOl4 := Lib.hid (own_call HOl3.out hb4)
  have HOx4 := Lib.hid (own_call HOx3.out hb4)
  have HOy4 := Lib.hid (own_call HOy3.out hb4)
  clear hb4
  by_cases hv : headsB hs = true
  · have HV := Lib.hid hv
    have hlo : linesOf hs = hs.map headL := by unfold linesOf; rw [if_pos hv]
    have HLO := Lib.hid hlo
    have HRL := Lib.hid (read_lines hv)
    clear hv hlo
    go_wp2_with fail
    refine (shv_any A hs.length c hs _ rfl (by unfold maxLen; omega) (Sees.of_own HOl4.out) HM.out).mono ?_
    rintro e w5 ⟨rfl, rfl⟩
    rw [HV.out]
    go_wp2_with fail
    refine (ird_any Ax (linesOf hs).length cx (linesOf hs) _ rfl (by unfold maxLen; omega) (Sees.of_own HOx4.out) (fun s h => by have := (lines_sm hs).1 s h; omega) hs true (by rw [HLO.out, HRL.out.2]) (by rw [HLO.out, HRL.out.1])).mono ?_
    rintro e w6 ⟨Az, cz, rfl, hown6, hb6⟩
    have HB6 := Lib.hid (btrans HB4.out hb6)
    have HOl6 := Lib.hid (own_call HOl4.out hb6)
    have HOz6 := Lib.hid hown6
    clear hb6 hown6
    go_wp2_with fail
    refine (sameHeads_same Az A hs.length cz c hs _ rfl (by unfold maxLen; omega) (Sees.of_own HOz6.out) (Sees.of_own HOl6.out)).mono ?_
    rintro e w7 ⟨rfl, hb7⟩
    have HB7 := Lib.hid (btrans HB6.out hb7)
    clear hb7
    go_wp2
    go_ret
    exact ⟨rfl, HB7.out⟩
  · have HV : Hid (headsB hs = false) := Lib.hid (by simpa using hv)
    have HLO : Hid ((linesOf hs).length = 0) := Lib.hid (by unfold linesOf; rw [if_neg hv]; rfl)
    clear hv
    go_wp2_with fail
    refine (shv_any A hs.length c hs _ rfl (by unfold maxLen; omega) (Sees.of_own HOl4.out) HM.out).mono ?_
    rintro e w5 ⟨rfl, rfl⟩
    rw [HV.out]
    have hz : (((linesOf hs).length : Int) == 0) = true := by rw [HLO.out]; rfl
    go_wp2_with fail
    refine (alive_any _).mono ?_
    rintro e w20 ⟨rfl, rfl⟩
    go_wp2
    go_ret
    exact ⟨rfl, HB4.out⟩

set_option maxHeartbeats 2000000 in
theorem walk_FnReadHeads (a0 : Option Addr) (len0 cap0 : Nat) (z0 : List Int) (w : World) (w0 : IsBytes w a0 len0 cap0 z0) :
    Calls Try.prog 5 #[.slice a0 len0 cap0] w fun e w' => e = .returned (.bool true) ∧ Below w.heap.size w w' := by
  obtain ⟨hlc, hcm, hb⟩ := bytes_of w0
  have HB := Lib.hid hb
  have hcm' := hcm
  unfold maxLen at hcm'
  clear w0 hb
  by_cases hbig : (1048576 : Int) < len0
  · go_enter Try.func5, Try.ntmps5
    go_wp2
    go_ret
    exact ⟨rfl, Below.refl _ _⟩
  go_enter Try.func5, Try.ntmps5
  go_wp2_with fail
  refine (drawRh_any _ _ _ _ hlc hcm HB.out).mono ?_
  rintro e w1 ⟨ls, A, c, rfl, hown, hsm, hlen, hb1⟩
  obtain ⟨i0, hi0, hz0, hz1, hz2⟩ := info_parts info_string
  have HOl1 := Lib.hid hown
  have HS := Lib.hid hsm
  have HB1 := Lib.hid hb1
  clear hown hsm hb1
  have hfew := read_few ls
  have HS2 : Hid (∀ s ∈ ls, s.size ≤ 1048576) := Lib.hid (fun s h => by have := HS.out s h; omega)
  go_wp2_with fail
  refine (ird_any A ls.length c ls _ rfl (by unfold maxLen; omega) (Sees.of_own HOl1.out) HS2.out (readR ls) (readB ls) rfl rfl).mono ?_
  rintro e w2 ⟨Ax, cx, rfl, hown2, hb2⟩
  have HB2 := Lib.hid (btrans HB1.out hb2)
  have HOl2 := Lib.hid (own_call HOl1.out hb2)
  have HOx2 := Lib.hid hown2
  clear hb2 hown2
  go_wp2_with fail
  refine (srd_any A ls.length c ls _ rfl (by unfold maxLen; omega) (Sees.of_own HOl2.out) HS2.out (readR ls) (readB ls) rfl rfl).mono ?_
  rintro e w3 ⟨Ay, cy, rfl, hown3, hb3⟩
  have HB3 := Lib.hid (btrans HB2.out hb3)
  have HOl3 := Lib.hid (own_call HOl2.out hb3)
  have HOx3 := Lib.hid (own_call HOx2.out hb3)
  have HOy3 := Lib.hid hown3
  clear hb3 hown3
  go_wp2_with fail
  refine (sameHeads_same Ax Ay (readR ls).length cx cy (readR ls) _ rfl (by unfold maxLen; omega) (Sees.of_own HOx3.out) (Sees.of_own HOy3.out)).mono ?_
  rintro e w4 ⟨rfl, hb4⟩
  have HB4 := Lib.hid (btrans HB3.out hb4)
  have HOl4 := Lib.hid (own_call HOl3.out hb4)
  have HOx4 := Lib.hid (own_call HOx3.out hb4)
  have HOy4 := Lib.hid (own_call HOy3.out hb4)
  clear hb4
  by_cases hv : readB ls = true
  · have HMT : Hid (∀ s ∈ ls ++ [⟨#[]⟩], s.size ≤ 1048576) := Lib.hid (fun s h => by
      rcases List.mem_append.mp h with h | h
      · exact HS2.out s h
      · rw [List.mem_singleton.mp h]; exact Nat.zero_le _)
    have HRE := Lib.hid (read_empty ls)
    have HLR := Lib.hid (lines_read hv)
    have HZ := Lib.hid (World.ownsRow_lit (base := w4.heap.size) (e := 9) (size := 1) w4 #[] 0 (Nat.le_refl _) (Nat.zero_le _) rfl)
    have HSE := Lib.hid ((Sees.of_own HOl4.out).alloc (Nat.le_refl _) (.cells #[] 9))
    have HON := Lib.hid (str_ones ls)
    go_wp2_with (first
      | (at_builtin; refine wpList_append_list rfl _ _ 30 rfl w4.heap.size 9 1 16 0 ls.length c w4.heap.size i0 _ (.slice (some ⟨w4.heap.size, 0, none⟩) 0 0) [] (flat strC ls) A Try.underlying30 hi0 hz0 hz1 hz2 rfl (by omega) rfl rfl HZ.out HSE.out HON.out (by unfold maxLen; omega) (by omega) (by simp) ?_; intro v5 w5 hown5 hg5 hat5; simp only [Nat.zero_add, List.nil_append] at hown5; obtain ⟨A5, c5, hv5⟩ := own_slice hown5; subst hv5; have HW5 := Lib.hid hown5; have HG5 := Lib.hid hg5; have hsz5 := hg5.size; clear hown5 hg5 hat5)
      | (at_builtin; refine wpList_append_own _ rfl _ _ 30 rfl w4.heap.size 9 i0 _ 1 16 Try.underlying30 hi0 hz0 hz1 hz2 rfl (by omega) (.slice A5 ls.length c5) ls.length (flat strC ls) rfl (HW5.out.alloc _) ⟨w5.heap.size, 0, none⟩ 1 1 [.string ⟨#[]⟩] rfl rfl (World.news_of_block (cs := #[.string ⟨#[]⟩]) (t := 9) (fr := (0, 0)) (heap_alloc_new w5 _)) (by simp [Value.oneCell']) (by unfold maxLen; omega) (by omega) (by simp at hsz5 ⊢; omega) ?_; intro v6 w6 hown6 hg6 _; obtain ⟨A6, c6, hv6⟩ := own_slice hown6; subst hv6; have HW6 := Lib.hid hown6; have HG6 := Lib.hid hg6; clear hown6 hg6))
    have hg45 := HG5.out
    have hb5 : Below w4.heap.size w4 w5 := (bnew w4 (.cells #[] 9)).grown hg45 (by simp) (fun g hg => by simp [Value.ownBlock] at hg; omega)
    have hb6 : Below w4.heap.size w4 w6 := (hb5.alloc hb5.size (.cells #[.string ⟨#[]⟩] 9)).grown HG6.out (by have := hb5.size; simp; omega) (fun g hg => (HW5.out.lt g hg).1)
    have HB6 := Lib.hid (btrans HB4.out hb6)
    have HOl6 := Lib.hid (own_call HOl4.out hb6)
    have HOx6 := Lib.hid (own_call HOx4.out hb6)
    have HOt6 : Hid (w6.ownsRow w4.heap.size 9 1 (.slice A6 (ls.length + 1) c6) (ls.length + 1) (flat strC (ls ++ [⟨#[]⟩]))) := Lib.hid (by rw [flat_append, flat_one]; exact HW6.out)
    clear hg45 hb5 hb6
    refine (ird_any A6 (ls.length + 1) c6 (ls ++ [⟨#[]⟩]) _ (by rw [List.length_append]; rfl) (by unfold maxLen; omega) (Sees.of_own HOt6.out) HMT.out [] false (by unfold readR; rw [HRE.out]; rfl) (by rw [HRE.out])).mono ?_
    rintro e w7 ⟨A7, c7, rfl, hown7, hb7⟩
    have HB7 := Lib.hid (btrans HB6.out hb7)
    have HOl7 := Lib.hid (own_call HOl6.out hb7)
    have HOx7 := Lib.hid (own_call HOx6.out hb7)
    clear hb7 hown7
    have HMX : Hid (headMax (readR ls)) := Lib.hid (read_max HS2.out)
    go_wp2_with fail
    refine (ihl_any Ax (readR ls).length cx (readR ls) _ rfl (by unfold maxLen; omega) (Sees.of_own HOx7.out) HMX.out).mono ?_
    rintro e w8 ⟨A8, c8, rfl, hown8, hb8⟩
    have HB8 := Lib.hid (btrans HB7.out hb8)
    have HOl8 := Lib.hid (own_call HOl7.out hb8)
    have HOh8 := Lib.hid hown8
    clear hb8 hown8
    have HLL : Hid ((linesOf (readR ls)).length = ls.length) := Lib.hid (by rw [HLR.out])
    have hsh := HOh8.out
    rw [HLR.out] at hsh
    have HSH := Lib.hid hsh
    clear hsh
    rw [HLR.out]
    go_wp2_with fail
    refine (sameTexts_same A8 A ls.length c8 c ls _ rfl (by unfold maxLen; omega) (Sees.of_own HSH.out) (Sees.of_own HOl8.out)).mono ?_
    rintro e w9 ⟨rfl, hb9⟩
    have HB9 := Lib.hid (btrans HB8.out hb9)
    clear hb9
    go_wp2
    go_ret
    exact ⟨rfl, HB9.out⟩
  · have hvf : readB ls = false := by simpa using hv
    have hz : (((readR ls).length : Int) == 0) = true := by unfold readR; rw [if_neg hv]; rfl
    clear hv
    go_wp2_with fail
    refine (alive_any _).mono ?_
    rintro e w20 ⟨rfl, rfl⟩
    go_wp2
    go_ret
    exact ⟨rfl, HB4.out⟩

set_option maxHeartbeats 2000000 in
theorem walk_FnFirstHead (a0 : Option Addr) (len0 cap0 : Nat) (z0 : List Int) (w : World) (w0 : IsBytes w a0 len0 cap0 z0) :
    Calls Try.prog 6 #[.slice a0 len0 cap0] w fun e w' => e = .returned (.bool true) ∧ Below w.heap.size w w' := by
  obtain ⟨hlc, hcm, hb⟩ := bytes_of w0
  have HB := Lib.hid hb
  have hcm' := hcm
  unfold maxLen at hcm'
  clear w0 hb
  by_cases hbig : (1048576 : Int) < len0
  · go_enter Try.func6, Try.ntmps6
    go_wp2
    go_ret
    exact ⟨rfl, Below.refl _ _⟩
  go_enter Try.func6, Try.ntmps6
  go_wp2_with fail
  refine (drawFh_any _ _ _ _ hlc hcm HB.out).mono ?_
  rintro e w1 ⟨hs, A, c, nm, rfl, hnm, hown, hsm, hlen, hb1⟩
  have HOl1 := Lib.hid hown
  have HM := Lib.hid (sm_max hsm)
  have HB1 := Lib.hid hb1
  clear hown hsm hb1
  obtain ⟨s, hs0⟩ : ∃ s, s = fLine (firstH hs nm) := ⟨_, rfl⟩
  obtain ⟨b, hb0⟩ : ∃ b, b = fThere (firstH hs nm) := ⟨_, rfl⟩
  have HSS := Lib.hid hs0
  have HBB := Lib.hid hb0
  have hci : ∀ W : World, Sees W W.heap.size 2 A hs.length (flat headC hs) → Calls Try.prog 26 #[.slice A hs.length c, .string nm] W fun e w' => e = .returned (.tuple #[.string s, .bool b]) ∧ Below W.heap.size W w' := by
    intro W hr; rw [hs0, hb0]; exact ifh_two A hs.length c hs nm W rfl (by unfold maxLen; omega) hr HM.out
  have hcs : ∀ W : World, Sees W W.heap.size 2 A hs.length (flat headC hs) → Calls Try.prog 27 #[.slice A hs.length c, .string nm] W fun e w' => e = .returned (.tuple #[.string s, .bool b]) ∧ W = w' := by
    intro W hr; rw [hs0, hb0]; exact sfh_two A hs.length c hs nm W rfl (by unfold maxLen; omega) hr HM.out
  have HCI := Lib.hid hci
  have HCS := Lib.hid hcs
  clear hci hcs hs0 hb0
  go_wp2_with fail
  refine (HCI.out _ (Sees.of_own HOl1.out)).mono ?_
  rintro e w2 ⟨rfl, hb2⟩
  have HOl1 := Lib.hid (own_call HOl1.out hb2)
  have HB1 := Lib.hid (btrans HB1.out hb2)
  clear hb2
  go_wp2_with fail
  refine (HCS.out _ (Sees.of_own HOl1.out)).mono ?_
  rintro e w3 ⟨rfl, rfl⟩
  obtain ⟨v, hv⟩ : ∃ v, headsB hs = v := ⟨_, rfl⟩
  have HV := Lib.hid hv
  have hcv : ∀ W : World, Sees W W.heap.size 2 A hs.length (flat headC hs) → Calls Try.prog 14 #[.slice A hs.length c] W fun e w' => e = .returned (.bool v) ∧ Below W.heap.size W w' := by
    intro W hr
    have := ihv_any A hs.length c hs W rfl (by unfold maxLen; omega) hr HM.out
    rw [hv] at this; exact this
  have HCV := Lib.hid hcv
  obtain ⟨n, hn⟩ : ∃ n, n = hs.length := ⟨_, rfl⟩
  have HN := Lib.hid hn
  have HOn := HOl1.out
  rw [← hn] at HOn HCV hlen ⊢
  have HOQ := Lib.hid HOn
  clear hcv hv hn HOn
  go_wp2
  go_loopw [9] (fun i wr => ∃ k : Nat, k ≤ n ∧ i = .int .i64 k ∧ (∀ p ∈ hs.take k, nameB nm p = false) ∧ wr.ownsRow w.heap.size 27 2 (.slice A n c) n (flat headC hs) ∧ Below w.heap.size w wr) (fun i _ => n - (intOf i).toNat)
  case atStart => exact ⟨0, Nat.zero_le _, rfl, (fun p hp => by simp at hp), HOQ.out, HB1.out⟩
  case round =>
    obtain ⟨k, hk, rfl, hall, hown, hbel⟩ := hrel
    have HA := Lib.hid hall
    have HOW := Lib.hid hown
    have HBW := Lib.hid hbel
    clear hall hown hbel
    by_cases hlt : k < n
    · obtain ⟨bb, off, hA, hbb, hcell⟩ := (Sees.of_own HOW.out).2 (by omega)
      subst hA
      obtain ⟨p, hp⟩ := get_of HN.out hlt
      have HP := Lib.hid hp
      obtain ⟨c0, c1⟩ := head_cells hcell hp
      clear hcell hp
      go_wp2_with fail
      refine (HCV.out _ (Sees.of_own HOW.out)).mono ?_
      rintro e w2 ⟨rfl, hb2⟩
      rw [← hb2.cell (p := ⟨bb, off + k * 2, none⟩) hbb] at c0
      rw [← hb2.cell (p := ⟨bb, off + k * 2 + 1, none⟩) hbb] at c1
      have HOW := Lib.hid (own_call HOW.out hb2)
      have HBW := Lib.hid (btrans HBW.out hb2)
      clear hb2 hbb
      cases v
      · have hf : firstH hs nm = none := by unfold firstH; rw [HV.out, if_neg (by simp)]
        obtain rfl : s = ⟨#[]⟩ := by rw [HSS.out, hf]; rfl
        obtain rfl : b = false := by rw [HBB.out, hf]; rfl
        clear hf
        go_wp2_with fail
        refine (alive_any _).mono ?_
        rintro e w20 ⟨rfl, rfl⟩
        go_wp2
        go_ret
        exact ⟨rfl, HBW.out⟩
      · obtain ⟨t, ht⟩ : ∃ t, nameB nm p = t := ⟨_, rfl⟩
        have HT := Lib.hid ht
        have h5 : (p.x0.toList == nm.toList) = t := ht
        clear ht
        cases t
        · go_wp2
          go_roundw
          case rel => exact ⟨k + 1, by omega, by go_num, mem_more HP.out HA.out HT.out, HOW.out, HBW.out⟩
          case measure => simp [intOf]; omega
        · have hf : firstH hs nm = some p := by unfold firstH; rw [HV.out, if_pos rfl, take_none HP.out HA.out HT.out]
          obtain rfl : s = p.x1 := by rw [HSS.out, hf]; rfl
          obtain rfl : b = true := by rw [HBB.out, hf]; rfl
          clear hf
          go_wp2
          go_ret
          exact ⟨rfl, HBW.out⟩
    · have h1 := HA.out
      rw [take_all HN.out hlt] at h1
      have hf : firstH hs nm = none := by
        unfold firstH
        rw [find_none h1]
        split <;> rfl
      clear h1
      obtain rfl : s = ⟨#[]⟩ := by rw [HSS.out, hf]; rfl
      obtain rfl : b = false := by rw [HBB.out, hf]; rfl
      clear hf
      go_wp2_with fail
      refine (alive_any _).mono ?_
      rintro e w20 ⟨rfl, rfl⟩
      go_wp2
      go_ret
      exact ⟨rfl, HBW.out⟩

set_option maxHeartbeats 4000000 in
theorem walk_FnSetHead (a0 : Option Addr) (len0 cap0 : Nat) (z0 : List Int) (w : World) (w0 : IsBytes w a0 len0 cap0 z0) :
    Calls Try.prog 7 #[.slice a0 len0 cap0] w fun e w' => e = .returned (.bool true) ∧ Below w.heap.size w w' := by
  obtain ⟨hlc, hcm, hb⟩ := bytes_of w0
  have HB := Lib.hid hb
  have hcm' := hcm
  unfold maxLen at hcm'
  clear w0 hb
  by_cases hbig : (1048576 : Int) < len0
  · go_enter Try.func7, Try.ntmps7
    go_wp2
    go_ret
    exact ⟨rfl, Below.refl _ _⟩
  go_enter Try.func7, Try.ntmps7
  go_wp2_with fail
  refine (drawSh_any _ _ _ _ hlc hcm HB.out).mono ?_
  rintro e w1 ⟨hs, A, c, nm, ln, rfl, hnm, hln, hown, hsm, hlen, hb1⟩
  have HOl1 := Lib.hid hown
  have HM := Lib.hid (sm_max hsm)
  have HB1 := Lib.hid hb1
  have HNM : Hid (nm.size ≤ maxLen) := Lib.hid (by unfold maxLen; omega)
  have HLM : Hid (ln.size ≤ maxLen) := Lib.hid (by unfold maxLen; omega)
  clear hown hsm hb1
  have hfew := set_few hs nm ln
  obtain ⟨v, hv⟩ : ∃ v, setOk hs nm ln = v := ⟨_, rfl⟩
  have HV := Lib.hid hv
  clear hv
  go_wp2_with fail
  refine (iset_any A hs.length c hs nm ln _ rfl (by unfold maxLen; omega) (Sees.of_own HOl1.out) HM.out HNM.out HLM.out).mono ?_
  rintro e w2 ⟨Ax, cx, rfl, hown2, hb2⟩
  have HB2 := Lib.hid (btrans HB1.out hb2)
  have HOl2 := Lib.hid (own_call HOl1.out hb2)
  have HOx2 := Lib.hid hown2
  clear hb2 hown2
  rw [HV.out]
  go_wp2_with fail
  refine (sset_any A hs.length c hs nm ln _ rfl (by unfold maxLen; omega) (Sees.of_own HOl2.out) HM.out HNM.out HLM.out).mono ?_
  rintro e w3 ⟨Ay, cy, rfl, hown3, hb3⟩
  have HB3 := Lib.hid (btrans HB2.out hb3)
  have HOl3 := Lib.hid (own_call HOl2.out hb3)
  have HOx3 := Lib.hid (own_call HOx2.out hb3)
  have HOy3 := Lib.hid hown3
  clear hb3 hown3
  rw [HV.out]
  go_wp2_with fail
  refine (sameHeads_same Ax Ay (setN hs nm ln).length cx cy (setN hs nm ln) _ rfl (by unfold maxLen; omega) (Sees.of_own HOx3.out) (Sees.of_own HOy3.out)).mono ?_
  rintro e w4 ⟨rfl, hb4⟩
  have HB4 := Lib.hid (btrans HB3.out hb4)
  have HOl4 := Lib.hid (own_call HOl3.out hb4)
  have HOx4 := Lib.hid (own_call HOx3.out hb4)
  have HOy4 := Lib.hid (own_call HOy3.out hb4)
  clear hb4
  cases v
  · by_cases hval : headsB hs = true
    · have hset : setN hs nm ln = hs := by
        have h1 := HV.out
        unfold setOk at h1
        rw [hval, Bool.true_and] at h1
        unfold setN
        rw [if_pos hval, if_neg (by rw [h1]; simp)]
      have hox := HOx4.out
      rw [hset] at hox
      have HOX := Lib.hid hox
      rw [hset]
      clear hval hset hox
      go_wp2_with fail
      refine (sameHeads_same Ax A hs.length cx c hs _ rfl (by unfold maxLen; omega) (Sees.of_own HOX.out) (Sees.of_own HOl4.out)).mono ?_
      rintro e w5 ⟨rfl, hb5⟩
      have HB5 := Lib.hid (btrans HB4.out hb5)
      clear hb5
      go_wp2_with fail
      refine (alive_any _).mono ?_
      rintro e w20 ⟨rfl, rfl⟩
      go_wp2
      go_ret
      exact ⟨rfl, HB5.out⟩
    · have hset : setN hs nm ln = [] := by unfold setN; rw [if_neg hval]
      have hne : ¬ 0 = hs.length := by
        intro e
        have : hs = [] := List.eq_nil_of_length_eq_zero e.symm
        rw [this] at hval
        exact hval rfl
      have HNE := Lib.hid hne
      rw [hset]
      clear hval hset hne
      go_wp2_with fail
      refine (sameHeads_len Ax A 0 hs.length cx c _ HNE.out).mono ?_
      rintro e w5 ⟨rfl, rfl⟩
      go_wp2_with fail
      refine (alive_any _).mono ?_
      rintro e w20 ⟨rfl, rfl⟩
      go_wp2
      go_ret
      exact ⟨rfl, HB4.out⟩
  · have hval : headsB hs = true ∧ headsB (setH hs nm ln) = true := by
      have h1 := HV.out
      unfold setOk at h1
      rwa [Bool.and_eq_true] at h1
    have hset : setN hs nm ln = setH hs nm ln := by unfold setN; rw [if_pos hval.1, if_pos hval.2]
    have HVAL := Lib.hid hval
    have hox := HOx4.out
    rw [hset] at hox
    have HOx4 := Lib.hid hox
    rw [hset] at hfew ⊢
    have hf1 : fLine (firstH (setH hs nm ln) nm) = ln ∧ fThere (firstH (setH hs nm ln) nm) = true := by
      unfold firstH; rw [if_pos hval.2, find_setH]; exact ⟨rfl, rfl⟩
    have HF1 := Lib.hid hf1
    have hag : setN (setH hs nm ln) nm ln = setH hs nm ln ∧ setOk (setH hs nm ln) nm ln = true := by
      unfold setN setOk
      rw [setH_again, hval.2]
      exact ⟨rfl, rfl⟩
    have HAG := Lib.hid hag
    obtain ⟨b, hb0⟩ : ∃ b, fThere (firstH hs nm) = b := ⟨_, rfl⟩
    have HBB := Lib.hid hb0
    have hlenx : (setH hs nm ln).length = if b = true then hs.length else hs.length + 1 := by
      rw [setH_len, ← hb0]
      unfold firstH fThere
      rw [if_pos hval.1]
    have HLX := Lib.hid hlenx
    have HMX : Hid (headMax (setH hs nm ln)) := Lib.hid (setH_max HM.out HNM.out HLM.out)
    clear hval hset hox hf1 hag hb0 hlenx
    go_wp2_with fail
    refine (ifh_two Ax (setH hs nm ln).length cx (setH hs nm ln) nm _ rfl (by unfold maxLen; omega) (Sees.of_own HOx4.out) HMX.out).mono ?_
    rintro e w5 ⟨rfl, hb5⟩
    have HB4 := Lib.hid (btrans HB4.out hb5)
    have HOl4 := Lib.hid (own_call HOl4.out hb5)
    have HOx4 := Lib.hid (own_call HOx4.out hb5)
    clear hb5
    rw [HF1.out.1, HF1.out.2]
    go_wp2_with fail
    refine (ifh_two A hs.length c hs nm _ rfl (by unfold maxLen; omega) (Sees.of_own HOl4.out) HM.out).mono ?_
    rintro e w15 ⟨rfl, hb15⟩
    have HB4 := Lib.hid (btrans HB4.out hb15)
    have HOx4 := Lib.hid (own_call HOx4.out hb15)
    clear hb15
    rw [HBB.out]
    go_wp2_with fail
    refine (iset_any Ax (setH hs nm ln).length cx (setH hs nm ln) nm ln _ rfl (by unfold maxLen; omega) (Sees.of_own HOx4.out) HMX.out HNM.out HLM.out).mono ?_
    rw [HAG.out.1, HAG.out.2]
    rintro e w6 ⟨Az, cz, rfl, hown6, hb6⟩
    have HB6 := Lib.hid (btrans HB4.out hb6)
    have HOx6 := Lib.hid (own_call HOx4.out hb6)
    have HOz6 := Lib.hid hown6
    clear hb6 hown6
    have hihv : ∀ W : World, Sees W W.heap.size 2 Ax (setH hs nm ln).length (flat headC (setH hs nm ln)) → Calls Try.prog 14 #[.slice Ax (setH hs nm ln).length cx] W fun e w' => e = .returned (.bool true) ∧ Below W.heap.size W w' := by
      intro W hr
      have := ihv_any Ax (setH hs nm ln).length cx _ W rfl (by unfold maxLen; omega) hr HMX.out
      rw [HVAL.out.2] at this; exact this
    have HIH := Lib.hid hihv
    clear hihv
    go_wp2_with fail
    refine (HIH.out _ (Sees.of_own HOx6.out)).mono ?_
    rintro e w17 ⟨rfl, hb17⟩
    have HB6 := Lib.hid (btrans HB6.out hb17)
    have HOx6 := Lib.hid (own_call HOx6.out hb17)
    have HOz6 := Lib.hid (own_call HOz6.out hb17)
    clear hb17
    go_wp2_with fail
    refine (sameHeads_same Az Ax (setH hs nm ln).length cz cx _ _ rfl (by unfold maxLen; omega) (Sees.of_own HOz6.out) (Sees.of_own HOx6.out)).mono ?_
    rintro e w7 ⟨rfl, hb7⟩
    have HB7 := Lib.hid (btrans HB6.out hb7)
    clear hb7
    cases b
    · have hl : (setH hs nm ln).length = hs.length + 1 := by rw [HLX.out]; rfl
      have h8 : (((setH hs nm ln).length : Int) == (hs.length : Int) + 1) = true := by rw [beq_iff_eq, hl]; omega
      have h9 : ((setH hs nm ln).length : Int) = (hs.length : Int) + 1 := by rw [hl]; omega
      clear hl
      go_wp2
      go_ret
      exact ⟨ret_bool (by simp), HB7.out⟩
    · have hl : (setH hs nm ln).length = hs.length := by rw [HLX.out]; rfl
      have h8 : (((setH hs nm ln).length : Int) == (hs.length : Int) + 1) = false := by rw [beq_eq_false_iff_ne, hl]; omega
      clear hl
      go_wp2
      go_ret
      exact ⟨ret_bool (by simp), HB7.out⟩
end Go.Proofs.Ytnhbhopiioclmaa
