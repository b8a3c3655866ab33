/- The contracts of the laws' helpers for Head and lists of it. Written by gen_t.py. -/
import Derived.Test.YtfkhnfbmpjgjgaaTString
import Derived.Test.YtfkhnfbmpjgjgaaOpen
namespace Go.Proofs.Ytfkhnfbmpjgjgaa
open Go.RowKit
set_option linter.unusedVariables false

structure HeadM where
  x0 : ByteArray
  x1 : ByteArray

def headC (p : HeadM) : List Value := [.string p.x0, .string p.x1]
def headV (p : HeadM) : Value := .agg #[.string p.x0, .string p.x1]
theorem headC_len (p : HeadM) : (headC p).length = 2 := rfl
theorem info_head : (Try.prog.info? 43).map (fun i => (i.zero, i.size, i.bytes)) = some (some (.agg #[.string ⟨#[]⟩, .string ⟨#[]⟩]), 2, 32) := by kernel_rfl
theorem head_cells {w : World} {b off : Nat} {hs : List HeadM} (hc : ∀ j u, (flat headC hs)[j]? = some u → w.cell? ⟨b, off + j, none⟩ = some u) {k : Nat} {p : HeadM} (hk : hs[k]? = some p) :
    w.cell? ⟨b, off + k * 2, none⟩ = some (.string p.x0) ∧ w.cell? ⟨b, off + k * 2 + 1, none⟩ = some (.string p.x1) :=
  ⟨hc (k * 2 + 0) _ (flat_get headC_len hs hk rfl), hc (k * 2 + 1) _ (flat_get headC_len hs hk rfl)⟩
/-- The texts of an element. -/
def headOk (M : Int) (p : HeadM) : Prop := (p.x0.size : Int) ≤ M ∧ (p.x1.size : Int) ≤ M
def headsOk (M : Int) (hs : List HeadM) : Prop := (hs.length : Int) ≤ M ∧ ∀ p ∈ hs, headOk M p
def headMax (hs : List HeadM) : Prop := ∀ p ∈ hs, headOk maxLen p

/-- An argument that is a list of Head. -/
theorem head_open {H : Type} {enc : TypeId × Value → H} {w : World} {a : Option Addr} {len cap : Nat} {d : DataW H} {p : List MemPlace} (h : DataW.Trod enc Try.prog w 0 (fun _ => true) true 45 (.slice a len cap) d p) :
    ∃ hs : List HeadM, len = hs.length ∧ len ≤ maxLen ∧ Sees w w.heap.size 2 a len (flat headC hs) ∧ headMax hs :=
  open_rows (C := headC) (ok := fun q => headOk maxLen q) Try.underlying45 (by kernel_rfl) headC_len (by omega) (fun n cs x hx => by
    obtain ⟨hl, n', hf⟩ := open_fields Try.underlying97 (by kernel_rfl) (by kernel_rfl) hx
    match cs, hl with
    | [c0, c1], _ =>
      obtain ⟨_, y0, e0, h0⟩ := hf 0 _ rfl
      injection e0 with e0
      subst e0
      obtain ⟨s0, e0, _, w0⟩ := DataW.trod_string Try.underlying9 h0
      injection e0 with e0
      subst e0
      obtain ⟨_, y1, e1, h1⟩ := hf 1 _ rfl
      injection e1 with e1
      subst e1
      obtain ⟨s1, e1, _, w1⟩ := DataW.trod_string Try.underlying9 h1
      injection e1 with e1
      subst e1
      exact ⟨⟨s0, s1⟩, rfl, ⟨by show (s0.size : Int) ≤ (maxLen : Int); omega, by show (s1.size : Int) ≤ (maxLen : Int); omega⟩⟩) h
set_option maxHeartbeats 1000000 in
theorem toHead_any (p : HeadM) (w : World) :
    Calls Try.prog 87 #[.agg #[.string p.x0, .string p.x1]] w fun e w' => e = .returned (.agg #[.string p.x0, .string p.x1]) ∧ Below w.heap.size w w' := by
  go_enter Try.func87, Try.ntmps87
  go_wp2
  refine bodyPost_ret (v := .agg #[.string p.x0, .string p.x1]) (by simp [results, Try.results87, go_sem]) rfl ⟨rfl, ?_⟩
  repeat (first | exact Below.refl _ _ | refine Below.setCell ?_ (by simp <;> omega) _ | refine Below.alloc ?_ (by simp <;> omega) _)
set_option maxHeartbeats 1000000 in
theorem eqHead_same (p : HeadM) (w : World) :
    Calls Try.prog 88 #[.agg #[.string p.x0, .string p.x1], .agg #[.string p.x0, .string p.x1]] w fun e w' => e = .returned (.bool true) ∧ Below w.heap.size w w' := by
  go_enter Try.func88, Try.ntmps88
  go_wp2
  go_ret
  refine ⟨rfl, ?_⟩
  repeat (first | exact Below.refl _ _ | refine Below.setCell ?_ (by simp <;> omega) _ | refine Below.alloc ?_ (by simp <;> omega) _)
set_option maxHeartbeats 1000000 in
theorem szHead_any (p : HeadM) (left : Int) (w : World) (hl0 : 0 ≤ left) (hl : left ≤ 1048576) (hm : headOk maxLen p) :
    Calls Try.prog 86 #[.agg #[.string p.x0, .string p.x1], .int .i64 left] w (SzP left (headOk left p) w) := by
  obtain ⟨x0, x1⟩ := p
  unfold headOk at hm
  have hm0 : x0.size ≤ maxLen := by have h : (x0.size : Int) ≤ (maxLen : Int) := hm.1; omega
  have hm1 : x1.size ≤ maxLen := by have h : (x1.size : Int) ≤ (maxLen : Int) := hm.2; omega
  clear hm
  unfold maxLen at hm0 hm1
  by_cases h0 : left - (x0.size : Int) < 0
  · go_enter Try.func86, Try.ntmps86
    go_wp2
    go_ret
    exact ⟨_, rfl, .inl (by omega), bnew _ _⟩
  by_cases h1 : left - (x0.size : Int) - (x1.size : Int) < 0
  · go_enter Try.func86, Try.ntmps86
    go_wp2
    go_ret
    exact ⟨_, rfl, .inl (by omega), bnew _ _⟩
  go_enter Try.func86, Try.ntmps86
  go_wp2
  go_ret
  exact ⟨_, rfl, .inr ⟨by omega, by omega, ⟨by show (x0.size : Int) ≤ left; omega, by show (x1.size : Int) ≤ left; omega⟩⟩, bnew _ _⟩
set_option maxHeartbeats 1000000 in
theorem toHeadS_any (A : Option Addr) (n c : Nat) (hs : List HeadM) (w : World) (hn : n = hs.length) (hc : n ≤ 2097152) (hr : Sees w w.heap.size 2 A n (flat headC hs)) :
    Calls Try.prog 68 #[.slice A n c] w fun e w' => e = .returned (.slice (some ⟨w.heap.size, 0, none⟩) n n) ∧ w'.ownsRow w.heap.size 43 2 (.slice (some ⟨w.heap.size, 0, none⟩) n n) n (flat headC hs) ∧ Below w.heap.size w w' := by
  obtain ⟨cs, hcs, hmk⟩ := made_row (P := Try.prog) 25 43 _ 2 32 Try.underlying25 info_head n (by omega) (by omega)
  have HR := Lib.hid hr
  have HN := Lib.hid hn
  have HO := Lib.hid (World.ownsRow_lit (base := w.heap.size) (e := 43) (size := 2) w cs n (Nat.le_refl _) (by unfold maxLen; omega) hcs)
  have HCS : Hid (cs.toList.length = n * 2) := Lib.hid (by simpa using hcs)
  clear hr hn hcs
  go_enter Try.func68, Try.ntmps68
  go_wp2
  clear hmk
  go_loopw [4] (fun i wr => ∃ k : Nat, ∃ ys : List Value, k ≤ n ∧ i = .int .i64 k ∧ ys.length = n * 2 ∧ ys.take (k * 2) = flat headC (hs.take k) ∧ wr.ownsRow w.heap.size 43 2 (.slice (some ⟨w.heap.size, 0, none⟩) n n) n ys ∧ Below w.heap.size w wr) (fun i _ => n - (intOf i).toNat)
  case atStart => exact ⟨0, _, Nat.zero_le _, rfl, HCS.out, by rw [Nat.zero_mul]; rfl, HO.out, bnew _ _⟩
  case round =>
    obtain ⟨k, ys, hk, rfl, hy, ht, hown, hbel⟩ := hrel
    have HY := Lib.hid hy
    have HT := Lib.hid ht
    have HW := Lib.hid hown
    have HB := Lib.hid hbel
    clear hy ht hown hbel
    by_cases hlt : k < n
    · obtain ⟨b, off, rfl, hb, hcell⟩ := (HR.out.below HB.out (Nat.le_refl _)).2 (by omega)
      obtain ⟨p, hp⟩ := get_of HN.out hlt
      have HP := Lib.hid hp
      obtain ⟨c0, c1⟩ := head_cells hcell hp
      clear hcell hb hp
      go_wp2_with fail
      refine (toHead_any p _).mono ?_
      rintro e w1 ⟨rfl, hb1⟩
      have HW1 := Lib.hid (own_call HW.out hb1)
      have HB1 := Lib.hid (btrans HB.out hb1)
      obtain ⟨u0, d0⟩ := own_some HW1.out (j := k * 2) (by omega)
      have f0 := HW1.out.frozenAt (k * 2)
      obtain ⟨u1, d1⟩ := own_some HW1.out (j := k * 2 + 1) (by omega)
      have f1 := HW1.out.frozenAt (k * 2 + 1)
      clear hb1
      go_wp2
      go_roundw
      case rel =>
        have hs0 := HW1.out.stored (k * 2) (.string p.x0)
        have hs1 := hs0.1.stored (k * 2 + 1) (.string p.x1)
        have := fill_step headC_len HY.out HN.out HT.out HP.out
        simp only [setAll, headC] at this
        refine ⟨k + 1, _, by omega, by go_num, this.1, this.2, hs1.1, ?_⟩
        repeat (first | exact HB1.out | refine Below.setCell ?_ (by simp) _)
      case measure => simp [intOf]; omega
    · go_wp2
      go_ret
      refine ⟨rfl, ?_, HB.out⟩
      rw [← fill_end HY.out HN.out HT.out hlt hk]
      exact HW.out
set_option maxHeartbeats 1000000 in
theorem eqHeadS_same (A A2 : Option Addr) (n c c2 : Nat) (hs : List HeadM) (w : World) (hn : n = hs.length) (hc : n ≤ maxLen) (hr : Sees w w.heap.size 2 A n (flat headC hs)) (hr2 : Sees w w.heap.size 2 A2 n (flat headC hs)) :
    Calls Try.prog 70 #[.slice A n c, .slice A2 n c2] w fun e w' => e = .returned (.bool true) ∧ Below w.heap.size w w' := by
  have HR := Lib.hid hr
  have HR2 := Lib.hid hr2
  have HN := Lib.hid hn
  clear hr hr2 hn
  unfold maxLen at hc
  go_enter Try.func70, Try.ntmps70
  go_wp2
  go_loopw [5] (fun i wr => ∃ k : Nat, k ≤ n ∧ i = .int .i64 k ∧ Below w.heap.size w wr) (fun i _ => n - (intOf i).toNat)
  case atStart => exact ⟨0, Nat.zero_le _, rfl, Below.refl _ _⟩
  case round =>
    obtain ⟨k, hk, rfl, hbel⟩ := hrel
    have HB := Lib.hid hbel
    clear hbel
    by_cases hlt : k < n
    · obtain ⟨b, off, rfl, hb, hcell⟩ := (HR.out.below HB.out (Nat.le_refl _)).2 (by omega)
      obtain ⟨b2, off2, rfl, hb2, hcell2⟩ := (HR2.out.below HB.out (Nat.le_refl _)).2 (by omega)
      obtain ⟨p, hp⟩ := get_of HN.out hlt
      obtain ⟨c0, c1⟩ := head_cells hcell hp
      obtain ⟨d0, d1⟩ := head_cells hcell2 hp
      clear hcell hb hp hcell2 hb2
      go_wp2
      go_region_with (go_at_call 88; refine (eqHead_same p _).mono ?_; rintro e w1 ⟨rfl, hb1⟩; have HB1 := Lib.hid (btrans (bdrew HB.out) hb1); clear hb1)
      all_goals
        go_wp2
        go_roundw
        case rel => exact ⟨k + 1, by omega, by go_num, HB1.out⟩
        case measure => simp [intOf]; omega
    · go_wp2
      go_ret
      exact ⟨rfl, HB.out⟩
theorem headOk_mono {M M' : Int} {p : HeadM} (h : M ≤ M') (ho : headOk M p) : headOk M' p := by
  unfold headOk at ho ⊢
  exact ⟨by omega, by omega⟩
theorem headsOk_mono {M M' : Int} {hs : List HeadM} (h : M ≤ M') (ho : headsOk M hs) : headsOk M' hs := ⟨by have := ho.1; omega, fun p hp => headOk_mono h (ho.2 p hp)⟩
set_option maxHeartbeats 1000000 in
theorem szHeadS_any (A : Option Addr) (n c : Nat) (hs : List HeadM) (left : Int) (w : World) (hn : n = hs.length) (hc : n ≤ maxLen) (hl0 : 0 ≤ left) (hl : left ≤ 1048576) (hr : Sees w w.heap.size 2 A n (flat headC hs)) (hm : headMax hs) :
    Calls Try.prog 66 #[.slice A n c, .int .i64 left] w (SzP left (headsOk left hs) w) := by
  have HR := Lib.hid hr
  have HN := Lib.hid hn
  have HM := Lib.hid hm
  clear hr hn hm
  unfold maxLen at hc
  by_cases h1 : left - (n : Int) < 0
  · go_enter Try.func66, Try.ntmps66
    go_wp2
    go_ret
    exact ⟨_, rfl, .inl (by omega), Below.refl _ _⟩
  go_enter Try.func66, Try.ntmps66
  go_wp2
  go_loopw [1, 5] (fun l i wr => ∃ k : Nat, ∃ v : Int, k ≤ n ∧ i = .int .i64 k ∧ l = .int .i64 v ∧ 0 ≤ v ∧ v ≤ left - n ∧ (∀ s ∈ hs.take k, headOk left s) ∧ Below w.heap.size w wr) (fun _ i _ => n - (intOf i).toNat)
  case atStart => exact ⟨0, _, Nat.zero_le _, rfl, rfl, by omega, by omega, fun s hs => by simp at hs, Below.refl _ _⟩
  case round =>
    obtain ⟨k, v, hk, rfl, rfl, hv0, hv1, hall, hbel⟩ := hrel
    have HA := Lib.hid hall
    have HB := Lib.hid hbel
    clear hall hbel
    by_cases hlt : k < n
    · obtain ⟨b, off, rfl, hb, hcell⟩ := (HR.out.below HB.out (Nat.le_refl _)).2 (by omega)
      obtain ⟨p, hp⟩ := get_of HN.out hlt
      have HP := Lib.hid hp
      obtain ⟨c0, c1⟩ := head_cells hcell hp
      have HX := Lib.hid (HM.out p (List.mem_of_getElem? hp))
      clear hcell hb hp
      go_wp2_with fail
      refine (szHead_any p v _ hv0 (by omega) HX.out).mono ?_
      rintro e w1 ⟨v1, rfl, hv, hb1⟩
      have HB1 := Lib.hid (btrans HB.out hb1)
      clear hb1
      by_cases h2 : v1 < 0
      · clear hv
        go_wp2
        go_ret
        exact ⟨_, rfl, .inl (by omega), HB1.out⟩
      · have hv' := hv.resolve_left h2
        obtain ⟨hv2, hv3, hv4⟩ := hv'
        have HV := Lib.hid hv4
        clear hv hv4
        go_wp2
        go_roundw
        case rel => exact ⟨k + 1, v1, by omega, by go_num, rfl, by omega, by omega, mem_more HP.out HA.out (headOk_mono (by omega) HV.out), HB1.out⟩
        case measure => simp [intOf]; omega
    · go_wp2
      go_ret
      refine ⟨v, rfl, .inr ⟨hv0, by omega, ?_⟩, HB.out⟩
      have h3 := HA.out
      rw [take_all HN.out hlt] at h3
      exact ⟨by rw [← HN.out]; omega, h3⟩
/-- The marks of a list. -/
def headMk (q i : Nat) : List Value := [.string (mtxt (q + i * 2)), .string (mtxt (q + i * 2 + 1))]
theorem headMk_len (q i : Nat) : (headMk q i).length = 2 := rfl
set_option maxHeartbeats 1000000 in
theorem markHeadS_any (A : Option Addr) (n c base q : Nat) (xs : List Value) (w : World) (hc : n ≤ 2097152) (hq : 1 ≤ q) (hq2 : q ≤ 1000000000000) (ho : w.ownsRow base 43 2 (.slice A n c) n xs) :
    Calls Try.prog 71 #[.slice A n c, .int .i64 (q : Int)] w fun e w' => e = .returned (.int .i64 ((q : Int) + n * 2)) ∧ w'.ownsRow base 43 2 (.slice A n c) n (flat (headMk q) (List.range n)) ∧ w.grownBy w' (Value.slice A n c).ownBlock := by
  have HO := Lib.hid ho
  clear ho
  go_enter Try.func71, Try.ntmps71
  go_wp2
  go_loopw [1, 5] (fun q' i wr => ∃ k r : Nat, ∃ ys : List Value, k ≤ n ∧ r = q + k * 2 ∧ i = .int .i64 k ∧ q' = .int .i64 (r : Int) ∧ ys.length = n * 2 ∧ ys.take (k * 2) = flat (headMk q) ((List.range n).take k) ∧ wr.ownsRow base 43 2 (.slice A n c) n ys ∧ w.grownBy wr (Value.slice A n c).ownBlock) (fun _ i _ => n - (intOf i).toNat)
  case atStart => exact ⟨0, q, xs, Nat.zero_le _, by omega, rfl, rfl, HO.out.1, by rw [Nat.zero_mul]; rfl, HO.out, grefl _ _⟩
  case round =>
    obtain ⟨k, r, ys, hk, hr, rfl, rfl, hy, ht, hown, hg⟩ := hrel
    have HY := Lib.hid hy
    have HT := Lib.hid ht
    have HW0 := Lib.hid hown
    have HG0 := Lib.hid hg
    have HRE := Lib.hid hr
    have hr1 : 1 ≤ r := by omega
    have hr2 : r ≤ 100000000000000 := by omega
    clear hy ht hown hg hr
    by_cases hlt : k < n
    · obtain ⟨g, hA, hg1, hg2⟩ := own_form HW0.out (by omega)
      subst hA
      go_wp2_with fail
      refine Calls.mono (mark_int _ (r) _ ?_ (by omega) (by omega)) ?_
      · omega
      rintro e w0 ⟨rfl, hb0⟩
      have HV0 := Lib.hid (own_call HW0.out hb0)
      have HH0 := Lib.hid (gbelow HG0.out hb0)
      clear hb0
      obtain ⟨u0, d0⟩ := own_some HV0.out (j := k * 2) (by omega)
      have f0 := HV0.out.frozenAt (k * 2)
      have HW1 := Lib.hid (HV0.out.stored (k * 2) (.string (mtxt (r)))).1
      have HG1 := Lib.hid (gtrans HH0.out (HV0.out.stored (k * 2) (.string (mtxt (r)))).2)
      go_wp2_with fail
      refine Calls.mono (mark_int _ (r + 1) _ ?_ (by omega) (by omega)) ?_
      · omega
      rintro e w1 ⟨rfl, hb1⟩
      have HV1 := Lib.hid (own_call HW1.out hb1)
      have HH1 := Lib.hid (gbelow HG1.out hb1)
      clear hb1
      obtain ⟨u1, d1⟩ := own_some HV1.out (j := k * 2 + 1) (by omega)
      have f1 := HV1.out.frozenAt (k * 2 + 1)
      have HW2 := Lib.hid (HV1.out.stored (k * 2 + 1) (.string (mtxt (r + 1)))).1
      have HG2 := Lib.hid (gtrans HH1.out (HV1.out.stored (k * 2 + 1) (.string (mtxt (r + 1)))).2)
      go_wp2
      go_roundw
      case rel =>
        have := fill_step (headMk_len q) HY.out (by simp) HT.out (show (List.range n)[k]? = some k by simp [hlt])
        simp only [setAll, headMk] at this
        rw [← HRE.out] at this
        refine ⟨k + 1, r + 2, _, by omega, by have := HRE.out; omega, by go_num, by go_num, this.1, this.2, ?_, ?_⟩
        · exact HW2.out
        · exact HG2.out
      case measure => simp [intOf]; omega
    · go_wp2
      go_ret
      obtain rfl : k = n := by omega
      have hz : (r : Int) = (q : Int) + k * 2 := by have := HRE.out; omega
      refine ⟨by rw [← hz]; rfl, ?_, HG0.out⟩
      rw [← fill_end HY.out (by simp) HT.out hlt hk]
      exact HW0.out
set_option maxHeartbeats 1000000 in
theorem heldHeadS_any (A : Option Addr) (n c q : Nat) (w : World) (hc : n ≤ 2097152) (hq : 1 ≤ q) (hq2 : q ≤ 1000000000000) (hr : Sees w w.heap.size 2 A n (flat (headMk q) (List.range n))) :
    Calls Try.prog 73 #[.slice A n c, .int .i64 (q : Int)] w fun e w' => e = .returned (.int .i64 ((q : Int) + n * 2)) ∧ Below w.heap.size w w' := by
  have HR := Lib.hid hr
  clear hr
  go_enter Try.func73, Try.ntmps73
  go_wp2
  go_loopw [1, 5] (fun q' i wr => ∃ k r : Nat, k ≤ n ∧ r = q + k * 2 ∧ i = .int .i64 k ∧ q' = .int .i64 (r : Int) ∧ Below w.heap.size w wr) (fun _ i _ => n - (intOf i).toNat)
  case atStart => exact ⟨0, q, Nat.zero_le _, by omega, rfl, rfl, Below.refl _ _⟩
  case round =>
    obtain ⟨k, r, hk, hre, rfl, rfl, hbel⟩ := hrel
    have HB0 := Lib.hid hbel
    have HRE := Lib.hid hre
    have hr1 : 1 ≤ r := by omega
    have hr2 : r ≤ 100000000000000 := by omega
    clear hbel hre
    by_cases hlt : k < n
    · obtain ⟨b, off, rfl, hb, hcell⟩ := (HR.out.below HB0.out (Nat.le_refl _)).2 (by omega)
      have c0 := hcell (k * 2 + 0) _ (flat_get (headMk_len q) (List.range n) (show (List.range n)[k]? = some k by simp [hlt]) rfl)
      have c1 := hcell (k * 2 + 1) _ (flat_get (headMk_len q) (List.range n) (show (List.range n)[k]? = some k by simp [hlt]) rfl)
      rw [← HRE.out] at c0 c1
      simp only [Nat.add_zero, ← Nat.add_assoc] at c0 c1
      have hbw : b < wr.heap.size := Nat.lt_of_lt_of_le hb HB0.out.size
      clear hcell hb
      go_wp2
      go_region_with (go_at_call 72; refine Calls.mono (mark_int _ (r) _ ?_ (by omega) (by omega)) ?_; omega; rintro e w0 ⟨rfl, hb0⟩; have c0 := (show _ = _ from (hb0.cell (p := ⟨b, off + k * 2, none⟩) hbw).trans c0); have c1 := (show _ = _ from (hb0.cell (p := ⟨b, off + k * 2 + 1, none⟩) hbw).trans c1); have HB1 := Lib.hid ((bdrew HB0.out).trans (hb0.mono HB0.out.size)); have hbw : b < w0.heap.size := Nat.lt_of_lt_of_le hbw hb0.size; clear hb0)
      all_goals
        go_wp2
        go_region_with (go_at_call 72; refine Calls.mono (mark_int _ (r + 1) _ ?_ (by omega) (by omega)) ?_; omega; rintro e w1 ⟨rfl, hb1⟩; have c1 := (show _ = _ from (hb1.cell (p := ⟨b, off + k * 2 + 1, none⟩) hbw).trans c1); have HB2 := Lib.hid ((bdrew HB1.out).trans (hb1.mono HB1.out.size)); have hbw : b < w1.heap.size := Nat.lt_of_lt_of_le hbw hb1.size; clear hb1)
        all_goals
          go_wp2
          go_roundw
          case rel => exact ⟨k + 1, r + 2, by omega, by have := HRE.out; omega, by go_num, by go_num, HB2.out⟩
          case measure => simp [intOf]; omega
    · go_wp2
      go_ret
      obtain rfl : k = n := by omega
      have hz : (r : Int) = (q : Int) + k * 2 := by have := HRE.out; omega
      exact ⟨by rw [← hz]; rfl, HB0.out⟩
end Go.Proofs.Ytfkhnfbmpjgjgaa
