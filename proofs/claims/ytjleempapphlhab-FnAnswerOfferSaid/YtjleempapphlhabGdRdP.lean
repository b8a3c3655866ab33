/- Parts of the proof: RdP. -/
import Derived.Test.YtjleempapphlhabGdRd
section
namespace Go.Proofs.Ytjleempapphlhab.Mini
open Go Go.RowKit
set_option linter.unusedVariables false
set_option linter.unusedSimpArgs false
set_option maxRecDepth 20000
theorem rdB_z (t n : Nat) (L : D) (p : Int) (l : List D) : rdB (.list t n (rdL L p) :: l) = L := rfl
theorem rdN_z (t n : Nat) (L : D) (p : Int) (l : List D) : rdN (.list t n (rdL L p) :: l) = p := rfl
theorem rd_in {t n : Nat} {L : D} {p c : Int} {l : List D} (hL : bytesOk L) (h0 : 0 ≤ p) (h1 : p + c ≤ 1000000) : rdIn (.list t n (rdL L p) :: l) c := ⟨L, p, rfl, hL, h0, h1⟩
theorem va_pick (n : Int) : valsOf Try.prog [3] [.int .i64 n] = [.int .i64 n] := by kernel_rfl
theorem vr_dpick (x : Int) : splitVal Try.prog Try.f53.resultTypes.toList [.int .i64 x] [.int .i64 x] := by
  have h := vals_split (P := Try.prog) (ts := Try.f53.resultTypes.toList) (ks := [.int .i64]) (xs := [.int .i64 x]) (by kernel_rfl) rfl
  have e : valsOf Try.prog Try.f53.resultTypes.toList [.int .i64 x] = [.int .i64 x] := by kernel_rfl
  rw [e] at h
  exact h
/-- The bytes that a list holds, as they lie. -/
theorem bytes_at {zz : Nat → Option Obj} {w : World} (hzz : ∀ b x, zz b = some x → w.heap[b]? = some x) {n : Nat} {l : List D} {v : Value} (hl : ∀ d ∈ l, ∃ z : Int, d = .int .u8 z ∧ 0 ≤ z ∧ z ≤ 255) (h : gD Try.prog zz (.list 5 n l) v) :
    ∃ ao cap, v = .slice ao n cap ∧ n ≤ cap ∧ (n = 0 ∨ ∃ b off, ao = some ⟨b, off, none⟩ ∧ (∃ x, zz b = some x) ∧ ∀ i, i < n → ∃ z : Int, 0 ≤ z ∧ z ≤ 255 ∧ w.cell? ⟨b, off + i, none⟩ = some (.int .u8 z)) := by
  unfold gD at h
  obtain ⟨ao, cap, rfl, h1, h2, h3⟩ := h
  have hsz : sz Try.prog 5 = 1 := by kernel_rfl
  rw [hsz, Nat.mul_one] at h2
  refine ⟨ao, cap, rfl, h1, h3.imp id (fun ⟨b, o, arr, ty, fr, e1, e2, e3⟩ => ⟨b, o, e1, ⟨_, e2⟩, fun i hi => ?_⟩)⟩
  have hi' : i < l.length := by omega
  obtain ⟨x, k1, k2⟩ := e3.at i l[i] (List.getElem?_eq_getElem hi')
  obtain ⟨z, hz, z0, z1⟩ := hl l[i] (List.getElem_mem hi')
  rw [hz] at k2
  unfold gD at k2
  subst k2
  refine ⟨z, z0, z1, ?_⟩
  rw [List.getElem?_drop, Array.getElem?_toList] at k1
  simp [World.cell?, hzz b _ e2, k1]
theorem ok_dpick : FnOk Try.prog 53 s_dpick := by
  refine ⟨⟨Try.f53, rfl, rfl, rfl⟩, ?_⟩
  intro w zz vs pt t pts xs ks cells g o arr ds hzz hzg hhg hlen hseen hps hpt hks hsp hfit hgl hpre
  obtain ⟨⟨L, p, hds, ⟨m, l, rfl, hm, hl⟩, hp0, hp1⟩, hn1, hn2⟩ := hpre
  have hds' : ds = rdL (.list 5 m l) p := hds
  subst hds'
  have hpts : pts = [3] := by
    have e : Try.f53.params.toList.tail = [3] := by kernel_rfl
    have e2 : Try.f53.params.toList = pt :: pts := hps
    rw [e2] at e; exact e
  subst hpts
  have hks2 : ks = [.int .i64] := by
    have e : ksAll Try.prog [3] = some [.int .i64] := by kernel_rfl
    rw [e] at hks; injection hks with hks; exact hks.symm
  subst hks2
  obtain ⟨n, rfl⟩ := fits_i hfit
  have hc := sels_vals [] [.int .i64 n] [.int .i64] cells hfit rfl hgl
  rw [hc] at hsp
  have hvs := split_vals hsp
  rw [va_pick] at hvs
  subst hvs
  obtain ⟨x0, a0, g0⟩ := hseen 0 _ rfl
  obtain ⟨x1, a1, g1⟩ := hseen 1 _ rfl
  unfold gD at g1
  subst g1
  obtain ⟨ao, cap, rfl, hmc, hbytes⟩ := bytes_at hzz hl g0
  have hn1' : 1 ≤ n := hn1
  have hn2' : n ≤ 2147483647 := hn2
  obtain ⟨q, rfl⟩ : ∃ q : Nat, p = q := ⟨p.toNat, by omega⟩
  refine (show Calls Try.prog 53 #[.pointer (some ⟨g, o, none⟩), .int .i64 n] w _ from (pick_ex w g o t m cap q ao arr n hhg a0 a1 (by omega) hm (hbytes.imp id (fun ⟨b, off, e1, ⟨x, e2⟩, e3⟩ => ⟨b, off, e1, (fun e => by rw [e, hzg] at e2; cases e2), e3⟩)) hn1' hn2').mono ?_)
  rintro e w' ⟨x, hx0, hx1, rfl, hh, hgr⟩
  have ho1 : o + 1 < arr.size := (Array.getElem?_eq_some_iff.mp a1).1
  obtain ⟨r1, r2⟩ := resL_scal (P := Try.prog) (base := w.heap.size) (w' := w') [] [.int .i64 x] [.int .i64] rfl rfl
  refine ⟨.int .i64 x, [.int .i64 x], rdL (.list 5 m l) ((q : Int) + 1), _, rfl, ⟨(q : Int) + 1, [.int .i64 x], rfl, by show (q : Int) ≤ q + 1; omega, by show (q : Int) + 1 ≤ q + 1; omega, x, rfl, hx0, hx1⟩, ⟨hgr.os, hgr.tape, hgr.output, hgr.size, fun b hb hn => hgr.block b hb (fun e => hn (by injection e with e; subst e; simp))⟩, hh, by simp, by show o + 2 ≤ _; simp; omega, ?_⟩
  refine ⟨[.int .i64], [.int .i64 x], [.int .i64 x], [], by kernel_rfl, r1, vr_dpick x, by simp [blocks], r2, rfl, fun j d hj => ?_⟩
  match j, hj with
  | 0, hj =>
    simp [rdL] at hj
    subst hj
    refine ⟨_, ?_, gD.mono (fun b y hy => ?_) g0⟩
    · rw [Array.getElem?_setIfInBounds_ne (by omega)]; exact a0
    · show zBut zz w w' (blocks []) b = some y
      unfold zBut
      rw [if_pos (block_of (hzz b y hy))]; exact hy
  | 1, hj =>
    simp [rdL] at hj
    subst hj
    exact ⟨_, by rw [Array.getElem?_setIfInBounds_self_of_lt ho1], by unfold gD; rfl⟩
  | j + 2, hj => simp [rdL] at hj
theorem ok_dopen : FnOk Try.prog 33 s_dopen := by
  refine ⟨⟨Try.f33, rfl, rfl, rfl⟩, ?_⟩
  intro w zz vs xs ks cells pt t hzz hres hpt hks hsp hfit hgl hpre
  obtain ⟨n, l, rfl, hl⟩ := hpre
  have hps : Try.f33.params.toList = [22] := by kernel_rfl
  have hks0 : ksAll Try.prog [22] = some [.list 5] := by kernel_rfl
  have hks' : ksAll Try.prog Try.f33.params.toList = some ks := hks
  have hsp' : splitVal Try.prog Try.f33.params.toList cells vs.toList := hsp
  rw [hps] at hks' hsp'
  rw [hks0] at hks'
  injection hks' with e
  subst e
  have hk1 : ksOf Try.prog 22 = some [.list 5] := by kernel_rfl
  have hs1 : isSt Try.prog 22 = false := by kernel_rfl
  obtain ⟨v0, rest, hv⟩ : ∃ v rest, vs.toList = v :: rest := by
    cases h : vs.toList with
    | nil => rw [h] at hsp'; exact hsp'.elim
    | cons v r => exact ⟨v, r, rfl⟩
  rw [hv] at hsp'
  unfold splitVal at hsp'
  rw [hk1] at hsp'
  simp only at hsp'
  rw [if_neg (by rw [hs1]; simp)] at hsp'
  obtain ⟨rest', rfl, h9⟩ := hsp'
  obtain ⟨rfl, rfl⟩ := h9
  have hg0 : gD Try.prog zz (.list 5 n l) v0 := hgl.1
  obtain ⟨ao, cap, rfl, hmc, hbytes⟩ := bytes_at hzz hl hg0
  have hvs : vs = #[.slice ao n cap] := by rw [← Array.toArray_toList (xs := vs), hv]
  rw [hvs]
  have hpt' : t = 65 := by
    have e1 : Try.f33.resultTypes.toList = [pt] := hres
    have e2 : (match Try.f33.resultTypes.toList with | [x] => isPtr Try.prog x | _ => none) = some 65 := by kernel_rfl
    rw [e1] at e2
    simp only at e2
    rw [hpt] at e2
    injection e2
  subst hpt'
  refine (open_ex w ao n cap hmc).mono ?_
  rintro e w' ⟨m, hm1, hm2, rfl, rfl⟩
  refine ⟨w.heap.size, #[.slice ao m cap, .int .i64 0], rdL (.list 5 m (l.take m)) 0, rfl, ⟨_, ⟨m, l.take m, rfl, hm1, fun d hd => hl d (List.mem_of_mem_take hd)⟩, rfl⟩, (Below.refl _ _).alloc (Nat.le_refl _) _, Nat.le_refl _, by show (w.heap.push _)[_]? = _; simp, by simp [rdL], fun j d hj => ?_⟩
  match j, hj with
  | 0, hj =>
    simp [rdL] at hj
    subst hj
    refine ⟨_, rfl, ?_⟩
    unfold gD at hg0 ⊢
    obtain ⟨Ad, c, e1, e2, e3, e4⟩ := hg0
    injection e1 with e1 e5 e6
    subst e1; subst e6
    have hsz : sz Try.prog 5 = 1 := by kernel_rfl
    rw [hsz] at e3 ⊢
    refine ⟨ao, cap, rfl, by omega, by simp; omega, ?_⟩
    by_cases h0 : m = 0
    · exact .inl h0
    rcases e4 with e4 | ⟨b, off, arr, ty, fr, k1, k2, k3⟩
    · omega
    · exact .inr ⟨b, off, arr, ty, fr, k1, k2, gDs.of fun i d hi => by
        have hil := (List.getElem?_eq_some_iff.mp hi).1
        rw [List.length_take] at hil
        rw [List.getElem?_take_of_lt (by omega)] at hi
        exact k3.at i d hi⟩
  | 1, hj =>
    simp [rdL] at hj
    subst hj
    exact ⟨_, rfl, by unfold gD; rfl⟩
  | j + 2, hj => simp [rdL] at hj
theorem ok_dodd : FnOk Try.prog 54 s_dodd := by
  refine fnOkR (fn := Try.f54) (F := F_dodd) (hs := hs_dodd) (tab_cons ok_dpick tab_nil) mixed rfl rfl rfl (by kernel_rfl) [.int .i64] (by kernel_rfl) (by simp [hs_dodd, shapeW]) ?_
  rintro r n hpre
  obtain ⟨⟨L, p, hr, hL, hp0, hp1⟩, hn0, hn2⟩ := hpre
  have hr' : r = rdL L p := hr
  subst hr'
  refine ⟨fun _ _ => False, fun _ _ => 0, ?_, fun _ _ h => h.elim⟩
  rw [t_dodd]
  simp only [F_dodd_dpick, s_dpick, Tree.holds, ltI_t, ltI_f, leI_t, leI_f, all_cons, all_nil, and_true, true_and, forall_eq, decide_eq_true_eq, decide_eq_false_iff_not, beq_iff_eq, beq_eq_false_iff_ne, bne_iff_ne, bne_eq_false_iff_eq, ne_eq, Decidable.not_not, selI_z, selB_z, selS_z, selN_z, selL_z, selI_s, selB_s, selS_s, selN_s, selL_s, Int.toNat_natCast, Nat.mul_one, Nat.zero_add, Nat.div_one, List.drop_zero, Nat.zero_mul, Nat.le_refl, Bool.not_eq_true', Bool.not_eq_false', Bool.false_eq_true, Bool.true_eq_false, not_true_eq_false, not_false_eq_true, false_imp_iff, true_imp_iff, if_true, if_false, sig, sigF, sigW, sigR, sigO, sigD, sigWD, List.map_cons, List.map_nil]
  have hn0' : 0 ≤ n := hn0
  have hn2' : n ≤ 2147483647 := hn2
  refine ⟨fun h => ⟨⟨rd_in hL hp0 hp1, by omega, hn2⟩, ?_⟩, fun h => ⟨p, _, rfl, Int.le_refl _, by show p ≤ p + 1; omega, false, rfl, fun _ => rfl⟩⟩
  rintro ys ⟨p', rs, rfl, q1, q2, x, rfl, x0, x1⟩
  simp only [F_dodd_dpick, s_dpick, Tree.holds, ltI_t, ltI_f, leI_t, leI_f, all_cons, all_nil, and_true, true_and, forall_eq, decide_eq_true_eq, decide_eq_false_iff_not, beq_iff_eq, beq_eq_false_iff_ne, bne_iff_ne, bne_eq_false_iff_eq, ne_eq, Decidable.not_not, selI_z, selB_z, selS_z, selN_z, selL_z, selI_s, selB_s, selS_s, selN_s, selL_s, Int.toNat_natCast, Nat.mul_one, Nat.zero_add, Nat.div_one, List.drop_zero, Nat.zero_mul, Nat.le_refl, Bool.not_eq_true', Bool.not_eq_false', Bool.false_eq_true, Bool.true_eq_false, not_true_eq_false, not_false_eq_true, false_imp_iff, true_imp_iff, if_true, if_false, sig, sigF, sigW, sigR, sigO, sigD, sigWD, List.map_cons, List.map_nil]
  exact ⟨by unfold inK; omega, p', _, rfl, q1, q2, _, rfl, fun h => by omega⟩
/-- A text out of a list of texts that is written down. -/
theorem pick_str {ls : List D} {x : Int} {n : Nat} (f : ByteArray → Bool) (h0 : 0 ≤ x) (h1 : x < (n : Int)) (hl : ls.length = n) (hall : ls.all (fun d => match d with | .str s => f s | _ => false) = true) : ∃ s, ls[x.toNat]? = some (.str s) ∧ f s = true := by
  have hi : x.toNat < ls.length := by omega
  have h2 := List.all_eq_true.mp hall ls[x.toNat] (List.getElem_mem hi)
  cases hd : ls[x.toNat] with
  | str s =>
    rw [hd] at h2
    exact ⟨s, by rw [List.getElem?_eq_getElem hi, hd], h2⟩
  | int => rw [hd] at h2; cases h2
  | bool => rw [hd] at h2; cases h2
  | list => rw [hd] at h2; cases h2
/-- A number out of a list of numbers. -/
theorem pick_int {ls : List D} {x lo hi : Int} {n : Nat} {k : IntKind} (h0 : 0 ≤ x) (h1 : x < (n : Int)) (hl : ls.length = n) (hall : ∀ d ∈ ls, ∃ z : Int, d = .int k z ∧ lo ≤ z ∧ z ≤ hi) : ∃ z : Int, ls[x.toNat]? = some (.int k z) ∧ lo ≤ z ∧ z ≤ hi := by
  have hi : x.toNat < ls.length := by omega
  obtain ⟨z, hz, z0, z1⟩ := hall ls[x.toNat] (List.getElem_mem hi)
  exact ⟨z, by rw [List.getElem?_eq_getElem hi, hz], z0, z1⟩
end Go.Proofs.Ytjleempapphlhab.Mini
end
