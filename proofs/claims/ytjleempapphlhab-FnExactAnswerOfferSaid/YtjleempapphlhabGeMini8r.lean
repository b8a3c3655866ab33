/- Parts of the proof: Mini8r. -/
import Derived.Test.YtjleempapphlhabGeMini8
section
namespace Go.Proofs.Ytjleempapphlhab.Mini
open Go Go.RowKit
set_option linter.unusedVariables false
section
variable {P : Program} {w0 : Bs} {κ : Kr} {C : Cs} {w : World} {F : Tb} {a : Act} {J : Nat → List D → Prop} {Q : List D → Prop}
/-- Some rows were written, and some of what is new is known. -/
theorem Inv.wroteZ (h : Inv P w0 κ C w) {w' : World} {B : List Nat} (hw : Wrote w w' B) {ids : List Nat} {C' : Cs} {zX : Nat → Option Obj} (hz1 : ∀ b, b < w.heap.size → zX b = κ.z b) (hz2 : ∀ b x, w.heap.size ≤ b → zX b = some x → w'.heap[b]? = some x)
    (hB : ∀ b ∈ B, ∃ id ∈ ids, ∃ row o N, C id = some row ∧ κ.at_ id = some (b, o, N))
    (hC : ∀ id row, C' id = some row → (id ∉ ids ∧ C id = some row) ∨ (id ∈ ids ∧ (∃ r, C id = some r) ∧ RowIn P ⟨κ.at_, zX⟩ w' id row)) : κ.le ⟨κ.at_, zX⟩ ∧ Inv P w0 ⟨κ.at_, zX⟩ C' w' := by
  have hle : κ.le ⟨κ.at_, zX⟩ := ⟨fun _ _ h => h, fun b x hx => by show zX b = _; rw [hz1 b (h.zlt hx)]; exact hx⟩
  have h1 : Inv P w0 κ (fun id => if id ∈ ids then none else C id) w' := h.wrote hw hB (fun id row hr => by
    have hr' : (if id ∈ ids then none else C id) = some row := hr
    split at hr'
    · cases hr'
    · rename_i hn; exact .inl ⟨hn, hr'⟩)
  have hold : ∀ id row, C' id = some row → ∃ r, C id = some r := fun id row hr => by
    rcases hC id row hr with ⟨_, h1⟩ | ⟨_, h1, _⟩
    · exact ⟨row, h1⟩
    · exact h1
  refine ⟨hle, h1.os, h1.tape, h1.output, h1.size, fun b hlt hW => ⟨(h1.base b hlt hW).1, fun x hx => (h1.base b hlt hW).2 x ?_⟩, fun b x hx => ?_, fun id row hr => ?_, fun id id' row row' b o N o' N' q1 q2 q3 q4 => ?_, fun id row b o N q1 q3 => ?_⟩
  · rw [← hz1 b (Nat.lt_of_lt_of_le hlt h.size)]; exact hx
  · have hx' : zX b = some x := hx
    by_cases hb : b < w.heap.size
    · rw [hz1 b hb] at hx'; exact h1.z b x hx'
    · exact hz2 b x (by omega) hx'
  · rcases hC id row hr with ⟨hn, g0⟩ | ⟨_, _, g0⟩
    · rcases h1.live id row (by show (if id ∈ ids then none else C id) = some row; rw [if_neg hn]; exact g0) with g1 | ⟨b, o, N, arr, g1, g2, g3, g4, g5, g6⟩
      · exact .inl g1
      · refine .inr ⟨b, o, N, arr, g1, ?_, g3, g4, g5, fun j a hj => ?_⟩
        · show zX b = none
          rw [hz1 b (h.atlt g0 g1)]; exact g2
        · obtain ⟨x, q1, q2⟩ := g6 j a hj
          exact ⟨x, q1, q2.mono hle⟩
    · exact g0
  · obtain ⟨r, k1⟩ := hold id row q1
    obtain ⟨r', k2⟩ := hold id' row' q2
    exact h.apart id id' r r' b o N o' N' k1 k2 q3 q4
  · obtain ⟨r, k1⟩ := hold id row q1
    exact h.own id r b o N k1 q3
theorem sels_shift (d : D) (ys : List D) : ∀ (ks : List Kd) (j : Nat), sels (d :: ys) (j + 1) ks = sels ys j ks
  | [], _ => rfl
  | k :: ks, j => by
    show A.d (sel (d :: ys) (j + 1) k) :: sels (d :: ys) (j + 1 + 1) ks = .d (sel ys j k) :: sels ys (j + 1) ks
    rw [sels_shift d ys ks (j + 1)]
    cases k <;> rfl
theorem resA_shift (d : D) (ys : List D) : ∀ (ks : List Kd) (nb j : Nat), resA (d :: ys) nb (j + 1) ks = resA ys nb j ks
  | [], _, _ => rfl
  | .list t :: ks, nb, j => by
    unfold resA
    simp only [resA_shift d ys ks (nb + 1) (j + 1)]
    rfl
  | .int k :: ks, nb, j => by
    unfold resA
    simp only [resA_shift d ys ks nb (j + 1)]
    rfl
  | .bool :: ks, nb, j => by
    unfold resA
    simp only [resA_shift d ys ks nb (j + 1)]
    rfl
  | .str :: ks, nb, j => by
    unfold resA
    simp only [resA_shift d ys ks nb (j + 1)]
    rfl
theorem ptrArg_spec {g : Cs} {av : AV} {id : Nat} {row : Row} {ds : List D} (h : ptrArg g av = some (id, row, ds)) : av = one (.ptr id 0) ∧ g id = some row ∧ rowD row = some ds := by
  unfold ptrArg at h
  split at h <;> try (cases h; done)
  split at h <;> try (cases h; done)
  rename_i hrow
  split at h <;> try (cases h; done)
  rename_i hds
  injection h with h; injection h with e1 h; injection h with e2 e3
  subst e1; subst e2; subst e3
  exact ⟨rfl, hrow, hds⟩
theorem scal_of_fits : ∀ {ds : List D} {ks : List Kd}, fits ds ks = true → ks.all scalK = true → ∀ d ∈ ds, d.scalar = true
  | [], _, _, _, d, hd => by simp at hd
  | x :: ds, [], h, _, d, hd => by simp [fits] at h
  | x :: ds, k :: ks, h, hk, d, hd => by
    unfold fits at h
    rw [Bool.and_eq_true] at h
    rw [List.all_cons, Bool.and_eq_true] at hk
    rcases List.mem_cons.mp hd with rfl | hd
    · have h1 := h.1
      have h2 := hk.1
      cases d <;> cases k <;> first | rfl | (simp [fitK] at h1; done) | (simp [scalK] at h2; done)
    · exact scal_of_fits h.2 hk.2 d hd
theorem gD_scal {z z' : Nat → Option Obj} {d : D} {v : Value} (hs : d.scalar = true) (h : gD P z d v) : gD P z' d v := by
  cases d with
  | list => cases hs
  | _ => unfold gD at h ⊢; exact h
theorem resL_blocks {w w' : World} {ys : List D} : ∀ {ks : List Kd} {j : Nat} {vs : List Value} {bs : List (Option (Nat × Nat × Nat))}, resL P w.heap.size w' ys j ks vs bs → ∀ b ∈ blocks bs, w.heap.size ≤ b
  | [], j, vs, bs, h, b, hb => by unfold resL at h; rw [h.2] at hb; simp [blocks] at hb
  | .list t :: ks, j, [], bs, h, b, hb => by cases bs <;> unfold resL at h <;> exact h.elim
  | .list t :: ks, j, v :: vs, [], h, b, hb => by unfold resL at h; exact h.elim
  | .list t :: ks, j, v :: vs, ob :: bs, h, b, hb => by
    unfold resL at h
    cases ob with
    | none => exact resL_blocks h.2 b (by simpa [blocks] using hb)
    | some x =>
      obtain ⟨b', o, N⟩ := x
      simp [blocks] at hb
      rcases hb with rfl | hb
      · exact h.1.choose_spec.choose_spec.2.2.2.1
      · exact resL_blocks h.2 b (by simpa [blocks] using hb)
  | .int k :: ks, j, [], bs, h, b, hb => by cases bs <;> unfold resL at h <;> exact h.elim
  | .bool :: ks, j, [], bs, h, b, hb => by cases bs <;> unfold resL at h <;> exact h.elim
  | .str :: ks, j, [], bs, h, b, hb => by cases bs <;> unfold resL at h <;> exact h.elim
  | .int k :: ks, j, v :: vs, bs, h, b, hb => by unfold resL at h; exact resL_blocks h.2 b hb
  | .bool :: ks, j, v :: vs, bs, h, b, hb => by unfold resL at h; exact resL_blocks h.2 b hb
  | .str :: ks, j, v :: vs, bs, h, b, hb => by unfold resL at h; exact resL_blocks h.2 b hb
theorem readR_spec {g : Cs} {s : Sig} {l : List AV} {id : Nat} {row : Row} {ds : List D} {pk rk : List Kd} {ns : List Prop} {xs : List D} (h : readR P g s l = some (id, row, ds, pk, rk, ns, xs)) :
    ∃ a0 rest pt pts as xs0, l = a0 :: rest ∧ s.params = pt :: pts ∧ ptrArg g a0 = some (id, row, ds) ∧ argCells P pts rest = some as ∧ ksAll P pts = some pk ∧ ksAll P s.results = some rk ∧ viewL P g as = some (ns, xs0) ∧ isPtr P pt = some row.t ∧ pk.all scalK = true ∧ fits (nilsTo xs0 pk) pk = true ∧ xs = nilsTo xs0 pk := by
  unfold readR at h
  split at h <;> try (cases h; done)
  rename_i a0 rest pt pts hp
  split at h <;> try (cases h; done)
  rename_i h1 h2 h3 h4
  split at h <;> try (cases h; done)
  rename_i ns' xs' h5
  split at h <;> try (cases h; done)
  rename_i hc
  injection h with h
  injection h with e1 h; injection h with e2 h; injection h with e3 h; injection h with e4 h; injection h with e5 h; injection h with e6 e7
  subst e1; subst e2; subst e3; subst e4; subst e5; subst e6; subst e7
  exact ⟨a0, rest, pt, pts, _, _, rfl, hp, h1, h2, h3, h4, h5, hc.1, hc.2.1, hc.2.2, rfl⟩
theorem resR_ids (z : Bool) (ys : List D) (nb : Nat) (rk : List Kd) : ∀ p ∈ (resR z ys nb rk).2, nb ≤ p.1 ∧ p.1 < nb + (if z = true then 0 else lists rk) := by
  intro p hp
  unfold resR at hp
  cases z with
  | true => simp at hp
  | false => simpa using resA_ids _ _ _ _ p hp
theorem execR_sound (hF : FnsOk P F) {nb : Nat} {o : Oper} {σ : St} {K : St → Tree} {f : Nat} {args : Array Operand} {s : Sig} {z : Bool} (hc : CallAt F o f args s) (hmd : s.md = .rd z) (h : (execR P nb o σ K f args s z).holds F J Q) (hiE : InvE P w0 κ C w) (hf : FreeN w0 κ C) (hlen0 : σ.H.length ≤ big) (he : ∀ x, gAV P κ (evalR (opTmps o.op) σ.tmps x) (a.eval x))
    (hg0 : ∀ id row, restr σ.H (touch o.op σ) id = some row → C id = some row ∧ id < big) (hfresh : ∀ id, nb ≤ id → id < nb + nNew P F o → C id = none ∧ κ.at_ id = none) {G : Act → World → Prop} {Qe : Exit → Act → World → Prop}
    (hG : ∀ κ' v w', After P w0 F J Q κ C nb o σ K κ' v w' → G (a.put o.dst v) w') : o.wp P a w G Qe := by
  have hg := nd_expand hg0
  have hi : Inv P w0 κ (expand C) w := hiE
  have hfresh0 := hfresh
  unfold execR at h
  split at h <;> try (exact h.elim)
  rename_i id row ds pk rk ns xs hread
  split at h <;> try (exact h.elim)
  rename_i hroom
  obtain ⟨hn, h⟩ := Tree.holds_needs h
  unfold Tree.holds at h
  rw [hc.hs] at h
  simp only at h
  obtain ⟨hpre, hpost⟩ := h
  obtain ⟨a0, rest, pt, pts, as, xs0, e0, e1, e2, e3, e4, e5, e6, e7, e8, e9, rfl⟩ := readR_spec hread
  obtain ⟨⟨fn, f1, f2, f3⟩, hcall⟩ := hF f s hc.hs
  rw [hmd] at hcall
  have hnn : nNew P F o = nRes s rk := nNew_call hc (by rw [hmd]; simp) e5
  rw [hnn] at hfresh
  have hnr : nRes s rk = if z = true then 0 else lists rk := by unfold nRes; rw [hmd]; cases z <;> rfl
  have hvals := args_vals he args
  rw [e0] at hvals
  obtain ⟨p1, p2, p3⟩ := ptrArg_spec e2
  have hlen : (args.map a.eval).toList.length = rest.length + 1 := by
    have : (args.toList.map fun x => unl (evalR (opTmps o.op) σ.tmps x)).length = rest.length + 1 := by rw [e0]; rfl
    simpa using this
  obtain ⟨v0, vrest, hvs⟩ : ∃ v0 vrest, (args.map a.eval).toList = v0 :: vrest := by
    cases hv : (args.map a.eval).toList with
    | nil => rw [hv] at hlen; simp at hlen
    | cons x l => exact ⟨x, l, rfl⟩
  rw [hvs] at hvals hlen
  have hv0 : gAV P κ a0 v0 := by
    obtain ⟨v, q1, q2⟩ := hvals 0 a0 rfl
    simp at q1; subst q1; exact q2
  obtain ⟨cells, c1, c2⟩ := argCells_sound (vs := vrest) e3 (by simpa using hlen) (fun i av hi => by simpa using hvals (i + 1) av (by simpa using hi))
  rw [p1] at hv0
  obtain ⟨b, o', N, hat, hv0⟩ := hv0
  have hC := hg _ _ p2
  rcases (hi.live id row hC).ds p3 with ⟨g1, _⟩ | ⟨b2, o2, N2, arr, g1, g2, g3, g4, g5, g6⟩
  · rw [g1] at hat; cases hat
  rw [g1] at hat
  injection hat with hat; injection hat with q1 q2; injection q2 with q2 q3
  subst q1; subst q2; subst q3
  obtain ⟨v1, v2⟩ := viewL_sound hi hg e6 hn c2
  obtain ⟨n1, n2⟩ := nilsTo_sound (ks := pk) v2
  have hsc := scal_of_fits e9 e8
  obtain ⟨_, _, g8⟩ := fits_sels (P := P) (κ := ⟨fun _ => none, κ.z⟩) [] (nilsTo xs0 pk) pk cells e9 (by rw [n1, v1]) (fun j d hj => by
    obtain ⟨v, k1, k2⟩ := n2 j d hj
    exact ⟨v, k1, gD_scal (hsc d (List.mem_of_getElem? hj)) k2⟩)
  have hargs : args.map a.eval = (Value.pointer (some ⟨b2, o2, none⟩) :: vrest).toArray := by
    rw [← Array.toArray_toList (xs := args.map a.eval), hvs, hv0]; rfl
  unfold Oper.wp
  rw [enter_ok hc.hop f1 f2 f3, Oper.upon_enter, hargs]
  refine (hcall w κ.z vrest pt row.t pts (nilsTo xs0 pk) pk cells b2 o2 arr ds hi.z g2 g3 (by rw [g4]; exact g5) g6 e1 e7 e4 c1 e9 g8 hpre).mono ?_
  rintro e w' ⟨v, ys, ds', arr', rfl, hpo, hw, hh, hsz, hle, hres⟩
  have hdom : ∀ id' row', upd (expand C) [(id, some (.sym row.t ds'))] id' = some row' → ∃ r, expand C id' = some r := fun id' row' hr => by
    rw [upd_one] at hr
    split at hr
    · rename_i e; subst e; exact ⟨row, hC⟩
    · exact ⟨row', hr⟩
  have hinv : ∀ zX : Nat → Option Obj, (∀ b, b < w.heap.size → zX b = κ.z b) → (∀ b x, w.heap.size ≤ b → zX b = some x → w'.heap[b]? = some x) → seenAt P zX arr' o2 ds' → κ.le ⟨κ.at_, zX⟩ ∧ Inv P w0 ⟨κ.at_, zX⟩ (upd (expand C) [(id, some (.sym row.t ds'))]) w' := fun zX hz1 hz2 hseen => hi.wroteZ hw (ids := [id]) hz1 hz2 (fun b hb => by
      have : b = b2 := by simpa using hb
      subst this
      exact ⟨id, by simp, row, _, _, hC, g1⟩) (fun id' row' hr => by
      rw [upd_one] at hr
      split at hr
      · rename_i e
        subst e
        injection hr with hr
        subst hr
        refine .inr ⟨by simp, ⟨row, hC⟩, .inr ⟨b2, o2, N2, arr', g1, ?_, hh, by rw [hsz, g4], ?_, fun j a hj => ?_⟩⟩
        · show zX b2 = none
          rw [hz1 b2 (block_of g3)]; exact g2
        · show o2 + (ds'.map A.d).length ≤ N2
          rw [List.length_map, ← g4, ← hsz]; exact hle
        · simp only [Row.as, List.getElem?_map] at hj
          obtain ⟨d, hd, rfl⟩ := Option.map_eq_some_iff.mp hj
          exact hseen j d hd
      · rename_i e
        exact .inl ⟨by simpa using e, hr⟩)
  have hK := hpost _ hpo
  split at hK <;> try (exact hK.elim)
  rename_i l hl
  have hsel : selL (.list 0 0 ds' :: ys) 0 = ds' := rfl
  rw [hsel] at hK
  have hids : ∀ p ∈ ((id, some (Row.sym row.t ds')) :: (resR z (.list 0 0 ds' :: ys) nb rk).2 : Us), (∃ row, nd (restr σ.H (touch o.op σ)) p.1 = some row) ∨ (nb ≤ p.1 ∧ p.1 < nb + nNew P F o) := fun p hp => by
    rcases List.mem_cons.mp hp with rfl | hp
    · exact .inl ⟨_, p2⟩
    · rw [hnn, hnr]; exact .inr (resR_ids _ _ _ _ p hp)
  have hoku : okU σ.H.length ((id, some (Row.sym row.t ds')) :: (resR z (.list 0 0 ds' :: ys) nb rk).2) = true := by
    refine List.all_eq_true.mpr (fun p hp => decide_eq_true ?_)
    rcases List.mem_cons.mp hp with rfl | hp
    · exact hroom.2
    · have := resR_ids _ _ _ _ p hp
      rw [hnr] at hroom
      omega
  cases z with
  | true =>
    obtain ⟨⟨ks', cells', vs', k1, k2, k3, k4, rfl⟩, hseen⟩ := hres
    rw [e5] at k1
    injection k1 with k1
    subst k1
    obtain ⟨a1, a2⟩ := hinv (zNew κ.z w w') (fun b hb => by unfold zNew; rw [if_pos hb]) (fun b x hb hx => by unfold zNew at hx; rw [if_neg (by omega)] at hx; exact hx) hseen
    have hR : resR true (.list 0 0 ds' :: ys) nb rk = (sels ys 0 rk, []) := by unfold resR; rw [if_pos rfl, sels_shift]
    rw [hR] at hl hK hids hoku
    exact hG _ _ w' (after_of hf hlen0 hg0 hfresh0 (us := [(id, some (.sym row.t ds'))]) (av := wrapR l) a1 a2 (fun k hk => rfl) (wrapR_sound (splitV_sound hl k3 (k4.mono (Kr.le_z (κ := ⟨κ.at_, zNew κ.z w w'⟩))))) hoku (fun p hp => by
      obtain rfl : p = _ := by simpa using hp
      rfl) hids hK)
  | false =>
    obtain ⟨ks', cells', vs', bs, k1, k2, k3, k4, k5, rfl, hseen⟩ := hres
    rw [e5] at k1
    injection k1 with k1
    subst k1
    have hbk := resL_blocks k5
    have hnlen : nb + nRes s rk ≤ big := by omega
    have hfreshE : ∀ id, nb ≤ id → id < nb + lists rk → expand C id = none ∧ κ.at_ id = none := fun id' h1 h2 => by
      have hb' : id' < big := by rw [hnr] at hnlen; simp at hnlen; omega
      have := hfresh id' h1 (by rw [hnr]; simpa using h2)
      exact ⟨by rw [expand_ord hb', this.1]; rfl, this.2⟩
    obtain ⟨a0', a0i⟩ := hinv (zBut κ.z w w' (blocks bs)) (fun b hb => by unfold zBut; rw [if_pos hb]) (fun b x hb hx => by
      unfold zBut at hx
      rw [if_neg (by omega)] at hx
      split at hx
      · cases hx
      · exact hx) hseen
    obtain ⟨κ', a1, a2, a3, a4, _⟩ := res_sound (nb := nb) a0i k5 k4 (fun id' q1 q2 => by
        have := hfreshE id' q1 q2
        refine ⟨?_, this.2⟩
        rw [upd_one, if_neg (fun e => by subst e; rw [hC] at this; cases this.1)]
        exact this.1) (fun id' row' b o N hr ha hb => by
        obtain ⟨r, hr0⟩ := hdom id' row' hr
        have h1 := hbk b hb
        have := hi.atlt hr0 ha
        omega) (fun b hb => by
        have h1 := hbk b hb
        refine ⟨?_, .inl (Nat.le_trans hi.size h1)⟩
        show zBut κ.z w w' (blocks bs) b = none
        unfold zBut
        rw [if_neg (by omega), if_pos hb])
    have hR : resR false (.list 0 0 ds' :: ys) nb rk = resA ys nb 0 rk := by unfold resR; rw [if_neg (by simp), resA_shift]
    rw [hR] at hl hK hids hoku
    exact hG κ' _ w' (after_of hf hlen0 hg0 hfresh0 (us := (id, some (.sym row.t ds')) :: (resA ys nb 0 rk).2) (av := wrapR l) (a0'.trans a1) a2 (fun k hk => a4 k (fun p hp => hk p (List.mem_cons_of_mem _ hp))) (wrapR_sound (splitV_sound hl k3 a3)) hoku (fun p hp => by
      rcases List.mem_cons.mp hp with rfl | hp
      · rfl
      · exact resA_plain _ _ _ _ p hp) hids hK)
theorem readO_spec {g : Cs} {s : Sig} {l : List AV} {t : Nat} {pk : List Kd} {ns : List Prop} {xs : List D} (h : readO P g s l = some (t, pk, ns, xs)) :
    ∃ as pt xs0, argCells P s.params l = some as ∧ ksAll P s.params = some pk ∧ s.results = [pt] ∧ frzL P g as = some (ns, xs0, []) ∧ isPtr P pt = some t ∧ fits (nilsTo xs0 pk) pk = true ∧ xs = nilsTo xs0 pk := by
  unfold readO at h
  split at h <;> try (cases h; done)
  rename_i h1 h2 h3
  split at h <;> try (cases h; done)
  rename_i h4 h5
  split at h <;> try (cases h; done)
  rename_i h6
  injection h with h
  injection h with e1 h; injection h with e2 h; injection h with e3 e4
  subst e1; subst e2; subst e3; subst e4
  exact ⟨_, _, _, h1, h2, h3, h4, h5, h6, rfl⟩
theorem execO_sound (hF : FnsOk P F) {nb : Nat} {o : Oper} {σ : St} {K : St → Tree} {f : Nat} {args : Array Operand} {s : Sig} (hc : CallAt F o f args s) (hmd : s.md = .op) (h : (execO P nb o σ K f args s).holds F J Q) (hiE : InvE P w0 κ C w) (hf : FreeN w0 κ C) (hlen0 : σ.H.length ≤ big) (he : ∀ x, gAV P κ (evalR (opTmps o.op) σ.tmps x) (a.eval x))
    (hg0 : ∀ id row, restr σ.H (touch o.op σ) id = some row → C id = some row ∧ id < big) (hfresh : ∀ id, nb ≤ id → id < nb + nNew P F o → C id = none ∧ κ.at_ id = none) {G : Act → World → Prop} {Qe : Exit → Act → World → Prop}
    (hG : ∀ κ' v w', After P w0 F J Q κ C nb o σ K κ' v w' → G (a.put o.dst v) w') : o.wp P a w G Qe := by
  have hg := nd_expand hg0
  have hi : Inv P w0 κ (expand C) w := hiE
  have hfresh0 := hfresh
  unfold execO at h
  split at h <;> try (exact h.elim)
  rename_i t pk ns xs hread
  split at h <;> try (exact h.elim)
  rename_i hroom
  obtain ⟨hn, h⟩ := Tree.holds_needs h
  unfold Tree.holds at h
  rw [hc.hs] at h
  simp only at h
  obtain ⟨hpre, hpost⟩ := h
  obtain ⟨as, pt, xs0, e1, e2, e3, e4, e5, e6, rfl⟩ := readO_spec hread
  obtain ⟨⟨fn, f1, f2, f3⟩, hcall⟩ := hF f s hc.hs
  rw [hmd] at hcall
  have hnn : nNew P F o = 1 := by unfold nNew; rw [hc.hcf]; simp only; rw [hc.hs]; simp only; rw [hmd]
  rw [hnn] at hfresh
  obtain ⟨cells, c1, c2⟩ := argCells_sound (vs := (args.map a.eval).toList) e1 (by simp) (args_vals he args)
  obtain ⟨κ1, q1, q2, q3, v1, v2⟩ := frzL_sound e4 hn hi (fun id _ row hr => hg id row hr) c2
  have q3' : Inv P w0 κ1 (expand C) w := q3
  obtain ⟨n1, n2⟩ := nilsTo_sound (ks := pk) v2
  obtain ⟨_, _, g3⟩ := fits_sels (P := P) (κ := ⟨fun _ => none, κ1.z⟩) [] (nilsTo xs0 pk) pk cells e6 (by rw [n1, v1]) n2
  unfold Oper.wp
  rw [enter_ok hc.hop f1 f2 f3, Oper.upon_enter]
  refine (hcall w κ1.z (args.map a.eval) (nilsTo xs0 pk) pk cells pt t q3'.z e3 e5 e2 c1 e6 g3 hpre).mono ?_
  rintro e w' ⟨g, arr, ds', rfl, hpo, hbel, hge, hh, hle, hseen⟩
  have hi' := q3'.below hbel
  obtain ⟨hf1', hf2⟩ := hfresh nb (Nat.le_refl _) (by omega)
  have hf1 : expand C nb = none := by rw [expand_ord (by omega), hf1']; rfl
  have hzg : κ1.z g = none := by
    cases hz : κ1.z g with
    | none => rfl
    | some x => have := q3'.zlt hz; omega
  obtain ⟨k1, k2⟩ := hi'.add (id := nb) (b := g) (o := 0) (N := arr.size) hf1 (by rw [q2]; exact hf2) (.sym t ds') arr hzg (.inl (Nat.le_trans hi.size hge)) hh rfl (by show 0 + (ds'.map A.d).length ≤ _; simpa using hle) (fun j a hj => by
    simp only [Row.as, List.getElem?_map] at hj
    obtain ⟨d, hd, rfl⟩ := Option.map_eq_some_iff.mp hj
    exact hseen j d hd) (fun k r o' N' hk ha => by
    have := q3'.atlt hk ha
    omega)
  have hK := hpost _ hpo
  have hsel : selL [.list 0 0 ds'] 0 = ds' := rfl
  rw [hsel] at hK
  refine hG _ _ w' (after_of hf hlen0 hg0 hfresh0 (us := [(nb, some (.sym t ds'))]) (av := one (.ptr nb 0)) (q1.trans k1) k2 (fun k hk => ?_) ⟨g, 0, arr.size, by simp [Kr.put], by simp⟩ (List.all_eq_true.mpr (fun p hp => decide_eq_true ?_)) (fun p hp => by
      obtain rfl : p = _ := by simpa using hp
      rfl) (fun p hp => .inr ?_) hK)
  · have : k ≠ nb := fun e => hk (nb, some (.sym t ds')) (by simp) e.symm
    rw [put_other this, q2]
  · have : p = (nb, some (.sym t ds')) := by simpa using hp
    subst this
    simp only
    omega
  · have : p = (nb, some (.sym t ds')) := by simpa using hp
    subst this
    rw [hnn]
    simp only
    omega
theorem call_op {o : Oper} {f : Nat} {args : Array Operand} (hcf : isCallF o.op = some (f, args)) : ∃ ts, o.op = .call ⟨.value (.func f), args, ts⟩ := by
  unfold isCallF at hcf
  split at hcf <;> try (cases hcf; done)
  rename_i f' args' ts hop
  injection hcf with hcf
  injection hcf with h1 h2
  subst h1; subst h2
  exact ⟨ts, hop⟩
/-- A call that yields a list whose lists are the call's own. -/
theorem execOD_sound (hF : FnsOk P F) {nb : Nat} {o : Oper} {σ : St} {K : St → Tree} {f : Nat} {args : Array Operand} {s : Sig} (hc : CallAt F o f args s) (hmd : s.md = .ownD) (h : (execOD P nb o σ K f args s).holds F J Q) (hi : InvE P w0 κ C w) (hf : FreeN w0 κ C) (hlen0 : σ.H.length ≤ big) (he : ∀ x, gAV P κ (evalR (opTmps o.op) σ.tmps x) (a.eval x))
    (hg : ∀ id row, restr σ.H (touch o.op σ) id = some row → C id = some row ∧ id < big) (hfresh : ∀ id, nb ≤ id → id < nb + nNew P F o → C id = none ∧ κ.at_ id = none) {G : Act → World → Prop} {Qe : Exit → Act → World → Prop}
    (hG : ∀ κ' v w', After P w0 F J Q κ C nb o σ K κ' v w' → G (a.put o.dst v) w') : o.wp P a w G Qe := by
  unfold execOD at h
  split at h <;> try (exact h.elim)
  rename_i as pk t rk has hpk hrk
  split at h <;> try (exact h.elim)
  rename_i ns ds hv
  split at h <;> try (exact h.elim)
  rename_i hfit
  obtain ⟨hfit, hroom, hl0⟩ := hfit
  obtain ⟨hn, h⟩ := Tree.holds_needs h
  unfold Tree.holds at h
  rw [hc.hs] at h
  simp only at h
  obtain ⟨hpre, hpost⟩ := h
  obtain ⟨⟨fn, f1, f2, f3⟩, hcall⟩ := hF f s hc.hs
  rw [hmd] at hcall
  have hnn : nNew P F o = 1 := by rw [nNew_call hc (by rw [hmd]; simp) hrk]; unfold nRes; rw [hmd]
  rw [hnn] at hfresh
  obtain ⟨cells, c1, c2⟩ := argCells_sound (vs := (args.map a.eval).toList) has (by simp) (args_vals he args)
  obtain ⟨v1, v2⟩ := viewX_sound hi hg hv hn c2
  obtain ⟨n1, n2⟩ := nilsTo_sound (ks := pk) v2
  obtain ⟨_, _, g3⟩ := fits_sels (P := P) (κ := Kr.of w) [] (nilsTo ds pk) pk cells hfit (by rw [n1, v1]) n2
  unfold Oper.wp
  rw [enter_ok hc.hop f1 f2 f3, Oper.upon_enter]
  refine (hcall w (fun b => w.heap[b]?) (args.map a.eval) (nilsTo ds pk) pk cells (fun _ _ h => h) hpk c1 hfit g3 hpre).mono ?_
  rintro e w' ⟨v, ys, rfl, hpo, hbel, hres⟩
  have hres' : ResD P w w' s.results ys v := hres
  obtain ⟨t', ks, u, us, vs', ob, inner, k1, k2, k3, k4, k5, k6, rfl⟩ := hres'
  rw [hrk] at k1
  injection k1 with k1; injection k1 with k1 k1'
  injection k1 with k1
  subst k1; subst k1'
  have hi' : InvE P w0 κ C w' := Inv.below hi hbel
  obtain ⟨hf1, hf2⟩ := hfresh nb (Nat.le_refl _) (by omega)
  have hnb : nb < big := by omega
  obtain ⟨_, _, _, i4⟩ := deepOk_inner k5
  obtain ⟨a1, a2, a3, a4, a5⟩ := add_deep hi' hf hnb hf1 hf2 k5 (fun b hb => by
    have := (i4 b hb).1
    refine ⟨?_, .inl (Nat.le_trans hi.size this)⟩
    cases hz : κ.z b with
    | none => rfl
    | some x => have := hi.zlt hz; omega) (fun k row b o N hr ha hb => by
    have h1 := (i4 b hb).1
    have := hi.atlt hr ha
    omega)
  have hK := hpost ys hpo
  split at hK <;> try (exact hK.elim)
  rename_i l hl
  refine hG _ _ w' ⟨[(nb, some (.deep t (selL ys 0)))], wrapR l, a1, a2, fun k hk hno => a4 k hk (fun e => hno _ (List.mem_singleton.mpr rfl) e.symm), a5, ?_, List.all_eq_true.mpr (fun p hp => decide_eq_true ?_), fun p hp => .inr ?_, hK⟩
  · exact wrapR_sound (splitV_sound hl k4 ⟨a3, k6.mono (κ' := κ.putD nb ob inner) ⟨fun _ _ h => (by cases h), fun _ _ h => (by cases h)⟩⟩)
  · obtain rfl : p = _ := by simpa using hp
    simp only; omega
  · obtain rfl : p = _ := by simpa using hp
    rw [hnn]
    exact ⟨Nat.le_refl _, Nat.lt_succ_self _⟩
theorem scalar_any0 {z z' : Nat → Option Obj} {d : D} {v : Value} (hs : d.scalar = true) (h : gD P z d v) : gD P z' d v := by
  cases d with
  | list => cases hs
  | _ => unfold gD at h ⊢; exact h
theorem tagL_own {d : D} : (tagL d).isSome = ownL d := by
  unfold tagL
  cases h : ownL d with
  | false => rfl
  | true => obtain ⟨u, n, l, rfl⟩ := ownL_list h; rfl
theorem tagL_some {d : D} {u : Nat} (h : tagL d = some u) : ∃ n l, d = .list u n l ∧ ownL d = true := by
  have ho : ownL d = true := by rw [← tagL_own, h]; rfl
  obtain ⟨u', n, l, rfl⟩ := ownL_list ho
  unfold tagL at h
  rw [if_pos ho] at h
  injection h with h
  subst h
  exact ⟨n, l, rfl, ho⟩
theorem tagL_list {u n : Nat} {l : List D} (h : ownL (.list u n l) = true) : tagL (.list u n l) = some u := by unfold tagL; rw [if_pos h]
/-- Lists are the row's own where they were. -/
theorem same_own {ds ds' : List D} (h : sameOwn ds ds') {j u n : Nat} {l : List D} (hj : ds'[j]? = some (.list u n l)) (ho : ownL (.list u n l) = true) : ∃ n0 l0, ds[j]? = some (.list u n0 l0) ∧ ownL (.list u n0 l0) = true := by
  have := h.2 j
  rw [hj] at this
  cases hd : ds[j]? with
  | none => rw [hd] at this; cases this
  | some d =>
    rw [hd] at this
    have h1 : tagL d = some u := by simpa [tagL_list ho] using this
    obtain ⟨n0, l0, rfl, h2⟩ := tagL_some h1
    exact ⟨n0, l0, rfl, h2⟩
theorem same_back {ds ds' : List D} (h : sameOwn ds ds') {j u n : Nat} {l : List D} (hj : ds[j]? = some (.list u n l)) (ho : ownL (.list u n l) = true) : ∃ n0 l0, ds'[j]? = some (.list u n0 l0) ∧ ownL (.list u n0 l0) = true :=
  same_own (ds := ds') (ds' := ds) ⟨h.1.symm, fun j => (h.2 j).symm⟩ hj ho
/-- The cells of a row change, and lists in it that are its own, but not which ones there are. -/
theorem free_deep {id t t' : Nat} {ds ds' : List D} (hf : FreeN w0 κ C) (hb : id < big) (hC : C id = some (.deep t ds)) (hs : sameOwn ds ds') : FreeN w0 κ (upd C [(id, some (.deep t' ds'))]) := by
  refine hf.step (fun k hk he => ⟨?_, rfl⟩) (fun _ _ _ => rfl) (fun k g1 g2 => ⟨by rw [upd_one, if_neg (fun e => by rw [e, hC] at g1; cases g1)]; exact g1, g2⟩)
  obtain ⟨f1, f2⟩ := inn_of hk
  rw [f1, expand_inn f2, upd_one] at he
  rw [f1, expand_inn f2]
  split at he
  · rename_i e
    rw [e, hC]
    cases hr : innR (some (Row.deep t ds)) (innB k) with
    | none => rfl
    | some row =>
      obtain ⟨u, n, l, d1, d2, _⟩ := innR_some hr
      obtain ⟨n0, l0, q1, q2⟩ := same_back hs d1 d2
      rw [innR_own q1 q2] at he; cases he
  · exact he
/-- What is no list of the row's own says nothing of memory. -/
theorem not_own_any {z z' : Nat → Option Obj} {d : D} {x : Value} (ho : ownL d = false) (h : gD P z d x) : gD P z' d x := by
  cases d with
  | list u n l =>
    match u, n, l, ho with
    | 0, 0, [], _ => unfold gD at h ⊢; obtain ⟨A', c', h1, h2, h3, _⟩ := h; exact ⟨A', c', h1, h2, h3, .inl rfl⟩
  | _ => unfold gD at h ⊢; exact h
/-- A deep list of the call's own, or a part of it, as it is said of one. -/
theorem deep_isO (hi : InvE P w0 κ C w) (hf : FreeN w0 κ C) {id t off len base : Nat} {ds : List D} (hC : C id = some (.deep t ds)) (hb : id < big) (hl : (off + len) * sz P t ≤ ds.length) (hfl : flatDs P ((ds.drop (off * sz P t)).take (len * sz P t))) (hbase : ∀ k row b o N, expand C k = some row → κ.at_ k = some (b, o, N) → base ≤ b) {v : Value} (hv : gA P κ (.sl t id off len) v) :
    (len = 0 ∧ deepOk P base w t len ((ds.drop (off * sz P t)).take (len * sz P t)) v none (fun _ => none)) ∨ ∃ b o N inner, κ.at_ id = some (b, o, N) ∧ (∀ j, inner j = none ∨ inner j = κ.at_ (inn id (off * sz P t + j))) ∧ deepOk P base w t len ((ds.drop (off * sz P t)).take (len * sz P t)) v (some (b, o + off * sz P t, N)) inner := by
  obtain ⟨Ad, c, rfl, hc, hv⟩ := hv
  rcases hv with ⟨rfl, rfl⟩ | ⟨b, o, N, hat, rfl, hfit⟩
  · left
    exact ⟨rfl, by simp, rfl, ⟨Ad, rfl⟩, fun _ => rfl⟩
  · right
    rw [Nat.add_mul] at hl hfit
    have hlen : ((ds.drop (off * sz P t)).take (len * sz P t)).length = len * sz P t := by simp; omega
    rcases deep_in hi hC hb with ⟨g1, _⟩ | ⟨b2, o2, N2, arr, g1, g2, g3, g4, g5, g6⟩
    · rw [g1] at hat; cases hat
    rw [g1] at hat
    injection hat with hat; injection hat with e1 e2; injection e2 with e2 e3
    subst e1; subst e2; subst e3
    have nm : ∀ j x, κ.at_ (inn id j) = some x → ∃ u n l, ds[j]? = some (.list u n l) ∧ ownL (.list u n l) = true ∧ expand C (inn id j) = some (.sym u l) := fun j x hx => by
      cases he : expand C (inn id j) with
      | none => rw [hf.free hb he (.inl (by rw [hC]; simp))] at hx; cases hx
      | some row =>
        have he' := he
        rw [expand_inn hb, hC] at he'
        obtain ⟨u, n, l, d1, d2, rfl⟩ := innR_some he'
        exact ⟨u, n, l, d1, d2, rfl⟩
    have hid : expand C id = some (.fix t (deepA id 0 ds)) := by rw [expand_ord hb, hC]; rfl
    have hat2 : ∀ (j : Nat) (d : D), ((ds.drop (off * sz P t)).take (len * sz P t))[j]? = some d → ds[off * sz P t + j]? = some d := fun j d hj => by
      have hjl := (List.getElem?_eq_some_iff.mp hj).1
      rw [hlen] at hjl
      rw [List.getElem?_take_of_lt hjl, List.getElem?_drop] at hj
      exact hj
    -- a list without room is nowhere
    have cell : ∀ j, ∃ ob, (ob = none ∨ ob = κ.at_ (inn id (off * sz P t + j))) ∧ (((ds.drop (off * sz P t)).take (len * sz P t)).length ≤ j → ob = none) ∧ ∀ d, ((ds.drop (off * sz P t)).take (len * sz P t))[j]? = some d → ∃ x, arr[o2 + off * sz P t + j]? = some x ∧ cellOk P base w d x ob := fun j => by
      cases hd0 : ((ds.drop (off * sz P t)).take (len * sz P t))[j]? with
      | none => exact ⟨none, .inl rfl, fun _ => rfl, fun d h => by cases h⟩
      | some d =>
        have hlt := (List.getElem?_eq_some_iff.mp hd0).1
        have hd := hat2 j d hd0
        obtain ⟨x, k1, k2⟩ := g6 _ d hd
        rw [show o2 + (off * sz P t + j) = o2 + off * sz P t + j by omega] at k1
        cases ho : ownL d with
        | false =>
          rw [deepC_not ho] at k2
          refine ⟨none, .inl rfl, fun _ => rfl, fun d' h => ?_⟩
          injection h with h; subst h
          refine ⟨x, k1, fun h => (by rw [ho] at h; cases h), fun _ => ⟨?_, rfl⟩⟩
          exact not_own_any ho k2
        | true =>
          obtain ⟨u, n, l, rfl⟩ := ownL_list ho
          rw [deepC_own ho] at k2
          have hf1 := hfl _ (List.mem_of_getElem? hd0)
          have hrow : expand C (inn id (off * sz P t + j)) = some (.sym u l) := by rw [expand_inn hb, hC]; exact innR_own hd ho
          obtain ⟨Ad, c', rfl, hc', hv'⟩ := k2
          rcases hv' with ⟨h1, h2⟩ | ⟨b', o', N', q1', rfl, q2'⟩
          · subst h1; subst h2
            have hl0 : l = [] := List.eq_nil_of_length_eq_zero (by rw [hf1.1, Nat.zero_mul])
            refine ⟨none, .inl rfl, fun _ => rfl, fun d' h => ?_⟩
            injection h with h; subst h
            exact ⟨_, k1, fun _ => ⟨u, 0, l, rfl, ⟨hl0, rfl, Ad, rfl⟩, hf1.2⟩, fun h => (by rw [ho] at h; cases h)⟩
          · rcases hi.live _ _ hrow with ⟨q1, _⟩ | ⟨b3, o3, N3, arr', q1, q2, q3, q4, q5, q6⟩
            · rw [q1] at q1'; cases q1'
            rw [q1] at q1'
            injection q1' with q1'; injection q1' with e1 e2; injection e2 with e2 e3
            subst e1; subst e2; subst e3
            refine ⟨some (b3, o3, N3), .inr q1.symm, fun h => (by omega), fun d' h => ?_⟩
            injection h with h; subst h
            refine ⟨_, k1, fun _ => ⟨u, n, l, rfl, ⟨c', arr', by simp, hc', hf1.1, hbase _ _ _ _ _ hrow q1, by simpa using q2', q3, q4, fun q d hq => ?_⟩, hf1.2⟩, fun h => (by rw [ho] at h; cases h)⟩
            obtain ⟨y, z1, z2⟩ := q6 q (.d d) (by simp [Row.as, hq])
            exact ⟨y, z1, scalar_any0 (hf1.2 d (List.mem_of_getElem? hq)) z2⟩
    obtain ⟨inner, hin⟩ : ∃ inner : Nat → Option (Nat × Nat × Nat), ∀ j, (inner j = none ∨ inner j = κ.at_ (inn id (off * sz P t + j))) ∧ (((ds.drop (off * sz P t)).take (len * sz P t)).length ≤ j → inner j = none) ∧ ∀ d, ((ds.drop (off * sz P t)).take (len * sz P t))[j]? = some d → ∃ x, arr[o2 + off * sz P t + j]? = some x ∧ cellOk P base w d x (inner j) := ⟨fun j => (cell j).choose, fun j => (cell j).choose_spec⟩
    have inat : ∀ j x, inner j = some x → κ.at_ (inn id (off * sz P t + j)) = some x := fun j x hx => by
      rcases (hin j).1 with h | h
      · rw [h] at hx; cases hx
      · rw [← h]; exact hx
    refine ⟨b2, o2, N2, inner, g1, fun j => (hin j).1, ⟨c, arr, rfl, hc, hlen, hbase _ _ _ _ _ hid g1, by omega, g3, g4, fun j d hj => (hin j).2.2 d hj⟩, fun j hj => (hin j).2.1 hj, fun j b' o' N' hx e => ?_, fun j j' b' o' N' o3 N3 hx hy => ?_⟩
    · obtain ⟨u, n, l, d1, d2, d3⟩ := nm _ _ (inat j _ hx)
      subst e
      have := hi.apart _ _ _ _ _ _ _ _ _ d3 hid (inat j _ hx) g1
      rw [← this] at hb; exact inn_big hb
    · obtain ⟨u, n, l, d1, d2, d3⟩ := nm _ _ (inat j _ hx)
      obtain ⟨u', n', l', d1', d2', d3'⟩ := nm _ _ (inat j' _ hy)
      have := (inn_inj hb hb (hi.apart _ _ _ _ _ _ _ _ _ d3 d3' (inat j _ hx) (inat j' _ hy))).2
      omega
/-- A deep list of the call's own, as it is said of one. -/
theorem deep_is (hi : InvE P w0 κ C w) (hf : FreeN w0 κ C) {id t len : Nat} {ds : List D} (hC : C id = some (.deep t ds)) (hb : id < big) (hl : ds.length = len * sz P t) (hfl : flatDs P ds) {v : Value} (hv : gA P κ (.sl t id 0 len) v) :
    (ds = [] ∧ deepOk P 0 w t len ds v none (fun _ => none)) ∨ ∃ b o N inner, κ.at_ id = some (b, o, N) ∧ (∀ j, inner j = none ∨ inner j = κ.at_ (inn id j)) ∧ deepOk P 0 w t len ds v (some (b, o, N)) inner := by
  have e : (ds.drop (0 * sz P t)).take (len * sz P t) = ds := by rw [Nat.zero_mul, List.drop_zero, List.take_of_length_le (by omega)]
  rcases deep_isO (off := 0) (base := 0) hi hf hC hb (by rw [Nat.zero_add, hl]; exact Nat.le_refl _) (by rw [e]; exact hfl) (fun _ _ _ _ _ _ _ => Nat.zero_le _) hv with ⟨h1, h2⟩ | ⟨b, o, N, inner, h1, h2, h3⟩
  · rw [e] at h2
    exact .inl ⟨List.eq_nil_of_length_eq_zero (by rw [hl, h1, Nat.zero_mul]), h2⟩
  · rw [e, Nat.zero_mul, Nat.add_zero] at h3
    exact .inr ⟨b, o, N, inner, h1, fun j => by have := h2 j; rwa [Nat.zero_mul, Nat.zero_add] at this, h3⟩
theorem scal_resL {base : Nat} {w' : World} {ys : List D} : ∀ {ks : List Kd} {j : Nat} {vs : List Value}, lists ks = 0 → gL P ⟨fun _ => none, fun _ => none⟩ (sels ys j ks) vs → resL P base w' ys j ks vs []
  | [], j, vs, _, h => by
    have : vs = [] := List.eq_nil_of_length_eq_zero h.len.symm
    subst this
    unfold resL; exact ⟨rfl, rfl⟩
  | .list t :: ks, j, vs, hl, _ => by simp [lists] at hl
  | .int k :: ks, j, v :: vs, hl, ⟨h1, h2⟩ => by unfold resL; exact ⟨h1, scal_resL (by simpa [lists] using hl) h2⟩
  | .bool :: ks, j, v :: vs, hl, ⟨h1, h2⟩ => by unfold resL; exact ⟨h1, scal_resL (by simpa [lists] using hl) h2⟩
  | .str :: ks, j, v :: vs, hl, ⟨h1, h2⟩ => by unfold resL; exact ⟨h1, scal_resL (by simpa [lists] using hl) h2⟩
/-- A call that writes into a list whose lists are the call's own. -/
theorem execWD_sound (hF : FnsOk P F) {nb : Nat} {o : Oper} {σ : St} {K : St → Tree} {f : Nat} {args : Array Operand} {s : Sig} (hc : CallAt F o f args s) (hmd : s.md = .wrD) (h : (execWD P o σ K f args s).holds F J Q) (hi : InvE P w0 κ C w) (hf : FreeN w0 κ C) (he : ∀ x, gAV P κ (evalR (opTmps o.op) σ.tmps x) (a.eval x))
    (hg : ∀ id row, restr σ.H (touch o.op σ) id = some row → C id = some row ∧ id < big) {G : Act → World → Prop} {Qe : Exit → Act → World → Prop}
    (hG : ∀ κ' v w', After P w0 F J Q κ C nb o σ K κ' v w' → G (a.put o.dst v) w') : o.wp P a w G Qe := by
  unfold execWD at h
  split at h <;> try (exact h.elim)
  rename_i as t pk rk has hpk hrk
  split at h <;> try (exact h.elim)
  rename_i id ds len ns xs hwr hsc
  split at h <;> try (exact h.elim)
  rename_i hroom
  obtain ⟨hroom, hl0⟩ := hroom
  obtain ⟨hn, h⟩ := Tree.holds_needs h
  unfold Tree.holds at h
  rw [hc.hs] at h
  simp only at h
  obtain ⟨hpre, hpost⟩ := h
  obtain ⟨⟨fn, f1, f2, f3⟩, hcall⟩ := hF f s hc.hs
  rw [hmd] at hcall
  obtain ⟨cells, c1, c2⟩ := argCells_sound (vs := (args.map a.eval).toList) has (by simp) (args_vals he args)
  unfold wrDA at hwr
  split at hwr <;> try (cases hwr; done)
  rename_i u id' off len' as'
  split at hwr <;> try (cases hwr; done)
  rename_i v' ds' hrow
  split at hwr <;> try (cases hwr; done)
  rename_i hut
  obtain ⟨rfl, rfl⟩ := hut
  injection hwr with hwr; injection hwr with e1 e2; injection e2 with e2 e3; injection e3 with e3 e4
  subst e1; subst e2; subst e3; subst e4
  obtain ⟨rfl, hlen, hfl, _⟩ := hn
  obtain ⟨hC, hb⟩ := hg _ _ hrow
  cases cells with
  | nil => exact c2.elim
  | cons v0 cs0 =>
  obtain ⟨c2, c3⟩ := c2
  obtain ⟨s1, s2, s3, s4⟩ := scalArgs_sound hsc [.list v' len' ds'] c3
  have hfit : fits (.list v' len' ds' :: xs) (.list v' :: pk) = true := by simp [fits, fitK, s2]
  unfold Oper.wp
  rw [enter_ok hc.hop f1 f2 f3, Oper.upon_enter]
  -- what it is said of
  have hid : expand C id' = some (.fix v' (deepA id' 0 ds')) := by rw [expand_ord hb, hC]; rfl
  obtain ⟨ob, inner, hd, hinv⟩ : ∃ ob inner, deepOk P 0 w v' len' ds' v0 ob inner ∧ ∀ (w' : World) (n' : Nat) (ds2 : List D) (inner' : Nat → Option (Nat × Nat × Nat)), innOk w' ds' inner inner' → Wrote w w' (blocksD ob inner ds'.length) → deepOk P 0 w' v' n' ds2 v0 ob inner' → sameOwn ds' ds2 → InvE P w0 κ (upd C [(id', some (.deep v' ds2))]) w' := by
    rcases deep_is hi hf hC hb hlen hfl c2 with ⟨hnil, hd⟩ | ⟨b, o', N, inner, hat, hin, hd⟩
    · refine ⟨none, _, hd, fun w' n' ds2 inner' hio hw hd2 hso => ?_⟩
      obtain ⟨rfl, _⟩ := hd2
      have e : upd C [(id', some (.deep v' []))] = C := by
        funext k
        rw [upd_one]
        split
        · rename_i e; subst e; rw [hC, hnil]
        · rfl
      rw [e]
      exact Inv.wrote (show Inv P w0 κ (expand C) w from hi) hw (ids := []) (fun b hb' => by
        rcases mem_blocksD.mp hb' with ⟨o', N, h9⟩ | ⟨j, o', N, hj, h9⟩
        · cases h9
        · cases h9) (fun k row hk => .inl ⟨by simp, hk⟩)
    · refine ⟨some (b, o', N), inner, hd, fun w' n' ds2 inner' hio hw hd2 hso => ?_⟩
      have hin' : ∀ j, inner' j = none ∨ inner' j = κ.at_ (inn id' j) := fun j => (hio.1 j).elim .inl (fun h9 => by rw [h9]; exact hin j)
      have inat' : ∀ j x, inner' j = some x → κ.at_ (inn id' j) = some x := fun j x hx => by
        rcases hin' j with h9 | h9
        · rw [h9] at hx; cases hx
        · rw [← h9]; exact hx
      have inat : ∀ j x, inner j = some x → κ.at_ (inn id' j) = some x := fun j x hx => by
        rcases hin j with h9 | h9
        · rw [h9] at hx; cases hx
        · rw [← h9]; exact hx
      have hrow0 : ∀ j x, κ.at_ (inn id' j) = some x → ∃ row, expand C (inn id' j) = some row := fun j x hx => by
        cases he' : expand C (inn id' j) with
        | none => rw [hf.free hb he' (.inl (by rw [hC]; simp))] at hx; cases hx
        | some row => exact ⟨row, rfl⟩
      have hz : ∀ b1, b1 ∈ blocksD (some (b, o', N)) inner' ds2.length → κ.z b1 = none := fun b1 hb1 => by
        rcases mem_blocksD.mp hb1 with ⟨o2, N2, h9⟩ | ⟨j, o2, N2, hj, h9⟩
        · injection h9 with h9; injection h9 with h9 _
          subst h9
          rcases hi.live _ _ hid with ⟨q1, _⟩ | ⟨b3, o3, N3, arr, q1, q2, _⟩
          · rw [q1] at hat; cases hat
          · rw [q1] at hat; injection hat with hat; injection hat with hat _; subst hat; exact q2
        · obtain ⟨row, hr⟩ := hrow0 j _ (inat' j _ h9)
          rcases hi.live _ _ hr with ⟨q1, _⟩ | ⟨b3, o3, N3, arr, q1, q2, _⟩
          · have := inat' j _ h9; rw [q1] at this; cases this
          · have := inat' j _ h9; rw [q1] at this; injection this with this; injection this with this _; subst this; exact q2
      obtain ⟨r1, r2, _⟩ := deepOk_rows hd2 (κ1 := κ) (nb := id') hat (fun j => (hin' j).imp id Eq.symm) hb hz
      refine Inv.wrote (show Inv P w0 κ (expand C) w from hi) hw (ids := id' :: (List.range ds'.length).map (inn id')) (fun b1 hb1 => ?_) (fun k row hk => ?_)
      · rcases mem_blocksD.mp hb1 with ⟨o2, N2, h9⟩ | ⟨j, o2, N2, hj, h9⟩
        · injection h9 with h9; injection h9 with h9 _
          subst h9
          exact ⟨id', by simp, _, _, _, hid, hat⟩
        · obtain ⟨row, hr⟩ := hrow0 j _ (inat j _ h9)
          exact ⟨inn id' j, List.mem_cons_of_mem _ (List.mem_map.mpr ⟨j, by simpa using hj, rfl⟩), row, _, _, hr, inat j _ h9⟩
      · by_cases hkb : k < big
        · rw [expand_ord hkb, upd_one] at hk
          split at hk
          · rename_i e
            subst e
            injection hk with hk
            subst hk
            exact .inr ⟨by simp, ⟨_, hid⟩, r1⟩
          · rename_i e
            refine .inl ⟨fun hm => ?_, by rw [expand_ord hkb]; exact hk⟩
            rcases List.mem_cons.mp hm with h9 | h9
            · exact e h9
            · obtain ⟨j, _, rfl⟩ := List.mem_map.mp h9
              exact inn_big hkb
        · obtain ⟨y1, y2⟩ := inn_of hkb
          have hk' := hk
          rw [y1, expand_inn y2, upd_one] at hk'
          split at hk'
          · rename_i e
            obtain ⟨u2, m2, l2, d1, d2, rfl⟩ := innR_some hk'
            obtain ⟨n0, l0, d3, d4⟩ := same_own hso d1 d2
            rw [e] at y1
            have hold : expand C k = some (.sym u2 l0) := by
              conv => lhs; rw [y1]
              rw [expand_inn hb, hC]; exact innR_own d3 d4
            refine .inr ⟨List.mem_cons_of_mem _ (List.mem_map.mpr ⟨innB k, by simpa using (List.getElem?_eq_some_iff.mp d3).1, y1.symm⟩), ⟨_, hold⟩, ?_⟩
            by_cases hsame : κ.at_ (inn id' (innB k)) = inner' (innB k)
            · rw [y1]; exact r2 _ _ _ _ d1 d2 hsame
            · have hnone : inner' (innB k) = none := (hin' (innB k)).resolve_right (fun h9 => hsame h9.symm)
              rw [← y1, hnone] at hsame
              -- a list without room: nothing of it was written
              obtain ⟨⟨_, _, _, _, _, _, _, _, _, h7⟩, _⟩ := hd2
              obtain ⟨x, _, k2, _⟩ := h7 _ _ d1
              obtain ⟨u3, m3, l3, e0, q1, _⟩ := k2 d2
              injection e0 with z1 z2 z3
              subst z1; subst z2; subst z3
              rw [hnone] at q1
              obtain ⟨rfl, _⟩ := q1
              rcases hi.live k _ hold with ⟨g1, _⟩ | ⟨b3, o3, N3, arr, g1, g2, g3, g4, g5, g6⟩
              · exact absurd g1 hsame
              · cases hnone2 : inner (innB k) with
                | some y =>
                  have e8 := inat _ _ hnone2
                  rw [← y1, g1] at e8
                  injection e8 with e8
                  subst e8
                  obtain ⟨arr', z1, z2⟩ := hio.2 _ _ _ _ _ _ _ hnone2 d3
                  exact .inr ⟨b3, o3, N3, arr', g1, g2, z1, z2, by simp only [Row.as, List.map_nil, List.length_nil]; omega, fun j a hj => by simp [Row.as] at hj⟩
                | none =>
                refine .inr ⟨b3, o3, N3, arr, g1, g2, (hw.block b3 (block_of g3) (fun hm => ?_)).trans g3, g4, by simp only [Row.as, List.map_nil, List.length_nil]; omega, fun j a hj => by simp [Row.as] at hj⟩
                rcases mem_blocksD.mp hm with ⟨o2, N2, h9⟩ | ⟨j, o2, N2, hj, h9⟩
                · injection h9 with h9; injection h9 with h9 _
                  subst h9
                  have := hi.apart _ _ _ _ _ _ _ _ _ hid hold hat g1
                  rw [← this] at hkb; exact hkb hb
                · obtain ⟨row, hr⟩ := hrow0 j _ (inat j _ h9)
                  have := hi.apart _ _ _ _ _ _ _ _ _ hr hold (inat j _ h9) g1
                  rw [y1] at this
                  have := (inn_inj hb hb this).2
                  rw [this, hnone2] at h9; cases h9
          · rename_i e
            refine .inl ⟨fun hm => ?_, by rw [y1, expand_inn y2]; exact hk'⟩
            rcases List.mem_cons.mp hm with h9 | h9
            · rw [h9] at hkb; exact hkb hb
            · obtain ⟨j, _, h9⟩ := List.mem_map.mp h9
              rw [y1] at h9
              exact e (inn_inj hb y2 h9).1.symm
  refine (hcall w (args.map a.eval) (.list v' len' ds' :: xs) v' pk v0 cs0 ob inner hpk s1 c1 hfit hd (by simpa using s4) hpre).mono ?_
  rintro e w' ⟨v, ys, n', ds2, inner', rfl, hpo, ⟨rk', hrk', _, hyl⟩, hw, hio, hd2, hres⟩
  rw [hrk] at hrk'
  injection hrk' with hrk'
  subst hrk'
  obtain ⟨ks', cells', vs', bs', k1, k2, k3, k4, k5, rfl⟩ := hres
  rw [hrk] at k1
  injection k1 with k1
  subst k1
  have hsel : selL (ys ++ [D.list v' n' ds2]) rk.length = ds2 := by
    unfold selL
    rw [← hyl, List.getElem?_append_right (Nat.le_refl _), Nat.sub_self]
    rfl
  have hK := hpost _ hpo
  split at hK <;> try (exact hK.elim)
  rename_i l hl
  rw [hsel] at hK
  obtain ⟨⟨hso, _⟩, hK⟩ := Tree.holds_needs hK
  refine hG κ _ w' ⟨[(id', some (.deep v' ds2))], wrapR l, Kr.le.refl κ, hinv w' n' ds2 inner' (by simpa [selL] using hio) hw hd2 hso, fun _ _ _ => rfl, free_deep hf hb hC hso, ?_, List.all_eq_true.mpr (fun p hp => decide_eq_true ?_), fun p hp => .inl ?_, hK⟩
  · exact wrapR_sound (splitV_sound hl k3 (res_scalars (κ := κ) (zs := [D.list v' n' ds2]) hl0 (by omega) k5))
  · obtain rfl : p = _ := by simpa using hp
    exact hroom
  · obtain rfl : p = _ := by simpa using hp
    exact ⟨_, hrow⟩
/-- A call that writes into a list that lies in a cell of the call's own. -/
theorem execI_sound (hF : FnsOk P F) {nb : Nat} {o : Oper} {σ : St} {K : St → Tree} {f : Nat} {args : Array Operand} {s : Sig} (hc : CallAt F o f args s) (hmd : s.md = .wr) (h : (execI P o σ K f args s).holds F J Q) (hi : InvE P w0 κ C w) (hf : FreeN w0 κ C) (he : ∀ x, gAV P κ (evalR (opTmps o.op) σ.tmps x) (a.eval x))
    (hg : ∀ id row, restr σ.H (touch o.op σ) id = some row → C id = some row ∧ id < big) {G : Act → World → Prop} {Qe : Exit → Act → World → Prop}
    (hG : ∀ κ' v w', After P w0 F J Q κ C nb o σ K κ' v w' → G (a.put o.dst v) w') : o.wp P a w G Qe := by
  unfold execI at h
  split at h <;> try (exact h.elim)
  rename_i as t pk rk has hpk hrk
  split at h <;> try (exact h.elim)
  rename_i id v' ds p n xs hwr hsc
  split at h <;> try (exact h.elim)
  rename_i hroom
  obtain ⟨hroom, hl0⟩ := hroom
  obtain ⟨hn, h⟩ := Tree.holds_needs h
  unfold Tree.holds at h
  rw [hc.hs] at h
  simp only at h
  obtain ⟨hpre, hpost⟩ := h
  obtain ⟨⟨fn, f1, f2, f3⟩, hcall⟩ := hF f s hc.hs
  rw [hmd] at hcall
  obtain ⟨cells, c1, c2⟩ := argCells_sound (vs := (args.map a.eval).toList) has (by simp) (args_vals he args)
  unfold wrIA at hwr
  split at hwr <;> try (cases hwr; done)
  rename_i u id' p' n' as'
  split at hwr <;> try (cases hwr; done)
  rename_i v2 ds2 hrow
  split at hwr <;> try (cases hwr; done)
  rename_i hut
  obtain ⟨rfl, hu0⟩ := hut
  injection hwr with hwr; injection hwr with e1 e2; injection e2 with e2 e3; injection e3 with e3 e4; injection e4 with e4 e5
  subst e1; subst e2; subst e3; subst e4; subst e5
  obtain ⟨hd, hlen, hscal, _⟩ := hn
  obtain ⟨hC, hb⟩ := hg _ _ hrow
  have ho := ownL_ne (n := n') (l := selL ds2 p') hu0
  have hid : expand C id' = some (.fix v2 (deepA id' 0 ds2)) := by rw [expand_ord hb, hC]; rfl
  have hin : expand C (inn id' p') = some (.sym u (selL ds2 p')) := by rw [expand_inn hb, hC]; exact innR_own hd ho
  have hpl := (List.getElem?_eq_some_iff.mp hd).1
  cases cells with
  | nil => exact c2.elim
  | cons v0 cs0 =>
  obtain ⟨c2, c3⟩ := c2
  obtain ⟨s1, s2, s3, s4⟩ := scalArgs_sound hsc [.list u n' (selL ds2 p')] c3
  have hfit : fits (.list u n' (selL ds2 p') :: xs) (.list u :: pk) = true := by simp [fits, fitK, s2]
  unfold Oper.wp
  rw [enter_ok hc.hop f1 f2 f3, Oper.upon_enter]
  have hx : gA P κ (.sl u (inn id' p') 0 n') v0 := c2
  have hsel0 : selN (D.list u n' (selL ds2 p') :: xs) 0 = n' ∧ selL (D.list u n' (selL ds2 p') :: xs) 0 = selL ds2 p' := ⟨rfl, rfl⟩
  -- the cells of the row when the list in it has others
  have hcells : ∀ l2, (∀ k row, expand (upd C [(id', some (.deep v2 (setL ds2 p' [.list u n' l2])))]) k = some row → (k ≠ inn id' p' ∧ expand C k = some row) ∨ (k = inn id' p' ∧ row = .sym u l2)) ∧ sameOwn ds2 (setL ds2 p' [.list u n' l2]) := fun l2 => by
    have hsl : p' + [D.list u n' l2].length ≤ ds2.length := by simp; omega
    have ho2 : ownL (.list u n' l2) = true := ownL_ne hu0
    have hat : ∀ j, (setL ds2 p' [.list u n' l2])[j]? = if j = p' then some (.list u n' l2) else ds2[j]? := fun j => by
      rw [setL_at hsl]
      by_cases h1 : j < p'
      · rw [if_pos h1, if_neg (by omega)]
      · rw [if_neg h1]
        by_cases h2 : j = p'
        · subst h2; simp
        · rw [if_neg h2, if_neg (by simp; omega)]
    have hA : deepA id' 0 (setL ds2 p' [.list u n' l2]) = deepA id' 0 ds2 := by
      apply List.ext_getElem?
      intro j
      rw [deepA_at, deepA_at, hat]
      split
      · rename_i e
        subst e
        rw [hd]
        simp only [Option.map_some]
        rw [deepC_own ho2, deepC_own ho]
      · rfl
    refine ⟨fun k row hk => ?_, setL_len hsl, fun j => ?_⟩
    · by_cases hkb : k < big
      · left
        refine ⟨fun e => by rw [e] at hkb; exact inn_big hkb, ?_⟩
        rw [expand_ord hkb, upd_one] at hk
        split at hk
        · rename_i e
          subst e
          rw [hid, ← hk]
          show some (Row.fix v2 (deepA k 0 ds2)) = some (.fix v2 (deepA k 0 _))
          rw [hA]
        · rw [expand_ord hkb]; exact hk
      · obtain ⟨y1, y2⟩ := inn_of hkb
        have hk' := hk
        rw [y1, expand_inn y2, upd_one] at hk'
        split at hk'
        · rename_i e
          obtain ⟨u3, m3, l3, d1, d2, rfl⟩ := innR_some hk'
          rw [hat] at d1
          split at d1
          · rename_i e2
            injection d1 with d1; injection d1 with z1 z2 z3
            subst z1; subst z2; subst z3
            exact .inr ⟨by rw [y1, e, e2], rfl⟩
          · rename_i e2
            refine .inl ⟨fun e3 => ?_, ?_⟩
            · rw [y1] at e3
              exact e2 (inn_inj y2 hb e3).2
            · rw [y1, e, expand_inn hb, hC]
              exact innR_own d1 d2
        · rename_i e
          exact .inl ⟨fun e3 => by rw [y1] at e3; exact e (inn_inj y2 hb e3).1, by rw [y1, expand_inn y2]; exact hk'⟩
    · rw [hat]
      split
      · rename_i e
        subst e
        rw [hd]
        simp only [Option.map_some]
        rw [tagL_list ho, tagL_list ho2]
      · rfl
  obtain ⟨ob, hob, hinv⟩ : ∃ ob, ownOk P 0 w u n' (selL ds2 p') v0 ob ∧ ∀ (w' : World) (n2 : Nat) (l2 : List D), Wrote w w' (blocks [ob]) → ownOk P 0 w' u n2 l2 v0 ob → InvE P w0 κ (upd C [(id', some (.deep v2 (setL ds2 p' [.list u n' l2])))]) w' := by
    obtain ⟨Ad, c, rfl, hcc, hv⟩ := hx
    rcases hv with ⟨rfl, rfl⟩ | ⟨b, o', N, hat, rfl, hfit'⟩
    · have hl0' : selL ds2 p' = [] := List.eq_nil_of_length_eq_zero (by rw [hlen, Nat.zero_mul])
      refine ⟨none, ⟨hl0', rfl, Ad, rfl⟩, fun w' n2 l2 hw ho2 => ?_⟩
      obtain ⟨rfl, _⟩ := ho2
      refine Inv.wrote (show Inv P w0 κ (expand C) w from hi) hw (ids := []) (fun b hb' => by simp [blocks] at hb') (fun k row hk => .inl ⟨by simp, ?_⟩)
      rcases (hcells []).1 k row hk with ⟨_, h9⟩ | ⟨rfl, rfl⟩
      · exact h9
      · rw [hin, hl0']
    · rcases hi.live _ _ hin with ⟨g1, _⟩ | ⟨b2, o2, N2, arr, g1, g2, g3, g4, g5, g6⟩
      · rw [g1] at hat; cases hat
      rw [g1] at hat
      injection hat with hat; injection hat with e1 e2; injection e2 with e2 e3
      subst e1; subst e2; subst e3
      refine ⟨some (b2, o2, N2), ⟨c, arr, by simp, hcc, hlen, Nat.zero_le _, by simpa using hfit', g3, g4, fun q d hq => ?_⟩, fun w' n2 l2 hw ho2 => ?_⟩
      · obtain ⟨y, z1, z2⟩ := g6 q (.d d) (by simp [Row.as, hq])
        exact ⟨y, z1, scalar_any0 (hscal d (List.mem_of_getElem? hq)) z2⟩
      · obtain ⟨c', arr', e1, e2, e3, _, e4, e5, e6, e7⟩ := ho2
        refine Inv.wrote (show Inv P w0 κ (expand C) w from hi) hw (ids := [inn id' p']) (fun b hb' => ?_) (fun k row hk => ?_)
        · obtain rfl : b = b2 := by simpa [blocks] using hb'
          exact ⟨inn id' p', by simp, _, _, _, hin, g1⟩
        · rcases (hcells l2).1 k row hk with ⟨h8, h9⟩ | ⟨rfl, rfl⟩
          · exact .inl ⟨by simpa using h8, h9⟩
          · have hcs : n2 * sz P u ≤ c' * sz P u := Nat.mul_le_mul_right _ e2
            refine .inr ⟨by simp, ⟨_, hin⟩, .inr ⟨b2, o2, N2, arr', g1, g2, e5, e6, by simp only [Row.as, List.length_map]; omega, fun q a hq => ?_⟩⟩
            simp only [Row.as, List.getElem?_map] at hq
            obtain ⟨d, hd', rfl⟩ := Option.map_eq_some_iff.mp hq
            obtain ⟨y, z1, z2⟩ := e7 q d hd'
            exact ⟨y, z1, gD.mono (fun b x hx => by cases hx) z2⟩
  have hres0 : resL P 0 w (D.list u n' (selL ds2 p') :: xs) 0 (.list u :: pk) (v0 :: cs0) [ob] := by
    unfold resL
    exact ⟨hob, scal_resL s1 (by simpa using s4)⟩
  refine (hcall w (args.map a.eval) (.list u n' (selL ds2 p') :: xs) (.list u :: pk) (v0 :: cs0) [ob] hpk c1 hfit hres0 (by cases ob <;> simp [blocks]) hpre).mono ?_
  rintro e w' ⟨v, ys, zs, rfl, hpo, ⟨rk', hrk', _, hyl⟩, hw, hwl, hres⟩
  rw [hrk] at hrk'
  injection hrk' with hrk'
  subst hrk'
  obtain ⟨ks', cells', vs', bs', k1, k2, k3, k4, k5, rfl⟩ := hres
  rw [hrk] at k1
  injection k1 with k1
  subst k1
  unfold wroteL at hwl
  have hsel : selL (ys ++ zs) rk.length = selL zs 0 := by
    unfold selL
    rw [← hyl, List.getElem?_append_right (Nat.le_refl _), Nat.sub_self]
  have hK := hpost _ hpo
  split at hK <;> try (exact hK.elim)
  rename_i l hl
  rw [hsel] at hK
  refine hG κ _ w' ⟨[(id', some (.deep v2 (setL ds2 p' [.list u n' (selL zs 0)])))], wrapR l, Kr.le.refl κ, hinv w' _ _ hw hwl.1, fun _ _ _ => rfl, free_deep hf hb hC (hcells _).2, ?_, List.all_eq_true.mpr (fun p hp => decide_eq_true ?_), fun p hp => .inl ?_, hK⟩
  · exact wrapR_sound (splitV_sound hl k3 (res_scalars (κ := κ) (zs := zs) hl0 (by omega) k5))
  · obtain rfl : p = _ := by simpa using hp
    exact hroom
  · obtain rfl : p = _ := by simpa using hp
    exact ⟨_, hrow⟩
theorem exec_sound (hF : FnsOk P F) {nb : Nat} {o : Oper} {σ : St} {K : St → Tree} (h : (exec P F nb o σ K).holds F J Q) (hi : InvE P w0 κ C w) (hf : FreeN w0 κ C) (he : ∀ x, gAV P κ (evalR (opTmps o.op) σ.tmps x) (a.eval x))
    (hg : ∀ id row, restr σ.H (touch o.op σ) id = some row → C id = some row) (hfresh' : ∀ id, nb ≤ id → id < nb + nNew P F o → id < big → C id = none ∧ κ.at_ id = none) {G : Act → World → Prop} {Qe : Exit → Act → World → Prop}
    (hG : ∀ κ' v w', After P w0 F J Q κ C nb o σ K κ' v w' → G (a.put o.dst v) w') : o.wp P a w G Qe := by
  unfold exec at h
  split at h <;> try (exact h.elim)
  rename_i hlen0
  obtain ⟨hlen0, hnb, hnb2⟩ := hlen0
  have hfresh : ∀ id, nb ≤ id → id < nb + nNew P F o → C id = none ∧ κ.at_ id = none := fun id h1 h2 => hfresh' id h1 h2 (by omega)
  have hg' : ∀ id row, restr σ.H (touch o.op σ) id = some row → C id = some row ∧ id < big := fun id row hr => ⟨hg id row hr, by
    unfold restr at hr
    split at hr
    · unfold cs at hr
      cases hx : σ.H[id]? with
      | none => rw [hx] at hr; cases hr
      | some r => have := (List.getElem?_eq_some_iff.mp hx).1; omega
    · cases hr⟩
  split at h
  · rename_i f args hcf
    have hop := call_op hcf
    split at h <;> try (exact h.elim)
    rename_i s hs
    have hc : CallAt F o f args s := ⟨hcf, hop, hs⟩
    unfold execF at h
    split at h
    · rename_i z hmd; exact execR_sound hF hc hmd h hi hf hlen0 he hg' hfresh hG
    · rename_i hmd; exact execO_sound hF hc hmd h hi hf hlen0 he hg' hfresh hG
    · rename_i hmd; exact execOD_sound hF hc hmd h hi hf hlen0 he hg' hfresh hG
    · rename_i hmd; exact execWD_sound hF hc hmd h hi hf he hg' hG
    · rename_i hmd
      split at h
      · exact execI_sound hF hc hmd h hi hf he hg' hG
      · exact execC_sound hF hc h hi hf hlen0 he hg' hfresh hG
    · exact execC_sound hF hc h hi hf hlen0 he hg' hfresh hG
  · rename_i hcf
    have hnn : nNew P F o = if isNew o.op = true then 1 else 0 := by unfold nNew; rw [hcf]
    split at h <;> try (exact h.elim)
    rename_i ns av us hm
    split at h <;> try (exact h.elim)
    rename_i hok
    obtain ⟨hok, hpl⟩ := hok
    obtain ⟨hn, hK⟩ := Tree.holds_needs h
    have hids : ∀ p ∈ us, (∃ row, restr σ.H (touch o.op σ) p.1 = some row) ∨ (nb ≤ p.1 ∧ p.1 < nb + nNew P F o) := fun p hp => (mOpX_ids hm p hp).imp (fun h => h.1) (fun ⟨e1, e2⟩ => by rw [hnn, if_pos e2]; omega)
    unfold Oper.wp
    unfold mOpX at hm
    split at hm
    · -- a deep row
      have key : YieldsE P w0 κ C ((execOp a.eval o).run P w) av us := by
        unfold dOp at hm
        split at hm <;> try (cases hm; done)
        · rename_i t x hop
          obtain ⟨v, r1, r2, r3⟩ := s_dload hi (unlE_sound he) hg' hm hn
          subst r3
          refine ⟨.value v, κ, w, ?_, Kr.le.refl κ, hi, fun _ _ _ => rfl, hf, .inl ⟨v, rfl, r2⟩⟩
          unfold execOp
          rw [hop]
          exact r1
        · rename_i t x y hop
          have := s_dstore hi hf (unlE_sound he) hg' hm hn
          unfold execOp
          rw [hop]
          exact this
      obtain ⟨n, κ', w', r1, r2, r3, r4, r5, r6⟩ := key
      rw [r1]
      rcases r6 with ⟨v, rfl, hv⟩ | ⟨rfl, rfl⟩
      · exact hG κ' v w' ⟨us, av, r2, r3, r4, r5, hv, hok, hids, hK⟩
      · exact hG κ' undef w' ⟨us, anyV, r2, r3, r4, r5, trivial, hok, hids, hK⟩
    · rename_i hnd
      have hpl' : okV us = true := by
        cases hd : dCase o.op (unlE o.op (evalR (opTmps o.op) σ.tmps)) (restr σ.H (touch o.op σ)) with
        | true => exact absurd hd hnd
        | false => rw [hd] at hpl; simpa using hpl
      obtain ⟨n, κ', w', r1, r2, r3, r4, r5⟩ := mOp_sound (o := o) (C := expand C) hi (unlE_sound he) (nd_expand hg') hm hn (fun hnew => by
        have := hfresh _ (Nat.le_refl _) (by rw [hnn, if_pos hnew]; omega)
        have hb := hnb
        exact ⟨by rw [expand_ord hb, this.1]; rfl, this.2⟩)
      have haft : ∀ av' v, gAV P κ' av' v → (K ⟨putL σ.tmps o.dst av', setH σ.H us⟩).holds F J Q → After P w0 F J Q κ C nb o σ K κ' v w' := fun av' v hv hK' => after_of hf hlen0 hg' hfresh r2 r3 r4 hv hok (fun p hp => by
          have := List.all_eq_true.mp hpl' p hp
          simp at this
          exact this.2) (fun p hp => (mOp_ids hm p hp).imp (fun h => h.1) (fun ⟨e1, e2⟩ => by rw [hnn, if_pos e2]; omega)) hK'
      rw [r1]
      rcases r5 with ⟨v, rfl, hv⟩ | ⟨rfl, rfl⟩
      · exact hG κ' v w' (haft av v hv hK)
      · exact hG κ' undef w' (haft anyV undef trivial hK)
end
end Go.Proofs.Ytjleempapphlhab.Mini
end
