/- Exact values: calls of functions that write into what they are pointed to; each operation. -/
import Derived.Test.YtgoheolehnahkaaMini8
namespace Go.Proofs.Ytgoheolehnahkaa.Mini
open Go Go.RowKit
set_option linter.unusedVariables false
section
variable {P : Program} {w0 : Bs} {κ : Kr} {C : Cs} {w : World} {F : Tb} {a : Act} {J : Nat → List D → Prop} {Q : List D → Prop}
/-- Some rows were written, and some of what is new is known. -/
theorem Inv.wroteZ (h : Inv P w0 κ C w) {w' : World} {B : List Nat} (hw : Wrote w w' B) {ids : List Nat} {C' : Cs} {zX : Nat → Option Obj} (hz1 : ∀ b, b < w.heap.size → zX b = κ.z b) (hz2 : ∀ b x, w.heap.size ≤ b → zX b = some x → w'.heap[b]? = some x)
    (hB : ∀ b ∈ B, ∃ id ∈ ids, ∃ row o N, C id = some row ∧ κ.at_ id = some (b, o, N))
    (hC : ∀ id row, C' id = some row → (id ∉ ids ∧ C id = some row) ∨ (id ∈ ids ∧ (∃ r, C id = some r) ∧ RowIn P ⟨κ.at_, zX⟩ w' id row)) : κ.le ⟨κ.at_, zX⟩ ∧ Inv P w0 ⟨κ.at_, zX⟩ C' w' := by
  have hle : κ.le ⟨κ.at_, zX⟩ := ⟨fun _ _ h => h, fun b x hx => by show zX b = _; rw [hz1 b (h.zlt hx)]; exact hx⟩
  have h1 : Inv P w0 κ (fun id => if id ∈ ids then none else C id) w' := h.wrote hw hB (fun id row hr => by
    have hr' : (if id ∈ ids then none else C id) = some row := hr
    split at hr'
    · cases hr'
    · rename_i hn; exact .inl ⟨hn, hr'⟩)
  have hold : ∀ id row, C' id = some row → ∃ r, C id = some r := fun id row hr => by
    rcases hC id row hr with ⟨_, h1⟩ | ⟨_, h1, _⟩
    · exact ⟨row, h1⟩
    · exact h1
  refine ⟨hle, h1.os, h1.tape, h1.output, h1.size, fun b hlt hW => ⟨(h1.base b hlt hW).1, fun x hx => (h1.base b hlt hW).2 x ?_⟩, fun b x hx => ?_, fun id row hr => ?_, fun id id' row row' b o N o' N' q1 q2 q3 q4 => ?_, fun id row b o N q1 q3 => ?_⟩
  · rw [← hz1 b (Nat.lt_of_lt_of_le hlt h.size)]; exact hx
  · have hx' : zX b = some x := hx
    by_cases hb : b < w.heap.size
    · rw [hz1 b hb] at hx'; exact h1.z b x hx'
    · exact hz2 b x (by omega) hx'
  · rcases hC id row hr with ⟨hn, g0⟩ | ⟨_, _, g0⟩
    · rcases h1.live id row (by show (if id ∈ ids then none else C id) = some row; rw [if_neg hn]; exact g0) with g1 | ⟨b, o, N, arr, g1, g2, g3, g4, g5, g6⟩
      · exact .inl g1
      · refine .inr ⟨b, o, N, arr, g1, ?_, g3, g4, g5, fun j a hj => ?_⟩
        · show zX b = none
          rw [hz1 b (h.atlt g0 g1)]; exact g2
        · obtain ⟨x, q1, q2⟩ := g6 j a hj
          exact ⟨x, q1, q2.mono hle⟩
    · exact g0
  · obtain ⟨r, k1⟩ := hold id row q1
    obtain ⟨r', k2⟩ := hold id' row' q2
    exact h.apart id id' r r' b o N o' N' k1 k2 q3 q4
  · obtain ⟨r, k1⟩ := hold id row q1
    exact h.own id r b o N k1 q3
theorem sels_shift (d : D) (ys : List D) : ∀ (ks : List Kd) (j : Nat), sels (d :: ys) (j + 1) ks = sels ys j ks
  | [], _ => rfl
  | k :: ks, j => by
    show A.d (sel (d :: ys) (j + 1) k) :: sels (d :: ys) (j + 1 + 1) ks = .d (sel ys j k) :: sels ys (j + 1) ks
    rw [sels_shift d ys ks (j + 1)]
    cases k <;> rfl
theorem resA_shift (d : D) (ys : List D) : ∀ (ks : List Kd) (nb j : Nat), resA (d :: ys) nb (j + 1) ks = resA ys nb j ks
  | [], _, _ => rfl
  | .list t :: ks, nb, j => by
    unfold resA
    simp only [resA_shift d ys ks (nb + 1) (j + 1)]
    rfl
  | .int k :: ks, nb, j => by
    unfold resA
    simp only [resA_shift d ys ks nb (j + 1)]
    rfl
  | .bool :: ks, nb, j => by
    unfold resA
    simp only [resA_shift d ys ks nb (j + 1)]
    rfl
  | .str :: ks, nb, j => by
    unfold resA
    simp only [resA_shift d ys ks nb (j + 1)]
    rfl
theorem ptrArg_spec {g : Cs} {av : AV} {id : Nat} {row : Row} {ds : List D} (h : ptrArg g av = some (id, row, ds)) : av = one (.ptr id 0) ∧ g id = some row ∧ rowD row = some ds := by
  unfold ptrArg at h
  split at h <;> try (cases h; done)
  split at h <;> try (cases h; done)
  rename_i hrow
  split at h <;> try (cases h; done)
  rename_i hds
  injection h with h; injection h with e1 h; injection h with e2 e3
  subst e1; subst e2; subst e3
  exact ⟨rfl, hrow, hds⟩
theorem scal_of_fits : ∀ {ds : List D} {ks : List Kd}, fits ds ks = true → ks.all scalK = true → ∀ d ∈ ds, d.scalar = true
  | [], _, _, _, d, hd => by simp at hd
  | x :: ds, [], h, _, d, hd => by simp [fits] at h
  | x :: ds, k :: ks, h, hk, d, hd => by
    unfold fits at h
    rw [Bool.and_eq_true] at h
    rw [List.all_cons, Bool.and_eq_true] at hk
    rcases List.mem_cons.mp hd with rfl | hd
    · have h1 := h.1
      have h2 := hk.1
      cases d <;> cases k <;> first | rfl | (simp [fitK] at h1; done) | (simp [scalK] at h2; done)
    · exact scal_of_fits h.2 hk.2 d hd
theorem gD_scal {z z' : Nat → Option Obj} {d : D} {v : Value} (hs : d.scalar = true) (h : gD P z d v) : gD P z' d v := by
  cases d with
  | list => cases hs
  | _ => unfold gD at h ⊢; exact h
theorem resL_blocks {w w' : World} {ys : List D} : ∀ {ks : List Kd} {j : Nat} {vs : List Value} {bs : List (Option (Nat × Nat × Nat))}, resL P w.heap.size w' ys j ks vs bs → ∀ b ∈ blocks bs, w.heap.size ≤ b
  | [], j, vs, bs, h, b, hb => by unfold resL at h; rw [h.2] at hb; simp [blocks] at hb
  | .list t :: ks, j, [], bs, h, b, hb => by cases bs <;> unfold resL at h <;> exact h.elim
  | .list t :: ks, j, v :: vs, [], h, b, hb => by unfold resL at h; exact h.elim
  | .list t :: ks, j, v :: vs, ob :: bs, h, b, hb => by
    unfold resL at h
    cases ob with
    | none => exact resL_blocks h.2 b (by simpa [blocks] using hb)
    | some x =>
      obtain ⟨b', o, N⟩ := x
      simp [blocks] at hb
      rcases hb with rfl | hb
      · exact h.1.choose_spec.choose_spec.2.2.2.1
      · exact resL_blocks h.2 b (by simpa [blocks] using hb)
  | .int k :: ks, j, [], bs, h, b, hb => by cases bs <;> unfold resL at h <;> exact h.elim
  | .bool :: ks, j, [], bs, h, b, hb => by cases bs <;> unfold resL at h <;> exact h.elim
  | .str :: ks, j, [], bs, h, b, hb => by cases bs <;> unfold resL at h <;> exact h.elim
  | .int k :: ks, j, v :: vs, bs, h, b, hb => by unfold resL at h; exact resL_blocks h.2 b hb
  | .bool :: ks, j, v :: vs, bs, h, b, hb => by unfold resL at h; exact resL_blocks h.2 b hb
  | .str :: ks, j, v :: vs, bs, h, b, hb => by unfold resL at h; exact resL_blocks h.2 b hb
theorem readR_spec {g : Cs} {s : Sig} {l : List AV} {id : Nat} {row : Row} {ds : List D} {pk rk : List Kd} {ns : List Prop} {xs : List D} (h : readR P g s l = some (id, row, ds, pk, rk, ns, xs)) :
    ∃ a0 rest pt pts as xs0, l = a0 :: rest ∧ s.params = pt :: pts ∧ ptrArg g a0 = some (id, row, ds) ∧ argCells P pts rest = some as ∧ ksAll P pts = some pk ∧ ksAll P s.results = some rk ∧ viewL P g as = some (ns, xs0) ∧ isPtr P pt = some row.t ∧ pk.all scalK = true ∧ fits (nilsTo xs0 pk) pk = true ∧ xs = nilsTo xs0 pk := by
  unfold readR at h
  split at h <;> try (cases h; done)
  rename_i a0 rest pt pts hp
  split at h <;> try (cases h; done)
  rename_i h1 h2 h3 h4
  split at h <;> try (cases h; done)
  rename_i ns' xs' h5
  split at h <;> try (cases h; done)
  rename_i hc
  injection h with h
  injection h with e1 h; injection h with e2 h; injection h with e3 h; injection h with e4 h; injection h with e5 h; injection h with e6 e7
  subst e1; subst e2; subst e3; subst e4; subst e5; subst e6; subst e7
  exact ⟨a0, rest, pt, pts, _, _, rfl, hp, h1, h2, h3, h4, h5, hc.1, hc.2.1, hc.2.2, rfl⟩
theorem resR_ids (z : Bool) (ys : List D) (nb : Nat) (rk : List Kd) : ∀ p ∈ (resR z ys nb rk).2, nb ≤ p.1 ∧ p.1 < nb + (if z = true then 0 else lists rk) := by
  intro p hp
  unfold resR at hp
  cases z with
  | true => simp at hp
  | false => simpa using resA_ids _ _ _ _ p hp
theorem execR_sound (hF : FnsOk P F) {nb : Nat} {o : Oper} {σ : St} {K : St → Tree} {f : Nat} {args : Array Operand} {s : Sig} {z : Bool} (hc : CallAt F o f args s) (hmd : s.md = .rd z) (h : (execR P nb o σ K f args s z).holds F J Q) (hi : Inv P w0 κ C w) (he : ∀ x, gAV P κ (evalR (opTmps o.op) σ.tmps x) (a.eval x))
    (hg : ∀ id row, restr σ.H (touch o.op σ) id = some row → C id = some row) (hfresh : ∀ id, nb ≤ id → id < nb + nNew P F o → C id = none ∧ κ.at_ id = none) {G : Act → World → Prop} {Qe : Exit → Act → World → Prop}
    (hG : ∀ κ' v w', After P w0 F J Q κ C nb o σ K κ' v w' → G (a.put o.dst v) w') : o.wp P a w G Qe := by
  unfold execR at h
  split at h <;> try (exact h.elim)
  rename_i id row ds pk rk ns xs hread
  split at h <;> try (exact h.elim)
  rename_i hroom
  obtain ⟨hn, h⟩ := Tree.holds_needs h
  unfold Tree.holds at h
  rw [hc.hs] at h
  simp only at h
  obtain ⟨hpre, hpost⟩ := h
  obtain ⟨a0, rest, pt, pts, as, xs0, e0, e1, e2, e3, e4, e5, e6, e7, e8, e9, rfl⟩ := readR_spec hread
  obtain ⟨⟨fn, f1, f2, f3⟩, hcall⟩ := hF f s hc.hs
  rw [hmd] at hcall
  have hnn : nNew P F o = nRes s rk := nNew_call hc (by rw [hmd]; simp) e5
  rw [hnn] at hfresh
  have hnr : nRes s rk = if z = true then 0 else lists rk := by unfold nRes; rw [hmd]; cases z <;> rfl
  have hvals := args_vals he args
  rw [e0] at hvals
  obtain ⟨p1, p2, p3⟩ := ptrArg_spec e2
  have hlen : (args.map a.eval).toList.length = rest.length + 1 := by
    have : (args.toList.map fun x => unl (evalR (opTmps o.op) σ.tmps x)).length = rest.length + 1 := by rw [e0]; rfl
    simpa using this
  obtain ⟨v0, vrest, hvs⟩ : ∃ v0 vrest, (args.map a.eval).toList = v0 :: vrest := by
    cases hv : (args.map a.eval).toList with
    | nil => rw [hv] at hlen; simp at hlen
    | cons x l => exact ⟨x, l, rfl⟩
  rw [hvs] at hvals hlen
  have hv0 : gAV P κ a0 v0 := by
    obtain ⟨v, q1, q2⟩ := hvals 0 a0 rfl
    simp at q1; subst q1; exact q2
  obtain ⟨cells, c1, c2⟩ := argCells_sound (vs := vrest) e3 (by simpa using hlen) (fun i av hi => by simpa using hvals (i + 1) av (by simpa using hi))
  rw [p1] at hv0
  obtain ⟨b, o', N, hat, hv0⟩ := hv0
  have hC := hg _ _ p2
  rcases (hi.live id row hC).ds p3 with ⟨g1, _⟩ | ⟨b2, o2, N2, arr, g1, g2, g3, g4, g5, g6⟩
  · rw [g1] at hat; cases hat
  rw [g1] at hat
  injection hat with hat; injection hat with q1 q2; injection q2 with q2 q3
  subst q1; subst q2; subst q3
  obtain ⟨v1, v2⟩ := viewL_sound hi hg e6 hn c2
  obtain ⟨n1, n2⟩ := nilsTo_sound (ks := pk) v2
  have hsc := scal_of_fits e9 e8
  obtain ⟨_, _, g8⟩ := fits_sels (P := P) (κ := ⟨fun _ => none, κ.z⟩) [] (nilsTo xs0 pk) pk cells e9 (by rw [n1, v1]) (fun j d hj => by
    obtain ⟨v, k1, k2⟩ := n2 j d hj
    exact ⟨v, k1, gD_scal (hsc d (List.mem_of_getElem? hj)) k2⟩)
  have hargs : args.map a.eval = (Value.pointer (some ⟨b2, o2, none⟩) :: vrest).toArray := by
    rw [← Array.toArray_toList (xs := args.map a.eval), hvs, hv0]; rfl
  unfold Oper.wp
  rw [enter_ok hc.hop f1 f2 f3, Oper.upon_enter, hargs]
  refine (hcall w κ.z vrest pt row.t pts (nilsTo xs0 pk) pk cells b2 o2 arr ds hi.z g2 g3 (by rw [g4]; exact g5) g6 e1 e7 e4 c1 e9 g8 hpre).mono ?_
  rintro e w' ⟨v, ys, ds', arr', rfl, hpo, hw, hh, hsz, hle, hres⟩
  have hdom : ∀ id' row', upd C [(id, some (.sym row.t ds'))] id' = some row' → ∃ r, C id' = some r := fun id' row' hr => by
    rw [upd_one] at hr
    split at hr
    · rename_i e; subst e; exact ⟨row, hC⟩
    · exact ⟨row', hr⟩
  have hinv : ∀ zX : Nat → Option Obj, (∀ b, b < w.heap.size → zX b = κ.z b) → (∀ b x, w.heap.size ≤ b → zX b = some x → w'.heap[b]? = some x) → seenAt P zX arr' o2 ds' → κ.le ⟨κ.at_, zX⟩ ∧ Inv P w0 ⟨κ.at_, zX⟩ (upd C [(id, some (.sym row.t ds'))]) w' := fun zX hz1 hz2 hseen => hi.wroteZ hw (ids := [id]) hz1 hz2 (fun b hb => by
      have : b = b2 := by simpa using hb
      subst this
      exact ⟨id, by simp, row, _, _, hC, g1⟩) (fun id' row' hr => by
      rw [upd_one] at hr
      split at hr
      · rename_i e
        subst e
        injection hr with hr
        subst hr
        refine .inr ⟨by simp, ⟨row, hC⟩, .inr ⟨b2, o2, N2, arr', g1, ?_, hh, by rw [hsz, g4], ?_, fun j a hj => ?_⟩⟩
        · show zX b2 = none
          rw [hz1 b2 (block_of g3)]; exact g2
        · show o2 + (ds'.map A.d).length ≤ N2
          rw [List.length_map, ← g4, ← hsz]; exact hle
        · simp only [Row.as, List.getElem?_map] at hj
          obtain ⟨d, hd, rfl⟩ := Option.map_eq_some_iff.mp hj
          exact hseen j d hd
      · rename_i e
        exact .inl ⟨by simpa using e, hr⟩)
  have hK := hpost _ hpo
  split at hK <;> try (exact hK.elim)
  rename_i l hl
  have hsel : selL (.list 0 0 ds' :: ys) 0 = ds' := rfl
  rw [hsel] at hK
  have hids : ∀ p ∈ ((id, some (Row.sym row.t ds')) :: (resR z (.list 0 0 ds' :: ys) nb rk).2 : Us), (∃ row, restr σ.H (touch o.op σ) p.1 = some row) ∨ (nb ≤ p.1 ∧ p.1 < nb + nNew P F o) := fun p hp => by
    rcases List.mem_cons.mp hp with rfl | hp
    · exact .inl ⟨_, p2⟩
    · rw [hnn, hnr]; exact .inr (resR_ids _ _ _ _ p hp)
  have hoku : okU σ.H.length ((id, some (Row.sym row.t ds')) :: (resR z (.list 0 0 ds' :: ys) nb rk).2) = true := by
    refine List.all_eq_true.mpr (fun p hp => decide_eq_true ?_)
    rcases List.mem_cons.mp hp with rfl | hp
    · exact hroom.2
    · have := resR_ids _ _ _ _ p hp
      rw [hnr] at hroom
      omega
  cases z with
  | true =>
    obtain ⟨⟨ks', cells', vs', k1, k2, k3, k4, rfl⟩, hseen⟩ := hres
    rw [e5] at k1
    injection k1 with k1
    subst k1
    obtain ⟨a1, a2⟩ := hinv (zNew κ.z w w') (fun b hb => by unfold zNew; rw [if_pos hb]) (fun b x hb hx => by unfold zNew at hx; rw [if_neg (by omega)] at hx; exact hx) hseen
    have hR : resR true (.list 0 0 ds' :: ys) nb rk = (sels ys 0 rk, []) := by unfold resR; rw [if_pos rfl, sels_shift]
    rw [hR] at hl hK hids hoku
    exact hG _ _ w' ⟨[(id, some (.sym row.t ds'))], wrapR l, a1, a2, fun k hk => rfl, wrapR_sound (splitV_sound hl k3 (k4.mono (Kr.le_z (κ := ⟨κ.at_, zNew κ.z w w'⟩)))), hoku, hids, hK⟩
  | false =>
    obtain ⟨ks', cells', vs', bs, k1, k2, k3, k4, k5, rfl, hseen⟩ := hres
    rw [e5] at k1
    injection k1 with k1
    subst k1
    have hbk := resL_blocks k5
    rw [hnr] at hfresh
    obtain ⟨a0', a0i⟩ := hinv (zBut κ.z w w' (blocks bs)) (fun b hb => by unfold zBut; rw [if_pos hb]) (fun b x hb hx => by
      unfold zBut at hx
      rw [if_neg (by omega)] at hx
      split at hx
      · cases hx
      · exact hx) hseen
    obtain ⟨κ', a1, a2, a3, a4, _⟩ := res_sound (nb := nb) a0i k5 k4 (fun id' q1 q2 => by
        have := hfresh id' q1 (by simpa using q2)
        refine ⟨?_, this.2⟩
        rw [upd_one, if_neg (fun e => by subst e; rw [hC] at this; cases this.1)]
        exact this.1) (fun id' row' b o N hr ha hb => by
        obtain ⟨r, hr0⟩ := hdom id' row' hr
        have h1 := hbk b hb
        have := hi.atlt hr0 ha
        omega) (fun b hb => by
        have h1 := hbk b hb
        refine ⟨?_, .inl (Nat.le_trans hi.size h1)⟩
        show zBut κ.z w w' (blocks bs) b = none
        unfold zBut
        rw [if_neg (by omega), if_pos hb])
    have hR : resR false (.list 0 0 ds' :: ys) nb rk = resA ys nb 0 rk := by unfold resR; rw [if_neg (by simp), resA_shift]
    rw [hR] at hl hK hids hoku
    exact hG κ' _ w' ⟨(id, some (.sym row.t ds')) :: (resA ys nb 0 rk).2, wrapR l, a0'.trans a1, a2, fun k hk => a4 k (fun p hp => hk p (List.mem_cons_of_mem _ hp)), wrapR_sound (splitV_sound hl k3 a3), hoku, hids, hK⟩
theorem readO_spec {g : Cs} {s : Sig} {l : List AV} {t : Nat} {pk : List Kd} {ns : List Prop} {xs : List D} (h : readO P g s l = some (t, pk, ns, xs)) :
    ∃ as pt xs0, argCells P s.params l = some as ∧ ksAll P s.params = some pk ∧ s.results = [pt] ∧ frzL P g as = some (ns, xs0, []) ∧ isPtr P pt = some t ∧ fits (nilsTo xs0 pk) pk = true ∧ xs = nilsTo xs0 pk := by
  unfold readO at h
  split at h <;> try (cases h; done)
  rename_i h1 h2 h3
  split at h <;> try (cases h; done)
  rename_i h4 h5
  split at h <;> try (cases h; done)
  rename_i h6
  injection h with h
  injection h with e1 h; injection h with e2 h; injection h with e3 e4
  subst e1; subst e2; subst e3; subst e4
  exact ⟨_, _, _, h1, h2, h3, h4, h5, h6, rfl⟩
theorem execO_sound (hF : FnsOk P F) {nb : Nat} {o : Oper} {σ : St} {K : St → Tree} {f : Nat} {args : Array Operand} {s : Sig} (hc : CallAt F o f args s) (hmd : s.md = .op) (h : (execO P nb o σ K f args s).holds F J Q) (hi : Inv P w0 κ C w) (he : ∀ x, gAV P κ (evalR (opTmps o.op) σ.tmps x) (a.eval x))
    (hg : ∀ id row, restr σ.H (touch o.op σ) id = some row → C id = some row) (hfresh : ∀ id, nb ≤ id → id < nb + nNew P F o → C id = none ∧ κ.at_ id = none) {G : Act → World → Prop} {Qe : Exit → Act → World → Prop}
    (hG : ∀ κ' v w', After P w0 F J Q κ C nb o σ K κ' v w' → G (a.put o.dst v) w') : o.wp P a w G Qe := by
  unfold execO at h
  split at h <;> try (exact h.elim)
  rename_i t pk ns xs hread
  split at h <;> try (exact h.elim)
  rename_i hroom
  obtain ⟨hn, h⟩ := Tree.holds_needs h
  unfold Tree.holds at h
  rw [hc.hs] at h
  simp only at h
  obtain ⟨hpre, hpost⟩ := h
  obtain ⟨as, pt, xs0, e1, e2, e3, e4, e5, e6, rfl⟩ := readO_spec hread
  obtain ⟨⟨fn, f1, f2, f3⟩, hcall⟩ := hF f s hc.hs
  rw [hmd] at hcall
  have hnn : nNew P F o = 1 := by unfold nNew; rw [hc.hcf]; simp only; rw [hc.hs]; simp only; rw [hmd]
  rw [hnn] at hfresh
  obtain ⟨cells, c1, c2⟩ := argCells_sound (vs := (args.map a.eval).toList) e1 (by simp) (args_vals he args)
  obtain ⟨κ1, q1, q2, q3, v1, v2⟩ := frzL_sound e4 hn hi (fun id _ row hr => hg id row hr) c2
  have q3' : Inv P w0 κ1 C w := q3
  obtain ⟨n1, n2⟩ := nilsTo_sound (ks := pk) v2
  obtain ⟨_, _, g3⟩ := fits_sels (P := P) (κ := ⟨fun _ => none, κ1.z⟩) [] (nilsTo xs0 pk) pk cells e6 (by rw [n1, v1]) n2
  unfold Oper.wp
  rw [enter_ok hc.hop f1 f2 f3, Oper.upon_enter]
  refine (hcall w κ1.z (args.map a.eval) (nilsTo xs0 pk) pk cells pt t q3'.z e3 e5 e2 c1 e6 g3 hpre).mono ?_
  rintro e w' ⟨g, arr, ds', rfl, hpo, hbel, hge, hh, hle, hseen⟩
  have hi' := q3'.below hbel
  obtain ⟨hf1, hf2⟩ := hfresh nb (Nat.le_refl _) (by omega)
  have hzg : κ1.z g = none := by
    cases hz : κ1.z g with
    | none => rfl
    | some x => have := q3'.zlt hz; omega
  obtain ⟨k1, k2⟩ := hi'.add (id := nb) (b := g) (o := 0) (N := arr.size) hf1 (by rw [q2]; exact hf2) (.sym t ds') arr hzg (.inl (Nat.le_trans hi.size hge)) hh rfl (by show 0 + (ds'.map A.d).length ≤ _; simpa using hle) (fun j a hj => by
    simp only [Row.as, List.getElem?_map] at hj
    obtain ⟨d, hd, rfl⟩ := Option.map_eq_some_iff.mp hj
    exact hseen j d hd) (fun k r o' N' hk ha => by
    have := q3'.atlt hk ha
    omega)
  have hK := hpost _ hpo
  have hsel : selL [.list 0 0 ds'] 0 = ds' := rfl
  rw [hsel] at hK
  refine hG _ _ w' ⟨[(nb, some (.sym t ds'))], one (.ptr nb 0), q1.trans k1, k2, fun k hk => ?_, ⟨g, 0, arr.size, by simp [Kr.put], by simp⟩, List.all_eq_true.mpr (fun p hp => decide_eq_true ?_), fun p hp => .inr ?_, hK⟩
  · have : k ≠ nb := fun e => hk (nb, some (.sym t ds')) (by simp) e.symm
    rw [put_other this, q2]
  · have : p = (nb, some (.sym t ds')) := by simpa using hp
    subst this
    simp only
    omega
  · have : p = (nb, some (.sym t ds')) := by simpa using hp
    subst this
    rw [hnn]
    simp only
    omega
theorem call_op {o : Oper} {f : Nat} {args : Array Operand} (hcf : isCallF o.op = some (f, args)) : ∃ ts, o.op = .call ⟨.value (.func f), args, ts⟩ := by
  unfold isCallF at hcf
  split at hcf <;> try (cases hcf; done)
  rename_i f' args' ts hop
  injection hcf with hcf
  injection hcf with h1 h2
  subst h1; subst h2
  exact ⟨ts, hop⟩
theorem exec_sound (hF : FnsOk P F) {nb : Nat} {o : Oper} {σ : St} {K : St → Tree} (h : (exec P F nb o σ K).holds F J Q) (hi : Inv P w0 κ C w) (he : ∀ x, gAV P κ (evalR (opTmps o.op) σ.tmps x) (a.eval x))
    (hg : ∀ id row, restr σ.H (touch o.op σ) id = some row → C id = some row) (hfresh : ∀ id, nb ≤ id → id < nb + nNew P F o → C id = none ∧ κ.at_ id = none) {G : Act → World → Prop} {Qe : Exit → Act → World → Prop}
    (hG : ∀ κ' v w', After P w0 F J Q κ C nb o σ K κ' v w' → G (a.put o.dst v) w') : o.wp P a w G Qe := by
  unfold exec at h
  split at h
  · rename_i f args hcf
    have hop : ∃ ts, o.op = .call ⟨.value (.func f), args, ts⟩ := by
      unfold isCallF at hcf
      split at hcf <;> try (cases hcf; done)
      rename_i f' args' ts hop
      injection hcf with hcf
      injection hcf with h1 h2
      subst h1; subst h2
      exact ⟨ts, hop⟩
    split at h <;> try (exact h.elim)
    rename_i s hs
    have hc : CallAt F o f args s := ⟨hcf, hop, hs⟩
    split at h
    · rename_i z hmd; exact execR_sound hF hc hmd h hi he hg hfresh hG
    · rename_i hmd; exact execO_sound hF hc hmd h hi he hg hfresh hG
    · exact execC_sound hF hc h hi he hg hfresh hG
  · rename_i hcf
    have hnn : nNew P F o = if isNew o.op = true then 1 else 0 := by unfold nNew; rw [hcf]
    split at h <;> try (exact h.elim)
    rename_i ns av us hm
    split at h <;> try (exact h.elim)
    rename_i hok
    obtain ⟨hn, hK⟩ := Tree.holds_needs h
    obtain ⟨n, κ', w', r1, r2, r3, r4, r5⟩ := mOp_sound (o := o) hi (unlE_sound he) hg hm hn (fun hnew => hfresh _ (Nat.le_refl _) (by rw [hnn, if_pos hnew]; omega))
    have hids : ∀ p ∈ us, (∃ row, restr σ.H (touch o.op σ) p.1 = some row) ∨ (nb ≤ p.1 ∧ p.1 < nb + nNew P F o) := fun p hp => (mOp_ids hm p hp).imp (fun h => h.1) (fun ⟨e1, e2⟩ => by rw [hnn, if_pos e2]; omega)
    unfold Oper.wp
    rw [r1]
    rcases r5 with ⟨v, rfl, hv⟩ | ⟨rfl, rfl⟩
    · exact hG κ' v w' ⟨us, av, r2, r3, r4, hv, hok, hids, hK⟩
    · exact hG κ' undef w' ⟨us, anyV, r2, r3, r4, trivial, hok, hids, hK⟩
end
end Go.Proofs.Ytgoheolehnahkaa.Mini
