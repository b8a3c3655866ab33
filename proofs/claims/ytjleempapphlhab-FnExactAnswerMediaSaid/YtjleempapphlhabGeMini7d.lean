/- Parts of the proof: Mini7d. -/
import Derived.Test.YtjleempapphlhabGeMini7
section
namespace Go.Proofs.Ytjleempapphlhab.Mini
open Go Go.RowKit
set_option linter.unusedVariables false
section
variable {P : Program} {w0 : Bs} {κ : Kr} {C : Cs} {w w' : World} {F : Tb}
/-- A list within a row of the call's own, as it is seen. -/
theorem inner_view (hi : InvE P w0 κ C w) {id t j u n : Nat} {ds l : List D} (hC : C id = some (.deep t ds)) (hb : id < big) (hd : ds[j]? = some (.list u n l)) (ho : ownL (.list u n l) = true) (hl : l.length = n * sz P u) {x : Value} (hx : gA P κ (.sl u (inn id j) 0 n) x) :
    gD P (Kr.of w).z (.list u n l) x := by
  have hrow : expand C (inn id j) = some (.sym u l) := by rw [expand_inn hb, hC]; exact innR_own hd ho
  have hf : frz P (fun k => if k = inn id j then some (.sym u l) else none) (.sl u (inn id j) 0 n) = some ([(0 + n) * sz P u ≤ l.length], .list u n ((l.drop (0 * sz P u)).take (n * sz P u)), [inn id j]) := by
    unfold frz
    simp only [if_true]
    rfl
  have := frz_view hf ⟨by rw [Nat.zero_add, hl]; exact Nat.le_refl _, trivial⟩ hi (fun k row hk => by
    split at hk
    · rename_i e; subst e; injection hk with hk; subst hk; exact hrow
    · cases hk) hx
  rw [Nat.zero_mul, List.drop_zero, List.take_of_length_le (by omega)] at this
  exact this
theorem deepC_view (hi : InvE P w0 κ C w) {id t j : Nat} {ds : List D} {d : D} (hC : C id = some (.deep t ds)) (hb : id < big) (hd : ds[j]? = some d) (hfl : flat1 P d) {x : Value} (hx : gA P κ (deepC id j d) x) : gD P (Kr.of w).z d x := by
  cases ho : ownL d with
  | false =>
    rw [deepC_not ho] at hx
    exact gD.mono hi.z hx
  | true =>
    obtain ⟨u, n, l, rfl⟩ := ownL_list ho
    rw [deepC_own ho] at hx
    exact inner_view hi hC hb hd ho hfl.1 hx
theorem viewA_sound (hi : InvE P w0 κ C w) {g : Cs} (hg : ∀ id row, g id = some row → C id = some row ∧ id < big) {a : A} {n : List Prop} {d : D} (h : viewA P g a = some (n, d)) (hn : all_ n) {v : Value} (hv : gA P κ a v) : gD P (Kr.of w).z d v := by
  have plain : ∀ {n : List Prop} {d : D}, (match frz P (nd g) a with | some (n, d, _) => some (n, d) | none => none) = some (n, d) → all_ n → gD P (Kr.of w).z d v := fun {n d} h hn => by
    split at h <;> try (cases h; done)
    rename_i n' d' ks hf
    injection h with h; injection h with e1 e2
    subst e1; subst e2
    exact frz_view hf hn hi (nd_expand hg) hv
  unfold viewA at h
  split at h
  · rename_i t id off len
    split at h
    · rename_i u ds hrow
      split at h <;> try (cases h; done)
      rename_i hu
      subst hu
      injection h with h; injection h with e1 e2
      subst e1; subst e2
      obtain ⟨hle, hfl, _⟩ := hn
      obtain ⟨hC, hb⟩ := hg _ _ hrow
      obtain ⟨Ad, c, rfl, hc, hv⟩ := hv
      rw [Nat.add_mul] at hle
      have hl : ((ds.drop (off * sz P u)).take (len * sz P u)).length = len * sz P u := by simp; omega
      unfold gD
      refine ⟨Ad, c, rfl, hc, hl, ?_⟩
      rcases hv with ⟨hv, _⟩ | ⟨b, o, N, hat, rfl, _⟩
      · exact .inl hv
      rcases deep_in hi hC hb with ⟨g1, _⟩ | ⟨b2, o2, N2, arr, g1, g2, g3, g4, g5, g6⟩
      · rw [g1] at hat; cases hat
      rw [g1] at hat
      injection hat with hat; injection hat with e1 e2; injection e2 with e2 e3
      subst e1; subst e2; subst e3
      refine .inr ⟨b2, o2 + off * sz P u, arr, u, (0, 0), rfl, g3, gDs.of fun j d hj => ?_⟩
      have hjl : j < len * sz P u := by have := (List.getElem?_eq_some_iff.mp hj).1; rwa [hl] at this
      have hmem : d ∈ (ds.drop (off * sz P u)).take (len * sz P u) := List.mem_of_getElem? hj
      rw [List.getElem?_take_of_lt hjl, List.getElem?_drop] at hj
      obtain ⟨x, k1, k2⟩ := g6 _ d hj
      refine ⟨x, ?_, deepC_view hi hC hb hj (hfl d hmem) k2⟩
      rw [List.getElem?_drop, show o2 + off * sz P u + j = o2 + (off * sz P u + j) by omega]
      simpa using k1
    · exact plain h hn
  · rename_i t id p m
    split at h <;> try (cases h; done)
    rename_i u ds hrow
    split at h <;> try (cases h; done)
    rename_i ht
    injection h with h; injection h with e1 e2
    subst e1; subst e2
    obtain ⟨hC, hb⟩ := hg _ _ hrow
    exact inner_view hi hC hb hn.1 (ownL_ne ht) hn.2.1 hv
  · exact plain h hn
theorem viewX_sound (hi : InvE P w0 κ C w) {g : Cs} (hg : ∀ id row, g id = some row → C id = some row ∧ id < big) : ∀ {l : List A} {n : List Prop} {ds : List D} {vs : List Value}, viewX P g l = some (n, ds) → all_ n → gL P κ l vs →
    ds.length = vs.length ∧ ∀ (j : Nat) (d : D), ds[j]? = some d → ∃ v, vs[j]? = some v ∧ gD P (Kr.of w).z d v
  | [], n, ds, vs, h, hn, hv => by
    injection h with h; injection h with h1 h2
    subst h2
    exact ⟨hv.len, fun j d hj => by simp at hj⟩
  | a :: l, n, ds, v :: vs, h, hn, ⟨hv1, hv2⟩ => by
    unfold viewX at h
    split at h <;> try (cases h; done)
    rename_i n1 d n2 ds2 h1 h2
    injection h with h; injection h with e1 e2
    subst e1; subst e2
    obtain ⟨hn1, hn2⟩ := all_append hn
    obtain ⟨q1, q2⟩ := viewX_sound hi hg h2 hn2 hv2
    refine ⟨by simp [q1], fun j d' hj => ?_⟩
    cases j with
    | zero => simp at hj; subst hj; exact ⟨v, rfl, viewA_sound hi hg h1 hn1 hv1⟩
    | succ j => simpa using q2 j d' (by simpa using hj)
/-- Names within what lies nowhere are not in use. -/
theorem dead_none (hi : InvE P w0 κ C w) {k : Nat} (hk : ¬ k < big) (hx : κ.at_ (innA k) = none) : expand C k = none := by
  obtain ⟨f1, f2⟩ := inn_of hk
  rw [f1, expand_inn f2]
  cases hc : C (innA k) with
  | none => rfl
  | some r =>
    cases r with
    | deep t ds =>
      rcases deep_in hi hc f2 with ⟨_, g⟩ | ⟨b, o, N, arr, g, _⟩
      · subst g; rfl
      · rw [hx] at g; cases g
    | fix t l => rfl
    | sym t l => rfl
theorem mem_kill {ks : List Nat} {k : Nat} : ks.contains k = true ↔ k ∈ ks := by simp
theorem free_kill (hi : InvE P w0 κ C w) (hf : FreeN w0 κ C) {ks : List Nat} (hb : ∀ k ∈ ks, k < big) {κ' : Kr} (ha : κ'.at_ = κ.at_) : FreeN w0 κ' (upd C (kill ks)) := by
  have hgone : ∀ k, innA k ∈ ks ∨ C (innA k) = none → κ.at_ (innA k) ≠ none → goneN κ' (upd C (kill ks)) k := fun k h1 h2 => ⟨by
    rw [upd_kill]
    split
    · rfl
    · rename_i h
      rcases h1 with h1 | h1
      · exact absurd (mem_kill.mpr h1) h
      · exact h1, by rw [ha]; exact h2⟩
  have hsame : ∀ k, ¬ k < big → innA k ∉ ks → expand (upd C (kill ks)) k = expand C k := fun k hk hm => by
    obtain ⟨f1, f2⟩ := inn_of hk
    rw [f1, expand_inn f2, expand_inn f2, upd_kill, if_neg (fun h => hm (mem_kill.mp h))]
  refine ⟨fun k hk he => ?_, fun k hk hp => ?_⟩
  · by_cases hx : κ.at_ (innA k) = none
    · rcases hf.1 k hk (dead_none hi hk hx) with h | ⟨_, h⟩
      · exact .inl (by rw [ha]; exact h)
      · exact absurd hx h
    · by_cases hm : innA k ∈ ks
      · exact .inr (hgone k (.inl hm) hx)
      · rw [hsame k hk hm] at he
        rcases hf.1 k hk he with h | ⟨h, _⟩
        · exact .inl (by rw [ha]; exact h)
        · exact .inr (hgone k (.inr h) hx)
  · rcases hf.2 k hk hp with ⟨g1, g2⟩ | ⟨g1, g2⟩
    · by_cases hx : κ.at_ (innA k) = none
      · exact absurd (dead_none hi hk hx) g1
      · by_cases hm : innA k ∈ ks
        · exact .inr (hgone k (.inl hm) hx)
        · exact .inl ⟨by rw [hsame k hk hm]; exact g1, by rw [ha]; exact g2⟩
    · exact .inr (hgone k (.inr g1) g2)
theorem kill_cons (k : Nat) (ks : List Nat) (C : Cs) : upd C (kill (k :: ks)) = upd (upd C (kill [k])) (kill ks) := by
  rw [← upd_append]; rfl
/-- Cells of a list of the call's own are not to be written any more, nor the lists in them. -/
theorem frz_cells {id : Nat} (hid : id < big) : ∀ {cells : List D} {j : Nat} {vals : List Value} {κ : Kr} {E : Cs}, Inv P w0 κ E w → flatDs P cells → (∀ (q u n : Nat) (l : List D), cells[q]? = some (.list u n l) → ownL (.list u n l) = true → E (inn id (j + q)) = some (.sym u l)) → gL P κ (deepA id j cells) vals →
    ∃ (κ' : Kr) (ks : List Nat), κ.le κ' ∧ κ'.at_ = κ.at_ ∧ Inv P w0 κ' (upd E (kill ks)) w ∧ (∀ k ∈ ks, ∃ q, k = inn id (j + q)) ∧ ∀ (q : Nat) (d : D), cells[q]? = some d → ∃ x, vals[q]? = some x ∧ gD P κ'.z d x
  | [], j, vals, κ, E, hi, hfl, hE, hg => ⟨κ, [], Kr.le.refl κ, rfl, hi, fun k hk => by simp at hk, fun q d hq => by simp at hq⟩
  | d :: cells, j, [], κ, E, hi, hfl, hE, hg => hg.elim
  | d :: cells, j, v :: vals, κ, E, hi, hfl, hE, ⟨hv, hg⟩ => by
    have hfl' : flatDs P cells := fun x hx => hfl x (List.mem_cons_of_mem _ hx)
    cases ho : ownL d with
    | false =>
      rw [deepC_not ho] at hv
      obtain ⟨κ', ks, a1, a2, a3, a4, a5⟩ := frz_cells hid (j := j + 1) hi hfl' (fun q u n l hq h => by rw [show j + 1 + q = j + (q + 1) by omega]; exact hE (q + 1) u n l (by simpa using hq) h) hg
      refine ⟨κ', ks, a1, a2, a3, fun k hk => ?_, fun q d' hq => ?_⟩
      · obtain ⟨q, rfl⟩ := a4 k hk
        exact ⟨q + 1, by rw [show j + (q + 1) = j + 1 + q by omega]⟩
      · cases q with
        | zero => simp at hq; subst hq; exact ⟨v, rfl, gD.mono a1.z hv⟩
        | succ q => simpa using a5 q d' (by simpa using hq)
    | true =>
      obtain ⟨u, n, l, rfl⟩ := ownL_list ho
      rw [deepC_own ho] at hv
      have hrow : E (inn id j) = some (.sym u l) := hE 0 u n l rfl ho
      have hl : l.length = n * sz P u := (hfl (.list u n l) (by simp)).1
      have hf1 : frz P E (.sl u (inn id j) 0 n) = some ([(0 + n) * sz P u ≤ l.length], .list u n ((l.drop (0 * sz P u)).take (n * sz P u)), [inn id j]) := by
        unfold frz
        simp only [hrow]
        rfl
      obtain ⟨κ1, b1, b2, b3, b4⟩ := frz_sound hf1 ⟨by rw [Nat.zero_add, hl]; exact Nat.le_refl _, trivial⟩ hi (fun k hk row hr => hr) hv
      rw [Nat.zero_mul, List.drop_zero, List.take_of_length_le (by omega)] at b4
      obtain ⟨κ', ks, a1, a2, a3, a4, a5⟩ := frz_cells hid (j := j + 1) b3 hfl' (fun q u' n' l' hq h => by
        rw [upd_kill, if_neg (fun hc => ?_), show j + 1 + q = j + (q + 1) by omega]
        · exact hE (q + 1) u' n' l' (by simpa using hq) h
        · have := mem_kill.mp hc
          simp at this
          have := (inn_inj hid hid this).2
          omega) (hg.mono b1)
      refine ⟨κ', inn id j :: ks, b1.trans a1, a2.trans b2, by rw [kill_cons]; exact a3, fun k hk => ?_, fun q d' hq => ?_⟩
      · rcases List.mem_cons.mp hk with rfl | hk
        · exact ⟨0, rfl⟩
        · obtain ⟨q, rfl⟩ := a4 k hk
          exact ⟨q + 1, by rw [show j + (q + 1) = j + 1 + q by omega]⟩
      · cases q with
        | zero => simp at hq; subst hq; exact ⟨v, rfl, gD.mono a1.z b4⟩
        | succ q => simpa using a5 q d' (by simpa using hq)
/-- A list of the call's own, with lists of its own, is not to be written any more. -/
theorem freeze_deep (hi : InvE P w0 κ C w) {id t off len : Nat} {ds : List D} (hC : C id = some (.deep t ds)) (hb : id < big) (hl : (off + len) * sz P t ≤ ds.length) (hfl : flatDs P ((ds.drop (off * sz P t)).take (len * sz P t))) {v : Value} (hv : gA P κ (.sl t id off len) v) :
    ∃ κ', κ.le κ' ∧ κ'.at_ = κ.at_ ∧ InvE P w0 κ' (upd C (kill [id])) w ∧ gD P κ'.z (.list t len ((ds.drop (off * sz P t)).take (len * sz P t))) v := by
  have hlen : ((ds.drop (off * sz P t)).take (len * sz P t)).length = len * sz P t := by
    rw [Nat.add_mul] at hl
    simp; omega
  have gone : ∀ (E : Cs) (ks : List Nat), (∀ k ∈ ks, ∃ q, k = inn id q) → ∀ k r, expand (upd C (kill [id])) k = some r → k ≠ id ∧ upd (expand C) (kill ks) k = some r := fun E ks hks k r hk => by
    have hex : k ≠ id ∧ expand C k = some r ∧ ∀ q, k ≠ inn id q := by
      by_cases hkb : k < big
      · rw [expand_ord hkb, upd_kill] at hk
        split at hk
        · cases hk
        · rename_i h
          refine ⟨fun e => h (by simp [e]), by rw [expand_ord hkb]; exact hk, fun q e => by rw [e] at hkb; exact inn_big hkb⟩
      · obtain ⟨f1, f2⟩ := inn_of hkb
        rw [f1, expand_inn f2, upd_kill] at hk
        split at hk
        · cases hk
        · rename_i h
          exact ⟨fun e => by rw [e] at hkb; exact hkb hb, by rw [f1, expand_inn f2]; exact hk, fun q e => by rw [f1] at e; exact h (by simp [(inn_inj f2 hb e).1])⟩
    refine ⟨hex.1, ?_⟩
    rw [upd_kill, if_neg (fun hc => ?_)]
    · exact hex.2.1
    · obtain ⟨q, hq⟩ := hks k (mem_kill.mp hc)
      exact hex.2.2 q hq
  obtain ⟨Ad, c, rfl, hc, hv⟩ := hv
  rcases hv with ⟨rfl, rfl⟩ | ⟨b, o, N, hat, rfl, hfit⟩
  · refine ⟨κ, Kr.le.refl κ, rfl, Inv.less hi (fun k r hk => ?_), ?_⟩
    · have := (gone (expand C) [] (fun k hk => by simp at hk) k r hk).2
      exact this
    · unfold gD
      exact ⟨Ad, 0, rfl, Nat.le_refl _, hlen, .inl rfl⟩
  · rw [Nat.add_mul] at hl
    rcases deep_in hi hC hb with ⟨g1, _⟩ | ⟨b2, o2, N2, arr, g1, g2, g3, g4, g5, g6⟩
    · rw [g1] at hat; cases hat
    rw [g1] at hat
    injection hat with hat; injection hat with e1 e2; injection e2 with e2 e3
    subst e1; subst e2; subst e3
    have hvl : ((arr.toList.drop (o2 + off * sz P t)).take (len * sz P t)).length = len * sz P t := by simp; omega
    have hdk : ∀ (q : Nat) (d : D), ((ds.drop (off * sz P t)).take (len * sz P t))[q]? = some d → ds[off * sz P t + q]? = some d := fun q d hq => by
      have hql := (List.getElem?_eq_some_iff.mp hq).1
      rw [hlen] at hql
      rw [List.getElem?_take_of_lt hql, List.getElem?_drop] at hq
      exact hq
    obtain ⟨κ1, ks, a1, a2, a3, a4, a5⟩ := frz_cells hb (cells := (ds.drop (off * sz P t)).take (len * sz P t)) (j := off * sz P t) (vals := (arr.toList.drop (o2 + off * sz P t)).take (len * sz P t)) hi hfl (fun q u n l hq ho => by
      rw [expand_inn hb, hC]
      exact innR_own (hdk q _ hq) ho) (gL.of (by rw [deepA_len, hlen, hvl]) (fun q a hq => by
      rw [deepA_at] at hq
      obtain ⟨d, hd, rfl⟩ := Option.map_eq_some_iff.mp hq
      have hql := (List.getElem?_eq_some_iff.mp hd).1
      rw [hlen] at hql
      obtain ⟨x, k1, k2⟩ := g6 _ d (hdk q d hd)
      refine ⟨x, ?_, k2⟩
      rw [List.getElem?_take_of_lt hql, List.getElem?_drop, Nat.add_assoc]
      simpa using k1))
    have hrow : upd (expand C) (kill ks) id = some (.fix t (deepA id 0 ds)) := by
      rw [upd_kill, if_neg (fun hc => ?_), expand_ord hb, hC]
      · rfl
      · obtain ⟨q, hq⟩ := a4 id (mem_kill.mp hc)
        rw [hq] at hb; exact inn_big hb
    obtain ⟨κ2, arr2, q1, q2, q3, q4, q5, q6, q7⟩ := a3.freeze hrow (by rw [a2]; exact g1)
    rw [g3] at q3
    injection q3 with q3; injection q3 with q3
    subst q3
    refine ⟨κ2, a1.trans q1, q2.trans a2, q7.less (fun k r hk => ?_), ?_⟩
    · obtain ⟨h1, h2⟩ := gone (expand C) ks (fun k hk => by obtain ⟨q, hq⟩ := a4 k hk; exact ⟨_, hq⟩) k r hk
      rw [upd_one, if_neg h1]
      exact h2
    · unfold gD
      refine ⟨_, c, rfl, hc, hlen, .inr ⟨b2, o2 + off * sz P t, arr, t, (0, 0), rfl, q4, gDs.of fun j d hj => ?_⟩⟩
      have hjl := (List.getElem?_eq_some_iff.mp hj).1
      rw [hlen] at hjl
      obtain ⟨x, k1, k2⟩ := a5 j d hj
      refine ⟨x, ?_, gD.mono q1.z k2⟩
      rw [List.getElem?_take_of_lt hjl] at k1
      exact k1
/-- As frz_sound. -/
theorem frzE_sound (hi : InvE P w0 κ C w) {g : Cs} {a : A} {n : List Prop} {d : D} {ks : List Nat} (h : frzE P g a = some (n, d, ks)) (hn : all_ n) (hg : ∀ id, id ∈ ks → ∀ row, g id = some row → C id = some row ∧ id < big) (hks : ∀ k ∈ ks, ∃ row, g k = some row) {v : Value} (hv : gA P κ a v) :
    ∃ κ', κ.le κ' ∧ κ'.at_ = κ.at_ ∧ InvE P w0 κ' (upd C (kill ks)) w ∧ gD P κ'.z d v := by
  have plain : frz P (nd g) a = some (n, d, ks) → ∃ κ', κ.le κ' ∧ κ'.at_ = κ.at_ ∧ InvE P w0 κ' (upd C (kill ks)) w ∧ gD P κ'.z d v := fun h => by
    have hE : ∀ k ∈ ks, ∀ row, nd g k = some row → expand C k = some row := fun k hk row hr => by
      obtain ⟨r1, r2⟩ := nd_some hr
      obtain ⟨r3, r4⟩ := hg k hk row r1
      rw [expand_ord r4, r3]
      rw [r1] at r2
      exact outR_plain r2
    obtain ⟨κ', b1, b2, b3, b4⟩ := frz_sound h hn (show Inv P w0 κ (expand C) w from hi) hE hv
    exact ⟨κ', b1, b2, b3.less (expand_upd (fun _ _ h => h) (fun p hp => by
      unfold kill at hp
      obtain ⟨k, hk, rfl⟩ := List.mem_map.mp hp
      obtain ⟨row, hr⟩ := hks k hk
      exact ⟨(hg k hk row hr).2, rfl⟩)), b4⟩
  unfold frzE at h
  split at h
  · rename_i t id off len
    split at h
    · rename_i u ds hrow
      split at h <;> try (cases h; done)
      rename_i hu
      subst hu
      injection h with h; injection h with e1 e2; injection e2 with e2 e3
      subst e1; subst e2; subst e3
      obtain ⟨hC, hb⟩ := hg id (by simp) _ hrow
      exact freeze_deep hi hC hb hn.1 hn.2.1 hv
    · exact plain h
  · exact plain h
theorem frzE_ids {g : Cs} {a : A} {n : List Prop} {d : D} {ks : List Nat} (h : frzE P g a = some (n, d, ks)) : ∀ k ∈ ks, ∃ row, g k = some row := by
  have plain : frz P (nd g) a = some (n, d, ks) → ∀ k ∈ ks, ∃ row, g k = some row := fun h k hk => by
    unfold frz at h
    split at h <;> try (cases h; done)
    · injection h with h; injection h with h1 h2; injection h2 with h2 h3
      subst h3; simp at hk
    · injection h with h; injection h with h1 h2; injection h2 with h2 h3
      subst h3; simp at hk
    · split at h <;> try (cases h; done)
      rename_i row hrow
      split at h <;> try (cases h; done)
      injection h with h; injection h with h1 h2; injection h2 with h2 h3
      subst h3
      simp at hk
      subst hk
      exact ⟨row, (nd_some hrow).1⟩
  unfold frzE at h
  split at h
  · split at h
    · rename_i hrow
      split at h <;> try (cases h; done)
      injection h with h; injection h with e1 e2; injection e2 with e2 e3
      subst e3
      intro k hk
      simp at hk
      subst hk
      exact ⟨_, hrow⟩
    · exact plain h
  · exact plain h
theorem frzX_ids {g : Cs} : ∀ {l : List A} {n : List Prop} {ds : List D} {ks : List Nat}, frzX P g l = some (n, ds, ks) → ∀ k ∈ ks, ∃ row, g k = some row
  | [], n, ds, ks, h => by
    injection h with h; injection h with h1 h2; injection h2 with h2 h3
    subst h3; intro k hk; simp at hk
  | a :: l, n, ds, ks, h => by
    unfold frzX at h
    split at h <;> try (cases h; done)
    rename_i n1 d k1 n2 ds2 k2 h1 h2
    split at h <;> try (cases h; done)
    injection h with h; injection h with e1 e2; injection e2 with e2 e3
    subst e3
    intro k hk
    rcases List.mem_append.mp hk with hk | hk
    · exact frzE_ids h1 k hk
    · exact frzX_ids h2 k hk
theorem frzX_sound {g : Cs} : ∀ {l : List A} {n : List Prop} {ds : List D} {ks : List Nat} {κ : Kr} {C : Cs}, frzX P g l = some (n, ds, ks) → all_ n → InvE P w0 κ C w → (∀ id row, g id = some row → C id = some row ∧ id < big) → ∀ {vs : List Value}, gL P κ l vs →
    ∃ κ', κ.le κ' ∧ κ'.at_ = κ.at_ ∧ InvE P w0 κ' (upd C (kill ks)) w ∧ ds.length = vs.length ∧ ∀ (j : Nat) (d : D), ds[j]? = some d → ∃ x, vs[j]? = some x ∧ gD P κ'.z d x := by
  have main : ∀ {l : List A} {n : List Prop} {ds : List D} {ks : List Nat} {κ : Kr} {C : Cs}, frzX P g l = some (n, ds, ks) → all_ n → InvE P w0 κ C w → (∀ id ∈ ks, ∀ row, g id = some row → C id = some row ∧ id < big) → ∀ {vs : List Value}, gL P κ l vs →
      ∃ κ', κ.le κ' ∧ κ'.at_ = κ.at_ ∧ InvE P w0 κ' (upd C (kill ks)) w ∧ ds.length = vs.length ∧ ∀ (j : Nat) (d : D), ds[j]? = some d → ∃ x, vs[j]? = some x ∧ gD P κ'.z d x := by
    intro l
    induction l with
    | nil =>
      intro n ds ks κ C h hn hi hg vs hv
      injection h with h; injection h with h1 h2; injection h2 with h2 h3
      subst h2; subst h3
      have hl := hv.len
      exact ⟨κ, Kr.le.refl κ, rfl, hi, hl, fun j d hj => by simp at hj⟩
    | cons a l ih =>
      intro n ds ks κ C h hn hi hg vs hv
      cases vs with
      | nil => exact hv.elim
      | cons v vs =>
        obtain ⟨hv1, hv2⟩ := hv
        unfold frzX at h
        split at h <;> try (cases h; done)
        rename_i n1 d k1 n2 ds2 k2 h1 h2
        split at h <;> try (cases h; done)
        rename_i hk
        injection h with h; injection h with e1 e2; injection e2 with e2 e3
        subst e1; subst e2; subst e3
        obtain ⟨hn1, hn2⟩ := all_append hn
        obtain ⟨κ1, a1, a2, a3, a4⟩ := frzE_sound hi h1 hn1 (fun id hid => hg id (List.mem_append_left _ hid)) (frzE_ids h1) hv1
        obtain ⟨κ2, b1, b2, b3, b4, b5⟩ := ih h2 hn2 a3 (fun id hid row hr => by
          rw [upd_kill, if_neg (fun hc => ?_)]
          · exact hg id (List.mem_append_right _ hid) row hr
          · have := List.all_eq_true.mp hk id (mem_kill.mp hc)
            simp at this
            exact this hid) (hv2.mono a1)
        refine ⟨κ2, a1.trans b1, b2.trans a2, ?_, by simp [b4], fun j d' hj => ?_⟩
        · have : kill (k1 ++ k2) = kill k1 ++ kill k2 := by simp [kill]
          rw [this, upd_append]
          exact b3
        · cases j with
          | zero => simp at hj; subst hj; exact ⟨v, rfl, gD.mono b1.z a4⟩
          | succ j => simpa using b5 j d' (by simpa using hj)
  intro l n ds ks κ C h hn hi hg vs hv
  exact main h hn hi (fun id _ => hg id) hv
/-- Plain rows changed: what is known then. -/
theorem after_plain {κ' : Kr} {us : Us} (hf : FreeN w0 κ C) (hle : κ.le κ') (hz : ∀ p ∈ us, C p.1 ≠ none ∨ κ.at_ p.1 = none) (hi : Inv P w0 κ' (upd (expand C) us) w') (hk : ∀ k, (∀ p ∈ us, p.1 ≠ k) → κ'.at_ k = κ.at_ k) (hb : ∀ p ∈ us, p.1 < big) (hp : ∀ p ∈ us, plainO p.2 = true) (hd : ∀ p ∈ us, isDeep (C p.1) = false) :
    InvE P w0 κ' (upd C us) w' ∧ (∀ k, k < big → (∀ p ∈ us, p.1 ≠ k) → κ'.at_ k = κ.at_ k) ∧ FreeN w0 κ' (upd C us) :=
  ⟨hi.less (expand_upd (fun _ _ h => h) (fun p h => ⟨hb p h, hp p h⟩)), fun k _ h => hk k h, free_plain hf hle hd hz (fun k hk' => hk k (fun p h e => by rw [← e] at hk'; exact hk' (hb p h)))⟩
theorem resA_plain (ys : List D) : ∀ (ks : List Kd) (nb j : Nat), ∀ p ∈ (resA ys nb j ks).2, plainO p.2 = true
  | [], nb, j, p, h => by simp [resA] at h
  | .int _ :: ks, nb, j, p, h => resA_plain ys ks nb (j + 1) p h
  | .bool :: ks, nb, j, p, h => resA_plain ys ks nb (j + 1) p h
  | .str :: ks, nb, j, p, h => resA_plain ys ks nb (j + 1) p h
  | .list t :: ks, nb, j, p, h => by
    simp only [resA, List.mem_cons] at h
    rcases h with rfl | h
    · rfl
    · exact resA_plain ys ks (nb + 1) (j + 1) p h
theorem wrU_plain (yz : List D) : ∀ (ks : List Kd) (i : Nat) (ids : List Nat), ∀ p ∈ wrU yz i ks ids, plainO p.2 = true
  | [], i, ids, p, h => by simp [wrU] at h
  | .list t :: ks, i, [], p, h => by simp only [wrU] at h; exact wrU_plain yz ks i [] p h
  | .list t :: ks, i, id :: ids, p, h => by
    simp only [wrU, List.mem_cons] at h
    rcases h with rfl | h
    · rfl
    · exact wrU_plain yz ks (i + 1) ids p h
  | .int _ :: ks, i, ids, p, h => wrU_plain yz ks i ids p (by simpa [wrU] using h)
  | .bool :: ks, i, ids, p, h => wrU_plain yz ks i ids p (by simpa [wrU] using h)
  | .str :: ks, i, ids, p, h => wrU_plain yz ks i ids p (by simpa [wrU] using h)
theorem scalArgs_sound : ∀ {ks : List Kd} {as : List A} {xs : List D}, scalArgs ks as = some xs → ∀ (pre : List D) {vs : List Value}, gL P κ as vs →
    lists ks = 0 ∧ fits xs ks = true ∧ xs.length = ks.length ∧ gL P ⟨fun _ => none, fun _ => none⟩ (sels (pre ++ xs) pre.length ks) vs
  | [], [], xs, h, pre, vs, hv => by
    injection h with h; subst h
    have : vs = [] := List.eq_nil_of_length_eq_zero hv.len.symm
    subst this
    exact ⟨rfl, rfl, rfl, trivial⟩
  | k :: ks, .d d :: as, xs, h, pre, v :: vs, ⟨hv1, hv2⟩ => by
    have h' : (match scalArgs ks as with
      | some ds => if fitK d k = true ∧ d.scalar = true then some (d :: ds) else none
      | none => none) = some xs := h
    split at h' <;> try (cases h'; done)
    rename_i ds hds
    split at h' <;> try (cases h'; done)
    rename_i hc
    injection h' with h'; subst h'
    obtain ⟨g1, g2, g3, g4⟩ := scalArgs_sound hds (pre ++ [d]) hv2
    rw [List.append_assoc, List.length_append] at g4
    refine ⟨?_, by simp [fits, hc.1, g2], by simp [g3], ?_, g4⟩
    · cases k with
      | list t =>
        cases d with
        | list => exact absurd hc.2 (by simp [D.scalar])
        | _ => simp [fitK] at hc
      | _ => simpa [lists] using g1
    · show gD P _ (sel (pre ++ d :: ds) pre.length k) v
      rw [(fitK_sel (ds := pre ++ d :: ds) (j := pre.length) (by simp) hc.1).2]
      have hv1' : gD P κ.z d v := hv1
      cases d with
      | list => exact absurd hc.2 (by simp [D.scalar])
      | _ => unfold gD at hv1' ⊢; exact hv1'
theorem mem_blocksD {ob : Option (Nat × Nat × Nat)} {inner : Nat → Option (Nat × Nat × Nat)} {m b : Nat} : b ∈ blocksD ob inner m ↔ (∃ o N, ob = some (b, o, N)) ∨ ∃ j o N, j < m ∧ inner j = some (b, o, N) := by
  unfold blocksD blocks
  rw [List.mem_filterMap]
  constructor
  · rintro ⟨x, hx, he⟩
    obtain ⟨⟨b', o, N⟩, rfl, rfl⟩ := Option.map_eq_some_iff.mp he
    rcases List.mem_cons.mp hx with h | h
    · exact .inl ⟨o, N, h.symm⟩
    · obtain ⟨j, hj, h⟩ := List.mem_map.mp h
      exact .inr ⟨j, o, N, by simpa using hj, h⟩
  · rintro (⟨o, N, rfl⟩ | ⟨j, o, N, hj, h⟩)
    · exact ⟨some (b, o, N), List.mem_cons_self, rfl⟩
    · exact ⟨inner j, List.mem_cons_of_mem _ (List.mem_map.mpr ⟨j, by simpa using hj, rfl⟩), by rw [h]; rfl⟩
/-- Where a list and its lists lie, under a row's name. -/
noncomputable def Kr.putD (κ : Kr) (nb : Nat) (ob : Option (Nat × Nat × Nat)) (inner : Nat → Option (Nat × Nat × Nat)) : Kr :=
  ⟨fun k => if k < big then (if k = nb then ob else κ.at_ k) else if innA k = nb then inner (innB k) else κ.at_ k, κ.z⟩
theorem putD_nb {nb : Nat} {ob : Option (Nat × Nat × Nat)} {inner : Nat → Option (Nat × Nat × Nat)} (hb : nb < big) : (κ.putD nb ob inner).at_ nb = ob := by
  show (if nb < big then (if nb = nb then ob else κ.at_ nb) else _) = ob
  rw [if_pos hb, if_pos rfl]
theorem putD_inn {nb j : Nat} {ob : Option (Nat × Nat × Nat)} {inner : Nat → Option (Nat × Nat × Nat)} (hb : nb < big) : (κ.putD nb ob inner).at_ (inn nb j) = inner j := by
  obtain ⟨a1, a2, a3⟩ := inn_parts (p := j) hb
  show (if inn nb j < big then _ else if innA (inn nb j) = nb then inner (innB (inn nb j)) else κ.at_ (inn nb j)) = inner j
  rw [if_neg a3, if_pos a1, a2]
theorem putD_other {nb k : Nat} {ob : Option (Nat × Nat × Nat)} {inner : Nat → Option (Nat × Nat × Nat)} (h1 : k ≠ nb) (h2 : ∀ j, k ≠ inn nb j) : (κ.putD nb ob inner).at_ k = κ.at_ k := by
  show (if k < big then (if k = nb then ob else κ.at_ k) else if innA k = nb then inner (innB k) else κ.at_ k) = κ.at_ k
  by_cases hk : k < big
  · rw [if_pos hk, if_neg h1]
  · rw [if_neg hk]
    rw [if_neg (fun e => h2 (innB k) (by rw [← e]; exact (inn_of hk).1))]
/-- What a deep list's cells are, by what is said of it. -/
theorem deepOk_rows {base t n nb : Nat} {ds : List D} {v : Value} {ob : Option (Nat × Nat × Nat)} {inner : Nat → Option (Nat × Nat × Nat)} (h : deepOk P base w t n ds v ob inner) {κ1 : Kr} (hnb : κ1.at_ nb = ob) (hin : ∀ j, inner j = none ∨ κ1.at_ (inn nb j) = inner j) (hb : nb < big) (hz : ∀ b, b ∈ blocksD ob inner ds.length → κ1.z b = none) :
    RowIn P κ1 w nb (.fix t (deepA nb 0 ds)) ∧ (∀ j u m l, ds[j]? = some (.list u m l) → ownL (.list u m l) = true → κ1.at_ (inn nb j) = inner j → RowIn P κ1 w (inn nb j) (.sym u l)) ∧ gA P κ1 (.sl t nb 0 n) v := by
  cases ob with
  | none =>
    obtain ⟨rfl, rfl, ⟨Ad, rfl⟩, h3⟩ := h
    exact ⟨.inl ⟨hnb, rfl⟩, fun j u m l hj => by simp at hj, ⟨Ad, 0, rfl, Nat.le_refl _, .inl ⟨rfl, rfl⟩⟩⟩
  | some x =>
    obtain ⟨b, o, N⟩ := x
    obtain ⟨⟨c, arr, rfl, h1, h2, _, h4, h5, h6, h7⟩, h8, h9, h10⟩ := h
    have hcs : n * sz P t ≤ c * sz P t := Nat.mul_le_mul_right _ h1
    refine ⟨.inr ⟨b, o, N, arr, hnb, hz b (mem_blocksD.mpr (.inl ⟨o, N, rfl⟩)), h5, h6, by simp only [Row.as, deepA_len]; omega, fun j a hj => ?_⟩, fun j u m l hj ho hat => ?_, ⟨_, c, rfl, h1, .inr ⟨b, o, N, hnb, by simp, by simpa using h4⟩⟩⟩
    · simp only [Row.as] at hj
      rw [deepA_at, Nat.zero_add] at hj
      obtain ⟨d, hd, rfl⟩ := Option.map_eq_some_iff.mp hj
      obtain ⟨x, k1, k2, k3⟩ := h7 j d hd
      refine ⟨x, k1, ?_⟩
      cases ho : ownL d with
      | false => rw [deepC_not ho]; exact gD.mono (fun b x hx => by cases hx) (k3 ho).1
      | true =>
        obtain ⟨u, m, l, rfl, q1, _⟩ := k2 ho
        rw [deepC_own ho]
        cases hi : inner j with
        | none =>
          rw [hi] at q1
          obtain ⟨_, e2, Ad, e3⟩ := q1
          exact ⟨Ad, 0, by rw [e2]; exact e3, by omega, .inl ⟨e2, rfl⟩⟩
        | some y =>
          obtain ⟨b', o', N'⟩ := y
          rw [hi] at q1
          obtain ⟨c', arr', e1, e2, e3, _, e4, _⟩ := q1
          exact ⟨_, c', e1, e2, .inr ⟨b', o', N', (by rcases hin j with h | h <;> rw [hi] at h <;> first | exact h | cases h), by simp, by simpa using e4⟩⟩
    · obtain ⟨x, k1, k2, _⟩ := h7 j _ hj
      obtain ⟨u', m', l', e0, q1, _⟩ := k2 ho
      injection e0 with e1 e2 e3
      subst e1; subst e2; subst e3
      cases hi : inner j with
      | none =>
        rw [hi] at q1
        obtain ⟨rfl, _⟩ := q1
        exact .inl ⟨by rw [hat, hi], rfl⟩
      | some y =>
        obtain ⟨b', o', N'⟩ := y
        rw [hi] at q1
        obtain ⟨c', arr', e1, e2, e3, _, e4, e5, e6, e7⟩ := q1
        have hcs' : m * sz P u ≤ c' * sz P u := Nat.mul_le_mul_right _ e2
        refine .inr ⟨b', o', N', arr', by rw [hat, hi], hz b' (mem_blocksD.mpr (.inr ⟨j, o', N', (List.getElem?_eq_some_iff.mp hj).1, hi⟩)), e5, e6, by simp only [Row.as, List.length_map]; omega, fun q a hq => ?_⟩
        simp only [Row.as, List.getElem?_map] at hq
        obtain ⟨d, hd, rfl⟩ := Option.map_eq_some_iff.mp hq
        obtain ⟨y, z1, z2⟩ := e7 q d hd
        exact ⟨y, z1, gD.mono (fun b x hx => by cases hx) z2⟩
theorem deepOk_inner {base t n : Nat} {ds : List D} {v : Value} {ob : Option (Nat × Nat × Nat)} {inner : Nat → Option (Nat × Nat × Nat)} (h : deepOk P base w t n ds v ob inner) :
    (∀ j x, inner j = some x → j < ds.length ∧ ∃ d, ds[j]? = some d ∧ ownL d = true) ∧ (∀ j b o N b' o' N', inner j = some (b', o', N') → ob = some (b, o, N) → b' ≠ b) ∧ (∀ j j' b' o' N' o2 N2, inner j = some (b', o', N') → inner j' = some (b', o2, N2) → j = j') ∧ (∀ b, b ∈ blocksD ob inner ds.length → base ≤ b ∧ b < w.heap.size) := by
  cases ob with
  | none =>
    obtain ⟨rfl, rfl, _, h3⟩ := h
    refine ⟨fun j x hx => (by rw [h3] at hx; cases hx), fun j b o N b' o' N' _ h => (by cases h), fun j j' b' o' N' o2 N2 hx => (by rw [h3] at hx; cases hx), fun b hb => ?_⟩
    rcases mem_blocksD.mp hb with ⟨o, N, h⟩ | ⟨j, o, N, hj, _⟩
    · cases h
    · simp at hj
  | some x =>
    obtain ⟨b, o, N⟩ := x
    obtain ⟨⟨c, arr, rfl, h1, h2, h3, h4, h5, h6, h7⟩, h8, h9, h10⟩ := h
    have own : ∀ j x, inner j = some x → j < ds.length ∧ ∃ d, ds[j]? = some d ∧ ownL d = true ∧ base ≤ x.1 ∧ x.1 < w.heap.size := fun j x hx => by
      have hj : j < ds.length := by
        rcases Nat.lt_or_ge j ds.length with h | h
        · exact h
        · rw [h8 j h] at hx; cases hx
      refine ⟨hj, ds[j], List.getElem?_eq_getElem hj, ?_⟩
      obtain ⟨y, k1, k2, k3⟩ := h7 j ds[j] (List.getElem?_eq_getElem hj)
      cases ho : ownL ds[j] with
      | false => have := (k3 ho).2; rw [hx] at this; cases this
      | true =>
        obtain ⟨u, m, l, e0, q1, _⟩ := k2 ho
        obtain ⟨b', o', N'⟩ := x
        rw [hx] at q1
        obtain ⟨c', arr', e1, e2, e3, e4, e5, e6, _⟩ := q1
        exact ⟨rfl, e4, block_of e6⟩
    refine ⟨fun j x hx => ?_, fun j b1 o1 N1 b' o' N' hx hb => ?_, fun j j' b' o' N' o2 N2 hx hy => h10 j j' b' o' N' o2 N2 hx hy, fun b1 hb1 => ?_⟩
    · obtain ⟨q1, d, q2, q3, _⟩ := own j x hx
      exact ⟨q1, d, q2, q3⟩
    · injection hb with hb; injection hb with hb _
      subst hb; exact h9 j b' o' N' hx
    · rcases mem_blocksD.mp hb1 with ⟨o', N', h⟩ | ⟨j, o', N', hj, hx⟩
      · injection h with h; injection h with h _
        subst h; exact ⟨h3, block_of h5⟩
      · obtain ⟨_, d, _, _, q4, q5⟩ := own j _ hx
        exact ⟨q4, q5⟩
/-- A list of the call's own more, with its lists. -/
theorem add_deep (hi : InvE P w0 κ C w) (hf : FreeN w0 κ C) {nb base t n : Nat} {ds : List D} {v : Value} {ob : Option (Nat × Nat × Nat)} {inner : Nat → Option (Nat × Nat × Nat)} (hb : nb < big) (hC : C nb = none) (hA : κ.at_ nb = none) (h : deepOk P base w t n ds v ob inner)
    (hz : ∀ b, b ∈ blocksD ob inner ds.length → κ.z b = none ∧ (w0.heap.size ≤ b ∨ b ∈ blocks w0.bs)) (hfar : ∀ k row b o N, expand C k = some row → κ.at_ k = some (b, o, N) → b ∉ blocksD ob inner ds.length) :
    κ.le (κ.putD nb ob inner) ∧ InvE P w0 (κ.putD nb ob inner) (upd C [(nb, some (.deep t ds))]) w ∧ gA P (κ.putD nb ob inner) (.sl t nb 0 n) v ∧ (∀ k, k < big → k ≠ nb → (κ.putD nb ob inner).at_ k = κ.at_ k) ∧ FreeN w0 (κ.putD nb ob inner) (upd C [(nb, some (.deep t ds))]) := by
  have hnames : ∀ j, expand C (inn nb j) = none ∧ κ.at_ (inn nb j) = none := fun j => by
    have h9 : expand C (inn nb j) = none := by rw [expand_inn hb, hC]; rfl
    exact ⟨h9, hf.free hb h9 (.inr hA)⟩
  have hle : κ.le (κ.putD nb ob inner) := ⟨fun k x hx => by
    rw [putD_other (fun e => by rw [e, hA] at hx; cases hx) (fun j e => by rw [e, (hnames j).2] at hx; cases hx)]
    exact hx, fun _ _ h => h⟩
  obtain ⟨r1, r2, r3⟩ := deepOk_rows h (κ1 := κ.putD nb ob inner) (putD_nb hb) (fun j => .inr (putD_inn hb)) hb (fun b hb' => (hz b hb').1)
  obtain ⟨i1, i2, i3, i4⟩ := deepOk_inner h
  -- which rows there are
  have rows : ∀ k row, expand (upd C [(nb, some (.deep t ds))]) k = some row → (k = nb ∧ row = .fix t (deepA nb 0 ds)) ∨ (∃ j u m l, k = inn nb j ∧ ds[j]? = some (.list u m l) ∧ ownL (.list u m l) = true ∧ row = .sym u l) ∨ (k ≠ nb ∧ (∀ j, k ≠ inn nb j) ∧ expand C k = some row) := fun k row hk => by
    by_cases hkb : k < big
    · rw [expand_ord hkb, upd_one] at hk
      split at hk
      · rename_i e
        injection hk with hk
        subst e
        exact .inl ⟨rfl, hk.symm⟩
      · rename_i e
        exact .inr (.inr ⟨e, fun j e' => by rw [e'] at hkb; exact inn_big hkb, by rw [expand_ord hkb]; exact hk⟩)
    · obtain ⟨f1, f2⟩ := inn_of hkb
      rw [f1, expand_inn f2, upd_one] at hk
      split at hk
      · rename_i e
        obtain ⟨u, m, l, d1, d2, d3⟩ := innR_some hk
        exact .inr (.inl ⟨innB k, u, m, l, by rw [← e]; exact f1, d1, d2, d3⟩)
      · rename_i e
        refine .inr (.inr ⟨fun e' => by rw [e'] at hkb; exact hkb hb, fun j e' => ?_, by rw [f1, expand_inn f2]; exact hk⟩)
        rw [f1] at e'
        exact e (inn_inj f2 hb e').1
  have atin : ∀ k b o N, (k = nb ∨ ∃ j, k = inn nb j) → (κ.putD nb ob inner).at_ k = some (b, o, N) → b ∈ blocksD ob inner ds.length := fun k b o N hk ha => by
    rcases hk with rfl | ⟨j, rfl⟩
    · rw [putD_nb hb] at ha
      exact mem_blocksD.mpr (.inl ⟨o, N, ha⟩)
    · rw [putD_inn hb] at ha
      exact mem_blocksD.mpr (.inr ⟨j, o, N, (i1 j _ ha).1, ha⟩)
  refine ⟨hle, ⟨hi.os, hi.tape, hi.output, hi.size, hi.base, hi.z, fun k row hk => ?_, fun k k' row row' b o N o' N' hk hk' ha ha' => ?_, fun k row b o N hk ha => ?_⟩, r3, fun k hk hne => putD_other hne (fun j e => by rw [e] at hk; exact inn_big hk), hf.step (fun k hk he => ?_) (fun k hk he => putD_other (fun e => by rw [e] at hk; exact hk hb) (fun j e => he (by rw [e]; exact (hnames j).1))) (fun k g1 g2 => ⟨by rw [upd_one, if_neg (fun e => g2 (by rw [e]; exact hA))]; exact g1, le_ne hle g2⟩)⟩
  · rcases rows k row hk with ⟨rfl, rfl⟩ | ⟨j, u, m, l, rfl, d1, d2, rfl⟩ | ⟨h1, h2, h3⟩
    · exact r1
    · exact r2 j u m l d1 d2 (putD_inn hb)
    · rcases hi.live k row h3 with ⟨g1, g2⟩ | ⟨b, o, N, arr, g1, g2, g3, g4, g5, g6⟩
      · exact .inl ⟨by rw [putD_other h1 h2]; exact g1, g2⟩
      · refine .inr ⟨b, o, N, arr, hle.at_ _ _ g1, g2, g3, g4, g5, fun j a hj => ?_⟩
        obtain ⟨x, q1, q2⟩ := g6 j a hj
        exact ⟨x, q1, q2.mono hle⟩
  · have cases_ : ∀ k row, expand (upd C [(nb, some (.deep t ds))]) k = some row → (k = nb ∨ ∃ j, k = inn nb j) ∨ (k ≠ nb ∧ (∀ j, k ≠ inn nb j) ∧ expand C k = some row) := fun k row hk => by
      rcases rows k row hk with ⟨rfl, _⟩ | ⟨j, u, m, l, rfl, _⟩ | h
      · exact .inl (.inl rfl)
      · exact .inl (.inr ⟨j, rfl⟩)
      · exact .inr h
    rcases cases_ k row hk with h1 | ⟨h1, h2, h3⟩ <;> rcases cases_ k' row' hk' with h4 | ⟨h4, h5, h6⟩
    · rcases h1 with rfl | ⟨j, rfl⟩ <;> rcases h4 with rfl | ⟨j', rfl⟩
      · rfl
      · rw [putD_nb hb] at ha
        rw [putD_inn hb] at ha'
        exact absurd rfl (i2 j' b o N b o' N' ha' ha)
      · rw [putD_inn hb] at ha
        rw [putD_nb hb] at ha'
        exact absurd rfl (i2 j b o' N' b o N ha ha')
      · rw [putD_inn hb] at ha ha'
        rw [i3 j j' b o N o' N' ha ha']
    · exact absurd (atin k b o N h1 ha) (by rw [putD_other h4 h5] at ha'; exact hfar k' row' b o' N' h6 ha')
    · exact absurd (atin k' b o' N' h4 ha') (by rw [putD_other h1 h2] at ha; exact hfar k row b o N h3 ha)
    · rw [putD_other h1 h2] at ha
      rw [putD_other h4 h5] at ha'
      exact hi.apart k k' row row' b o N o' N' h3 h6 ha ha'
  · rcases rows k row hk with ⟨rfl, _⟩ | ⟨j, u, m, l, rfl, _⟩ | ⟨h1, h2, h3⟩
    · exact (hz b (atin _ b o N (.inl rfl) ha)).2
    · exact (hz b (atin _ b o N (.inr ⟨j, rfl⟩) ha)).2
    · rw [putD_other h1 h2] at ha
      exact hi.own k row b o N h3 ha
  · obtain ⟨f1, f2⟩ := inn_of hk
    have he' : innR (upd C [(nb, some (.deep t ds))] (innA k)) (innB k) = none := by rw [f1, expand_inn f2] at he; exact he
    rw [upd_one] at he'
    split at he'
    · rename_i e
      rw [f1, e, putD_inn hb]
      refine ⟨(hnames _).1, ?_⟩
      cases hx : inner (innB k) with
      | none => exact (hnames _).2.symm
      | some x =>
        obtain ⟨q1, d, q2, q3⟩ := i1 _ x hx
        obtain ⟨u, m, l, rfl⟩ := ownL_list q3
        rw [innR_own q2 q3] at he'; cases he'
    · rename_i e
      exact ⟨by rw [f1, expand_inn f2]; exact he', putD_other (fun e' => by rw [e'] at hk; exact hk hb) (fun j e' => by rw [f1] at e'; exact e (inn_inj f2 hb e').1)⟩
end
end Go.Proofs.Ytjleempapphlhab.Mini
end
