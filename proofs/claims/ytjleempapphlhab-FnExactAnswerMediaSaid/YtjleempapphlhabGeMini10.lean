/- Parts of the proof: Mini10. -/
import Derived.Test.YtjleempapphlhabGeMini9
section
namespace Go.Proofs.Ytjleempapphlhab.Mini
open Go Go.RowKit
set_option linter.unusedVariables false
/-- From the last call on. -/
def callSfx (ops : List Oper) : List Nat → Option (List Nat)
  | [] => none
  | j :: l => match callSfx ops l with
    | some s => some s
    | none => match ops[j]? with
      | some o => if isCallO o = true then some (j :: l) else none
      | none => none
/-- What an operation comes behind, by chains of edges: a bit for each. -/
def ancOf (T : List Nat) (es : List Edge) : Nat := es.foldl (fun acc e => if Region.binds .any e = true then Nat.lor acc (Nat.lor (Nat.shiftLeft 1 e.on) (T.getD e.on 0)) else acc) 0
def ancs (ops : List Oper) : Nat → List Nat
  | 0 => []
  | n + 1 => ancs ops n ++ [match ops[n]? with | some o => ancOf (ancs ops n) o.after.toList | none => 0]
/-- It comes behind. -/
def path (T : List Nat) (i j : Nat) : Bool := Nat.testBit (T.getD i 0) j
def ordOk (P : Program) (F : Tb) (ops : List Oper) (T : List Nat) (nb : Nat → Nat) (tc : Nat → List Nat × List Nat) : List Nat → List Nat → Bool
  | _, [] => true
  | seen, i :: l => (match ops[i]? with
    | none => false
    | some o => (o.after.toList.all fun e => !Region.binds .any e || seen.contains e.on) && (seen.all fun j => path T i j || indep P F ops nb tc i j) &&
      (seen.all fun j => match ops[j]? with | some oj => decide (nb i + nNew P F o ≤ nb j) || decide (nb j + nNew P F oj ≤ nb i) | none => false) &&
      (match callSfx ops seen with | none => true | some s => s.any fun x => path T i x)) && ordOk P F ops T nb tc (seen ++ [i]) l
def drawnOk (P : Program) (F : Tb) (ops : List Oper) (nb : Nat → Nat) (tc : Nat → List Nat × List Nat) (ord : List Nat) : Bool :=
  ((List.range ops.length).all fun i => ord.contains i) && decide ord.Nodup && (ord.all fun i => decide (i < ops.length)) && ordOk P F ops (ancs ops ops.length) nb tc [] ord
section
variable {P : Program} {w0 : Bs} {κ : Kr} {C : Cs} {w : World} {F : Tb} {a : Act} {J : Nat → List D → Prop} {Q : List D → Prop}
theorem callSfx_spec {ops : List Oper} : ∀ {l s : List Nat}, callSfx ops l = some s → ∃ l1 c r, l = l1 ++ s ∧ s = c :: r ∧ (∃ o, ops[c]? = some o ∧ isCallO o = true) ∧ callSfx ops r = none
  | [], s, h => by cases h
  | j :: l, s, h => by
    unfold callSfx at h
    split at h
    · rename_i s' h1
      injection h with h; subst h
      obtain ⟨l1, c, r, e1, e2, e3, e4⟩ := callSfx_spec h1
      exact ⟨j :: l1, c, r, by rw [e1]; rfl, e2, e3, e4⟩
    · rename_i h1
      split at h <;> try (cases h; done)
      rename_i o ho
      split at h <;> try (cases h; done)
      rename_i hc
      injection h with h; subst h
      exact ⟨[], j, l, rfl, rfl, ⟨o, ho, hc⟩, h1⟩
theorem callSfx_none {ops : List Oper} : ∀ {l : List Nat}, callSfx ops l = none → ∀ c ∈ l, ∀ o, ops[c]? = some o → isCallO o = false
  | [], _, c, hc, _, _ => by simp at hc
  | j :: l, h, c, hc, o, ho => by
    unfold callSfx at h
    split at h
    · cases h
    · rename_i h1
      rcases List.mem_cons.mp hc with rfl | hc
      · rw [ho] at h
        simp only at h
        split at h
        · cases h
        · rename_i h2; simpa using h2
      · exact callSfx_none h1 c hc o ho
/-- What is so of each operation and those ahead of it. -/
theorem ordOk_at {ops : List Oper} {T : List Nat} {nb : Nat → Nat} {tc : Nat → List Nat × List Nat} : ∀ {l seen : List Nat}, ordOk P F ops T nb tc seen l = true → ∀ A i B, l = A ++ i :: B → ∃ o, ops[i]? = some o ∧
    (∀ e ∈ o.after, Region.binds .any e = true → e.on ∈ seen ++ A) ∧ (∀ j ∈ seen ++ A, path T i j = true ∨ indep P F ops nb tc i j = true) ∧
    (∀ j ∈ seen ++ A, ∃ oj, ops[j]? = some oj ∧ (nb i + nNew P F o ≤ nb j ∨ nb j + nNew P F oj ≤ nb i)) ∧
    (∀ s, callSfx ops (seen ++ A) = some s → ∃ x ∈ s, path T i x = true)
  | [], seen, h, A, i, B, e => by simp at e
  | k :: l, seen, h, [], i, B, e => by
    simp only [List.nil_append, List.cons.injEq] at e
    obtain ⟨rfl, rfl⟩ := e
    unfold ordOk at h
    rw [Bool.and_eq_true] at h
    obtain ⟨h, _⟩ := h
    split at h <;> try (cases h; done)
    rename_i o ho
    simp only [Bool.and_eq_true] at h
    obtain ⟨⟨⟨h1, h2⟩, h4⟩, h3⟩ := h
    simp only [List.append_nil]
    refine ⟨o, ho, fun e he hb => ?_, fun j hj => ?_, fun j hj => ?_, fun s hs => ?_⟩
    · have := List.all_eq_true.mp h1 e (by simpa using he)
      simp [hb] at this
      exact this
    · have := List.all_eq_true.mp h2 j hj
      simpa using this
    · have := List.all_eq_true.mp h4 j hj
      split at this <;> try (cases this; done)
      rename_i oj hoj
      exact ⟨oj, hoj, by simpa using this⟩
    · rw [hs] at h3
      simpa using h3
  | k :: l, seen, h, b :: A, i, B, e => by
    simp only [List.cons_append, List.cons.injEq] at e
    obtain ⟨rfl, rfl⟩ := e
    unfold ordOk at h
    rw [Bool.and_eq_true] at h
    obtain ⟨o, g1, g2, g3, g4, g5⟩ := ordOk_at h.2 A i B rfl
    simp only [List.append_assoc, List.singleton_append] at g2 g3 g4 g5
    exact ⟨o, g1, g2, g3, g4, g5⟩
/-- Some operations have come up: what is known then. -/
structure RelO (P : Program) (w0 : Bs) (F : Tb) (J : Nat → List D → Prop) (Q : List D → Prop) (ops : Array Oper) (nb : Nat → Nat) (tc : Nat → List Nat × List Nat) (ord : List Nat) (K : St → Tree) (κ : Kr) (L : Array Bool) (σ : St) (a : Act) (w : World) : Prop where
  size : L.size = ops.size
  rel : Rel P w0 κ σ a w
  holes : ∀ (j : Nat) (o : Oper), ops[j]? = some o → L.getD j false = false → ∀ id, nb j ≤ id → id < nb j + nNew P F o → id < big → cs σ.H id = none ∧ κ.at_ id = none
  calls : ∀ A c B o, ord = A ++ c :: B → ops[c]? = some o → isCallO o = true → L.getD c false = false → ∀ x ∈ B, L.getD x false = false
  holds : (sxOrd P F ops.toList nb tc (ord.filter fun i => !L.getD i false) σ K).holds F J Q
  closed : ∀ (j : Nat) (o : Oper), ops[j]? = some o → L.getD j false = true → ∀ e ∈ o.after, Region.binds .any e = true → L.getD e.on false = true
theorem ancOf_spec {T : List Nat} {j : Nat} : ∀ (es : List Edge) (acc : Nat), Nat.testBit (es.foldl (fun acc e => if Region.binds .any e = true then Nat.lor acc (Nat.lor (Nat.shiftLeft 1 e.on) (T.getD e.on 0)) else acc) acc) j = true → Nat.testBit acc j = true ∨ ∃ e ∈ es, Region.binds .any e = true ∧ (e.on = j ∨ Nat.testBit (T.getD e.on 0) j = true)
  | [], acc, h => .inl h
  | e :: es, acc, h => by
    rw [List.foldl_cons] at h
    rcases ancOf_spec es _ h with h1 | ⟨e', h1, h2⟩
    · split at h1
      · rename_i hb
        have h2 : Nat.testBit (acc ||| (1 <<< e.on ||| T.getD e.on 0)) j = true := h1
        rw [Nat.testBit_or, Nat.testBit_or, Bool.or_eq_true, Bool.or_eq_true] at h2
        rcases h2 with h2 | h2 | h2
        · exact .inl h2
        · refine .inr ⟨e, by simp, hb, .inl ?_⟩
          rw [Nat.one_shiftLeft, Nat.testBit_two_pow] at h2
          simpa using h2
        · exact .inr ⟨e, by simp, hb, .inr h2⟩
      · exact .inl h1
    · exact .inr ⟨e', by simp [h1], h2⟩
theorem ancs_len (ops : List Oper) : ∀ n, (ancs ops n).length = n
  | 0 => rfl
  | n + 1 => by unfold ancs; rw [List.length_append, ancs_len ops n]; rfl
theorem ancs_at (ops : List Oper) : ∀ (n i : Nat), i < n → (ancs ops n).getD i 0 = match ops[i]? with | some o => ancOf (ancs ops i) o.after.toList | none => 0
  | 0, i, h => by omega
  | n + 1, i, h => by
    rw [show ancs ops (n + 1) = ancs ops n ++ [match ops[n]? with | some o => ancOf (ancs ops n) o.after.toList | none => 0] from rfl]
    rw [List.getD_eq_getElem?_getD]
    by_cases hi : i < n
    · rw [List.getElem?_append_left (by rw [ancs_len]; exact hi), ← List.getD_eq_getElem?_getD]
      exact ancs_at ops n i hi
    · obtain rfl : i = n := by omega
      rw [List.getElem?_append_right (by rw [ancs_len]; omega), ancs_len, Nat.sub_self]
      rfl
/-- What it comes behind has come up. -/
theorem path_done {ops : Array Oper} {L : Array Bool} (hc : ∀ (j : Nat) (o : Oper), ops[j]? = some o → L.getD j false = true → ∀ e ∈ o.after, Region.binds .any e = true → L.getD e.on false = true) {n : Nat} : ∀ (i : Nat) (o : Oper) (j : Nat), ops[i]? = some o → i < n → (∀ e ∈ o.after, Region.binds .any e = true → L.getD e.on false = true) → path (ancs ops.toList n) i j = true → L.getD j false = true := by
  intro i
  induction i using Nat.strongRecOn with
  | _ i ih =>
    intro o j ho hin h hp
    unfold path at hp
    rw [ancs_at _ _ _ hin, Array.getElem?_toList, ho] at hp
    simp only at hp
    unfold ancOf at hp
    rcases ancOf_spec _ _ hp with h1 | ⟨e, he, hb, h1⟩
    · simp at h1
    · have hd := h e (by simpa using he) hb
      rcases h1 with h1 | h1
      · rw [← h1]; exact hd
      · by_cases hlt : e.on < i
        · cases ho' : ops[e.on]? with
          | none =>
            rw [ancs_at _ _ _ hlt, Array.getElem?_toList, ho'] at h1
            simp at h1
          | some o' =>
            refine ih e.on hlt o' j ho' (by omega) (hc e.on o' ho' hd) ?_
            unfold path
            rw [ancs_at _ _ _ (by omega : e.on < n)]
            rw [ancs_at _ _ _ hlt] at h1
            exact h1
        · rw [List.getD_eq_getElem?_getD, List.getElem?_eq_none (by rw [ancs_len]; omega)] at h1
          simp at h1
theorem liveG_true {ops : Array Oper} {o : Oper} {l : List AV} (ht : TRel P κ l a) (h : liveG ops.toList l o = some true) : Region.wanted o (yielded ops a.tmps) = true := by
  unfold liveG at h
  unfold Region.wanted
  split at h
  · rename_i hg; rw [hg]
  · rename_i j b hg
    rw [hg]
    split at h
    · rename_i v hv
      have hy := guardAt_sound ht hv
      injection h with h
      simp only
      rw [hy]
      simpa using h
    · split at h <;> cases h
theorem liveG_false {ops : Array Oper} {o : Oper} {l : List AV} (ht : TRel P κ l a) (h : liveG ops.toList l o = some false) : Region.wanted o (yielded ops a.tmps) = false := by
  unfold liveG at h
  unfold Region.wanted
  split at h
  · cases h
  · rename_i j b hg
    rw [hg]
    split at h
    · rename_i v hv
      have hy := guardAt_sound ht hv
      injection h with h
      simp only
      rw [hy]
      simpa using h
    · rename_i hgn
      split at h <;> try (cases h; done)
      rename_i hno
      have hy := guardNo_sound ht hno
      simp [hy]
theorem relO_step (hF : FnsOk P F) {ops : Array Oper} {nb : Nat → Nat} {tc : Nat → List Nat × List Nat} {ord : List Nat} {K : St → Tree} (hd : drawnOk P F ops.toList nb tc ord = true) {L : Array Bool} {σ : St} (h : RelO P w0 F J Q ops nb tc ord K κ L σ a w)
    {i : Nat} (hi : i ∈ Region.ready .any ops L) {G : Act → World → Prop} {Qe : Exit → Act → World → Prop} (hG : ∀ κ' σ' a' w', κ.le κ' → RelO P w0 F J Q ops nb tc ord K κ' (L.setIfInBounds i true) σ' a' w' → G a' w') : wpOp P ops Qe i G a w := by
  unfold drawnOk at hd
  simp only [Bool.and_eq_true, decide_eq_true_eq] at hd
  obtain ⟨⟨⟨d1, d2⟩, d3⟩, d4⟩ := hd
  obtain ⟨hl, o, ho, hall⟩ := mem_ready.mp hi
  have hin : i < ops.size := (Array.getElem?_eq_some_iff.mp ho).1
  have hiL : i < L.size := by rw [h.size]; exact hin
  have hl' : L.getD i false = false := by rw [Typ.getD_all hiL false true]; exact hl
  have hiord : i ∈ ord := by
    have := List.all_eq_true.mp d1 i (by simpa using hin)
    simpa using this
  obtain ⟨A, B, hAB⟩ := List.append_of_mem hiord
  obtain ⟨o', g1, g2, g3, g4, g5⟩ := ordOk_at d4 A i B hAB
  rw [Array.getElem?_toList, ho] at g1
  injection g1 with g1
  subst g1
  simp only [List.nil_append] at g2 g3 g4 g5
  have hall' : ∀ e ∈ o.after, Region.binds .any e = true → L.getD e.on false = true := fun e he hb => hall e he hb
  -- no call is still to come ahead of it
  have hnocall : ∀ c ∈ A, L.getD c false = false → ∀ oc, ops.toList[c]? = some oc → isCallO oc = false := by
    intro c hc hcl oc hoc
    cases hcall : isCallO oc with
    | false => rfl
    | true =>
      exfalso
      cases hs : callSfx ops.toList A with
      | none =>
        have := callSfx_none hs c hc oc hoc
        rw [hcall] at this; cases this
      | some s =>
        obtain ⟨x, hx, hex⟩ := g5 s hs
        have hxd := path_done h.closed i o x ho (by simpa using hin) hall' hex
        obtain ⟨l1, c', r, e1, e2, ⟨oc', e3, e4⟩, e5⟩ := callSfx_spec hs
        have hpend : ∀ y ∈ s, L.getD y false = false := by
          rw [e1, e2] at hc
          rcases List.mem_append.mp hc with hc | hc
          · obtain ⟨u, v, huv⟩ := List.append_of_mem hc
            intro y hy
            refine h.calls u c (v ++ s ++ i :: B) oc ?_ (by rw [← Array.getElem?_toList]; exact hoc) hcall hcl y (by simp [hy])
            rw [hAB, e1, huv]
            simp
          · rcases List.mem_cons.mp hc with rfl | hc
            · intro y hy
              rw [e2] at hy
              rcases List.mem_cons.mp hy with rfl | hy
              · exact hcl
              · refine h.calls l1 c (r ++ i :: B) oc ?_ (by rw [← Array.getElem?_toList]; exact hoc) hcall hcl y (by simp [hy])
                rw [hAB, e1, e2]
                simp
            · have := callSfx_none e5 c hc oc hoc
              rw [hcall] at this; cases this
        rw [hpend x hx] at hxd
        cases hxd
  have hnd : (A ++ i :: B).Nodup := by rw [← hAB]; exact d2
  have hiA : i ∉ A := fun hm => by
    rw [List.nodup_append] at hnd
    exact hnd.2.2 i hm i (by simp) rfl
  have hiB : i ∉ B := fun hm => by
    rw [List.nodup_append] at hnd
    exact (List.nodup_cons.mp hnd.2.1).1 hm
  have hR : ord.filter (fun i => !L.getD i false) = A.filter (fun i => !L.getD i false) ++ i :: B.filter (fun i => !L.getD i false) := by
    rw [hAB, List.filter_append, List.filter_cons, if_pos (by rw [hl']; rfl)]
  have hR' : ord.filter (fun j => !(L.setIfInBounds i true).getD j false) = A.filter (fun i => !L.getD i false) ++ B.filter (fun i => !L.getD i false) := by
    rw [hAB, List.filter_append, List.filter_cons, if_neg (by rw [Typ.getD_set L i i hiL, if_pos rfl]; simp)]
    congr 1
    · apply List.filter_congr
      intro x hx
      rw [Typ.getD_set L i x hiL, if_neg (fun (e : x = i) => hiA (e ▸ hx))]
    · apply List.filter_congr
      intro x hx
      rw [Typ.getD_set L i x hiL, if_neg (fun (e : x = i) => hiB (e ▸ hx))]
  have hh := h.holds
  rw [hR] at hh
  have hfirst := first_ (A.filter (fun i => !L.getD i false)) (B.filter (fun i => !L.getD i false)) σ (fun j hj => by
    obtain ⟨hjA, hjl⟩ := List.mem_filter.mp hj
    have hjl' : L.getD j false = false := by simpa using hjl
    rcases g3 j hjA with hje | hje
    · exfalso
      have := path_done h.closed i o j ho (by simpa using hin) hall' hje
      rw [hjl'] at this
      cases this
    · exact hje) (fun j hj oj hoj => by
    obtain ⟨hjA, hjl⟩ := List.mem_filter.mp hj
    exact hnocall j hjA (by simpa using hjl) oj hoj) hh
  unfold sxOrd at hfirst
  rw [show ops.toList[i]? = some o by rw [Array.getElem?_toList]; exact ho] at hfirst
  simp only at hfirst
  -- what is known behind it
  have fin : ∀ (κ' : Kr) (w' : World) (us : Us) (σ' : St) (a' : Act), κ.le κ' → (∀ id, id < big → (∀ p ∈ us, p.1 ≠ id) → κ'.at_ id = κ.at_ id) → FreeN w0 κ' (cs (setH σ.H us)) → (∀ p ∈ us, (∃ row, restr σ.H (tc i).1 p.1 = some row) ∨ nb i ≤ p.1 ∧ p.1 < nb i + nNew P F o) → okU σ.H.length us = true →
      σ'.H = setH σ.H us → TRel P κ' σ'.tmps a' → InvE P w0 κ' (cs (setH σ.H us)) w' → (sxOrd P F ops.toList nb tc (A.filter (fun i => !L.getD i false) ++ B.filter (fun i => !L.getD i false)) σ' K).holds F J Q →
      RelO P w0 F J Q ops nb tc ord K κ' (L.setIfInBounds i true) σ' a' w' := by
    intro κ' w' us σ' a' k1 k3 kf k6 k5 eH kt k2 k7
    refine ⟨by simp [h.size], ⟨kt, by rw [eH]; exact k2, fun id hid hb9 => ?_, fun i b o N h9 => k1.at_ _ _ (h.rel.pin i b o N h9), by rw [eH]; exact kf⟩, fun j oj hj hjl id h1 h2 hb9 => ?_, fun A' c B' oc hAB' hc hcall hcl x hx => ?_, ?_, fun j oj hj hjl e he hb => ?_⟩
    · have hlen : (setH σ.H us).length = σ.H.length := setH_len _ _
      have hid' : σ.H.length ≤ id := by rw [← hlen, ← eH]; exact hid
      rw [k3 id hb9 (fun p hp e => ?_)]
      · exact h.rel.fresh id hid' hb9
      · have := List.all_eq_true.mp k5 p hp
        simp at this
        omega
    · have hji : j ≠ i := fun e => by
        subst e
        rw [Typ.getD_set L j j hiL, if_pos rfl] at hjl
        cases hjl
      rw [Typ.getD_set L i j hiL, if_neg hji] at hjl
      obtain ⟨q1, q2⟩ := h.holes j oj hj hjl id h1 h2 hb9
      have hne : ∀ p ∈ us, p.1 ≠ id := fun p hp e => by
        rcases k6 p hp with ⟨row, hrow⟩ | ⟨h3, h4⟩
        · unfold restr at hrow
          split at hrow
          · rw [e, q1] at hrow; cases hrow
          · cases hrow
        · -- new rows are apart
          have hjord : j ∈ ord := by
            have := List.all_eq_true.mp d1 j (by simpa using (Array.getElem?_eq_some_iff.mp hj).1)
            simpa using this
          rw [hAB] at hjord
          have hap : nb i + nNew P F o ≤ nb j ∨ nb j + nNew P F oj ≤ nb i := by
            rcases List.mem_append.mp hjord with hm | hm
            · obtain ⟨oj', m1, m2⟩ := g4 j hm
              rw [Array.getElem?_toList, hj] at m1
              injection m1 with m1; subst m1
              exact m2
            · rcases List.mem_cons.mp hm with hm | hm
              · exact absurd hm hji
              · obtain ⟨u, v, huv⟩ := List.append_of_mem hm
                obtain ⟨oj', m1, _, _, m4, _⟩ := ordOk_at d4 (A ++ i :: u) j v (by rw [hAB, huv]; simp)
                rw [Array.getElem?_toList, hj] at m1
                injection m1 with m1; subst m1
                obtain ⟨oi', m5, m6⟩ := m4 i (by simp)
                rw [Array.getElem?_toList, ho] at m5
                injection m5 with m5; subst m5
                omega
          omega
      exact ⟨by rw [eH, set_far hne]; exact q1, by rw [k3 id hb9 hne]; exact q2⟩
    · have hci : c ≠ i := fun e => by
        subst e
        rw [Typ.getD_set L c c hiL, if_pos rfl] at hcl
        cases hcl
      rw [Typ.getD_set L i c hiL, if_neg hci] at hcl
      have hold := h.calls A' c B' oc hAB' hc hcall hcl x hx
      rw [Typ.getD_set L i x hiL, if_neg (fun e => ?_)]
      · exact hold
      · subst e
        -- then a call ahead of it is still to come
        obtain ⟨u, v, huv⟩ := List.append_of_mem hx
        have hA2 : A = A' ++ c :: u := by
          have e1 : A ++ x :: B = (A' ++ c :: u) ++ x :: v := by rw [← hAB, hAB', huv]; simp
          have hx1 : x ∉ A' ++ c :: u := fun hm => by
            have h9 : ((A' ++ c :: u) ++ x :: v).Nodup := by rw [← e1]; exact hnd
            rw [List.nodup_append] at h9
            exact h9.2.2 x hm x (by simp) rfl
          rcases List.append_eq_append_iff.mp e1 with ⟨as, q1, q2⟩ | ⟨bs, q1, q2⟩
          · cases as with
            | nil => simpa using q1.symm
            | cons b as =>
              simp only [List.cons_append, List.cons.injEq] at q2
              exfalso
              exact hx1 (by rw [q1, ← q2.1]; simp)
          · cases bs with
            | nil => simpa using q1
            | cons b bs =>
              simp only [List.cons_append, List.cons.injEq] at q2
              exfalso
              exact hiA (by rw [q1, ← q2.1]; simp)
        have := hnocall c (by rw [hA2]; simp) hcl oc (by rw [Array.getElem?_toList]; exact hc)
        rw [hcall] at this; cases this
    · rw [hR']; exact k7
    · have old : ∀ x, L.getD x false = true → (L.setIfInBounds i true).getD x false = true := fun x hx => by
        rw [Typ.getD_set L i x hiL]
        split
        · rfl
        · exact hx
      by_cases hji : j = i
      · subst hji
        rw [ho] at hj
        injection hj with hj
        subst hj
        exact old _ (hall' e he hb)
      · rw [Typ.getD_set L i j hiL, if_neg hji] at hjl
        exact old _ (h.closed j oj hj hjl e he hb)
  unfold wpOp
  rw [ho]
  simp only
  unfold stepG at hfirst
  split at hfirst
  · rename_i hlive
    split at hfirst <;> try (exact hfirst.elim)
    rename_i htc
    rw [if_pos (liveG_true h.rel.t hlive)]
    refine .inl (exec_sound hF hfirst (C := cs σ.H) h.rel.inv h.rel.free (h.rel.t.evalR _) (fun id row hrow => ?_) (fun id h1 h2 h3 => h.holes i o ho hl' id h1 h2 h3) (fun κ' v w' hA => ?_))
    · unfold restr at hrow
      split at hrow
      · exact hrow
      · cases hrow
    obtain ⟨us, av, k1, k2, k3, kf, k4, k5, k6, k7⟩ := hA
    rw [htc.1] at k6
    have rel1 : Rel P w0 κ' ⟨putL σ.tmps o.dst av, setH σ.H us⟩ (a.put o.dst v) w' := by
      refine ⟨(h.rel.t.mono k1).put k4, by rw [cs_setH us _ k5]; exact k2, fun id hid hb9 => ?_, fun i b o N h9 => k1.at_ _ _ (h.rel.pin i b o N h9), by rw [cs_setH us _ k5]; exact kf⟩
      have hlen : (setH σ.H us).length = σ.H.length := setH_len _ _
      have hid' : σ.H.length ≤ id := by rw [← hlen]; exact hid
      rw [k3 id hb9 (fun p hp e => ?_)]
      · exact h.rel.fresh id hid' hb9
      · have := List.all_eq_true.mp k5 p hp
        simp at this
        omega
    have k2' : InvE P w0 κ' (cs (setH σ.H us)) w' := rel1.inv
    have kf' : FreeN w0 κ' (cs (setH σ.H us)) := rel1.free
    unfold srcT at k7
    split at k7
    · exact hG κ' _ _ w' k1 (fin κ' w' us _ _ k1 k3 kf' k6 k5 rfl rel1.t k2' k7)
    · rename_i d hd
      simp only at k7
      split at k7
      · rename_i b hb
        have rel2 := rel1.known hb
        cases b with
        | true => exact hG κ' _ _ w' k1 (fin κ' w' us _ _ k1 k3 kf' k6 k5 rfl rel2.t k2' (k7.1 rfl))
        | false => exact hG κ' _ _ w' k1 (fin κ' w' us _ _ k1 k3 kf' k6 k5 rfl rel2.t k2' (k7.2 rfl))
      · exact hG κ' _ _ w' k1 (fin κ' w' us _ _ k1 k3 kf' k6 k5 rfl rel1.t k2' k7)
  · rename_i hlive
    rw [if_neg (by rw [liveG_false h.rel.t hlive]; simp)]
    exact hG κ _ _ w (Kr.le.refl κ) (fin κ w [] ⟨putL σ.tmps o.dst (.tup []), σ.H⟩ _ (Kr.le.refl κ) (fun _ _ _ => rfl) h.rel.free (fun p hp => by cases hp) rfl rfl (h.rel.t.put gundef') h.rel.inv hfirst)
  · exact hfirst.elim
theorem relO_any (hF : FnsOk P F) {ops : Array Oper} {nb : Nat → Nat} {tc : Nat → List Nat × List Nat} {ord : List Nat} {K : St → Tree} (hd : drawnOk P F ops.toList nb tc ord = true) {Qe : Exit → Act → World → Prop} :
    ∀ (fuel : Nat) (κ : Kr) (L : Array Bool) (σ : St) (a : Act) (w : World), RelO P w0 F J Q ops nb tc ord K κ L σ a w → ops.size ≤ Typ.Sm (fun _ => 1) L ops.size + fuel →
    (∀ κ' σ' a' w', κ.le κ' → Rel P w0 κ' σ' a' w' → (K σ').holds F J Q → Qe .normal a' w') → wpAny P .any ops Qe fuel L a w := by
  have hd' := hd
  unfold drawnOk at hd'
  simp only [Bool.and_eq_true, decide_eq_true_eq] at hd'
  obtain ⟨⟨⟨d1, d2⟩, d3⟩, d4⟩ := hd'
  have done : ∀ (κ : Kr) (L : Array Bool) (σ : St) (a : Act) (w : World), RelO P w0 F J Q ops nb tc ord K κ L σ a w → (∀ i, i < ops.size → L.getD i false = true) →
      (∀ κ' σ' a' w', κ.le κ' → Rel P w0 κ' σ' a' w' → (K σ').holds F J Q → Qe .normal a' w') → Qe .normal a w := by
    intro κ L σ a w h hall hQ
    refine hQ κ σ a w (Kr.le.refl κ) h.rel ?_
    have := h.holds
    rw [List.filter_eq_nil_iff.mpr (fun i hi => by
      have h1 := List.all_eq_true.mp d3 i hi
      rw [hall i (by simpa using h1)]
      simp)] at this
    exact this
  intro fuel
  induction fuel with
  | zero =>
    intro κ L σ a w h hn hQ
    have hall : ∀ i, i < ops.size → L.getD i false = true := by
      intro i hi
      by_cases hl : L.getD i false = true
      · exact hl
      · have hl : L.getD i false = false := by simpa using hl
        have h1 := Typ.Sm_set (fun _ => 1) L i (by rw [h.size]; exact hi) hl ops.size
        have h2 := Typ.Sm_le (fun _ => 1) (L.setIfInBounds i true) ops.size
        rw [Typ.Tm_one] at h2
        rw [if_pos hi] at h1
        omega
    refine ⟨?_, done κ L σ a w h hall hQ⟩
    rw [List.eq_nil_iff_forall_not_mem]
    intro j hj
    obtain ⟨h1, o, h2, _⟩ := mem_ready.mp hj
    have hjn := (Array.getElem?_eq_some_iff.mp h2).1
    have := hall j hjn
    rw [Typ.getD_all (by rw [h.size]; exact hjn) false true, h1] at this
    cases this
  | succ fuel ih =>
    intro κ L σ a w h hn hQ
    refine ⟨fun hr => done κ L σ a w h (fun i hi => ?_) hQ, fun i hi => ?_⟩
    · -- by the place in the order
      have key : ∀ A i B, ord = A ++ i :: B → L.getD i false = true := by
        intro A
        induction hA : A.length using Nat.strongRecOn generalizing A with
        | _ n ih2 =>
          intro i B hAB
          by_cases hl : L.getD i false = true
          · exact hl
          · exfalso
            have hl : L.getD i false = false := by simpa using hl
            obtain ⟨o, g1, g2, _⟩ := ordOk_at d4 A i B hAB
            rw [Array.getElem?_toList] at g1
            have hin := (Array.getElem?_eq_some_iff.mp g1).1
            have hm : i ∈ Region.ready .any ops L := mem_ready.mpr ⟨by rw [Typ.getD_all (by rw [h.size]; exact hin) true false]; exact hl, o, g1, fun e he hb => by
              have hon := g2 e he hb
              simp only [List.nil_append] at hon
              obtain ⟨u, v, huv⟩ := List.append_of_mem hon
              exact ih2 u.length (by rw [← hA, huv]; simp) u rfl e.on (v ++ i :: B) (by rw [hAB, huv]; simp)⟩
            rw [hr] at hm
            cases hm
      have hiord : i ∈ ord := by
        have := List.all_eq_true.mp d1 i (by simpa using hi)
        simpa using this
      obtain ⟨A, B, hAB⟩ := List.append_of_mem hiord
      exact key A i B hAB
    · refine relO_step hF hd h hi (fun κ' σ' a' w' hle h' => ih κ' _ σ' a' w' h' ?_ (fun κ'' σ'' a'' w'' g1 g2 g3 => hQ κ'' σ'' a'' w'' (hle.trans g1) g2 g3))
      obtain ⟨h1, o, h2, _⟩ := mem_ready.mp hi
      have hin := (Array.getElem?_eq_some_iff.mp h2).1
      have h3 := Typ.Sm_set (fun _ => 1) L i (by rw [h.size]; exact hin) (by rw [Typ.getD_all (by rw [h.size]; exact hin) false true]; exact h1) ops.size
      rw [if_pos hin] at h3
      omega
end
end Go.Proofs.Ytjleempapphlhab.Mini
end
