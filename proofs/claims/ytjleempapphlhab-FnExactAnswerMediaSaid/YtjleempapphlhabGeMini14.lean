/- Parts of the proof: Mini14. -/
import Derived.Test.YtjleempapphlhabGeMini13
section
namespace Go.Proofs.Ytjleempapphlhab.Mini
open Go Go.RowKit
set_option linter.unusedVariables false
/-- What is behind a function's code. -/
def endK (P : Program) (md : Md) (pts rts : List Nat) (fn : Func) : Kc := fun e σ => match e with
  | .exit _ => .fail
  | _ => retT P md pts rts fn.results.toList σ
/-- What a function begins with. -/
def start0 (fn : Func) (l : List V1) (H : List (Option Row)) : St := ⟨l.map .v ++ List.replicate (fn.ntmps - l.length) anyV, H⟩
def startS (P : Program) (md : Md) (params : List Nat) (fn : Func) (xs : List D) : Option St :=
  match ksAll P params with
  | some ks => match md with
    | .wr => match splitV P params (resA xs 0 0 ks).1 with
      | some l => if lists ks ≤ big then some (start0 fn l (setH (List.replicate (lists ks) none) (resA xs 0 0 ks).2)) else none
      | none => none
    | .wrD => match ks with
      | .list t :: ks => match splitV P params (.sl t 0 0 (selN xs 0) :: sels xs 1 ks) with
        | some l => some (start0 fn l [some (.deep t (selL xs 0))])
        | none => none
      | _ => none
    | _ => match splitV P params (sels xs 0 ks) with
      | some l => some (start0 fn l [])
      | none => none
  | none => none
/-- The tree of a function. -/
def fnT (P : Program) (F : Tb) (hs : Hds) (md : Md) (params results : List Nat) (fn : Func) (body : Code) (xs : List D) : Tree :=
  match startS P md params fn xs with
  | some σ => sx P F hs [] body σ (endK P md params results fn)
  | none => .fail
/-- The tree of one of its places. -/
def plT (P : Program) (F : Tb) (hs : Hds) (md : Md) (params results : List Nat) (fn : Func) (body : Code) (h : Nat) (ys : List D) : Tree :=
  match hs[h]? with
  | some (p, s) => headT P F hs body (endK P md params results fn) p (s.inst ys)
  | none => .fail
section
variable {P : Program} {w0 : Bs} {κ : Kr} {w : World} {F : Tb} {a : Act} {J : Nat → List D → Prop} {Q : List D → Prop} {hs : Hds} {body : Code} {Q0 : Exit → Act → World → Prop}
theorem findH_go {p : List Bool} {h : Nat} {s : Shape} : ∀ {l : Hds} {i : Nat}, findH.go p l i = some (h, s) → i ≤ h ∧ l[h - i]? = some (p, s)
  | [], i, e => by cases e
  | (q, t) :: l, i, e => by
    unfold findH.go at e
    split at e
    · rename_i hq
      injection e with e; injection e with e1 e2
      subst e1; subst e2; subst hq
      exact ⟨Nat.le_refl _, by simp⟩
    · obtain ⟨h1, h2⟩ := findH_go e
      refine ⟨by omega, ?_⟩
      obtain ⟨k, hk⟩ : ∃ k, h - i = k + 1 := ⟨h - i - 1, by omega⟩
      rw [hk, List.getElem?_cons_succ]
      have : h - (i + 1) = k := by omega
      rw [← this]; exact h2
/-- What is known at the end. -/
def EndQ (P : Program) (md : Md) (pts rts : List Nat) (w0 : Bs) (Q : List D → Prop) (e : Ending) (w' : World) : Prop :=
  ∃ v κ C, e = .returned v ∧ InvE P w0 κ C w' ∧ FreeN w0 κ C ∧ (∀ (i b o N : Nat), w0.bs[i]? = some (some (b, o, N)) → κ.at_ (w0.nm i) = some (b, o, N)) ∧ RetQ P md pts κ C w0 w' rts Q v
theorem endK_ok {md : Md} {fn : Func} {pts rts : List Nat} : KOk P w0 F J Q (endK P md pts rts fn) (bodyPost P fn (EndQ P md pts rts w0 Q)) := by
  intro e σ κ a w ht hr
  have key : (retT P md pts rts fn.results.toList σ).holds F J Q → a.defers = [] ∧ ∃ v, (results fn a.tmps).run P w = .ok v w ∧ EndQ P md pts rts w0 Q (.returned v) w := fun h => by
    obtain ⟨h1, v, h2, h3⟩ := ret_sound h hr
    exact ⟨h1, v, h2, v, κ, cs σ.H, rfl, hr.inv, hr.free, hr.pin, h3⟩
  cases e with
  | norm => exact key ht
  | ret => exact key ht
  | exit id => exact ht.elim
/-- A function is as its trees say. -/
theorem fn_core {f : Nat} {fn : Func} {md : Md} {pts rts : List Nat} (hF : FnsOk P F) (hm : P.follows .mixedOrders = true) (hf : P.funcs[f]? = some fn) (hb : fn.body = some body)
    (hpin : ∀ p h sh, findH hs p = some (h, sh) → PinOk w0 sh) {vs : Array Value} {σ : St} (I : Nat → List D → Prop) (μ : Nat → List D → Nat)
    (hmain : (sx P F hs [] body σ (endK P md pts rts fn)).holds F I Q)
    (hloop : ∀ h ys, I h ys → (plT P F hs md pts rts fn body h ys).holds F (fun h' ys' => I h' ys' ∧ μ h' ys' < μ h ys) Q)
    (hr : Rel P w0 κ σ { tmps := vs ++ Array.replicate (fn.ntmps - vs.size) undef, defers := [] } w0.w) : Calls P f vs w0.w (EndQ P md pts rts w0 Q) := by
  refine calls_of_wp hf hb ?_
  generalize hQ0 : bodyPost P fn (EndQ P md pts rts w0 Q) = Q0
  have hK : ∀ J, KOk P w0 F J Q (endK P md pts rts fn) Q0 := fun J => by rw [← hQ0]; exact endK_ok
  have hall : ∀ n h ys, μ h ys = n → I h ys → ∀ p sh, findH hs p = some (h, sh) → ∀ κ a w', Rel P w0 κ (sh.inst ys) a w' → AtP P body Q0 p a w' := by
    intro n
    induction n using Nat.strongRecOn with
    | _ n ih =>
      intro h ys hn hI p sh hp κ a w' hr
      have ht := hloop h ys hI
      unfold plT at ht
      have := (findH_go hp).2
      rw [Nat.sub_zero] at this
      rw [this] at ht
      refine headT_sound hF hm (fun p' h' s' hp' => ⟨hpin p' h' s' hp', fun ys' hJ κ' a' w'' hr' => ?_⟩) (hK _) ht hr
      exact ih _ (hn ▸ hJ.2) h' ys' rfl hJ.1 p' s' hp' κ' a' w'' hr'
  exact sx_sound (Q0 := Q0) hF hm (J := I) (body := body) (fun p h sh hp => ⟨hpin p h sh hp, fun ys hI => hall _ h ys rfl hI p sh hp⟩) hmain hr rfl (hK _)
theorem PinOk.plain {w : World} {zz : Nat → Option Obj} {bs : List (Option (Nat × Nat × Nat))} {s : Shape} (h : bs.length ≤ s.pin) : PinOk ⟨w, zz, bs, fun i => i, fun _ => False⟩ s :=
  ⟨fun i b o N hi => .inl (by have := (List.getElem?_eq_some_iff.mp hi).1; simp only at this; omega), fun i _ => .inl rfl, fun k hk => hk.elim⟩
theorem expand_none : expand (fun _ => none) = fun _ => none := by
  funext k
  unfold expand
  split <;> rfl
theorem cs_nil : cs [] = fun _ => none := by funext k; simp [cs]
theorem start_rel {fn : Func} {l : List V1} {vs : Array Value} (hgv : gV1s P κ l vs.toList) : TRel P κ (start0 fn l []).tmps { tmps := vs ++ Array.replicate (fn.ntmps - vs.size) undef, defers := [] } := by
  have hvl : vs.size = l.length := by have := hgv.len; simpa using this.symm
  refine ⟨rfl, by simp [start0, hvl], fun i x hx => ?_⟩
  unfold start0 at hx
  simp only at hx
  by_cases hi' : i < l.length
  · rw [List.getElem?_append_left (by simpa using hi'), List.getElem?_map] at hx
    obtain ⟨y, hy, rfl⟩ := Option.map_eq_some_iff.mp hx
    obtain ⟨v, h1, h2⟩ := hgv.at hy
    refine ⟨v, ?_, h2⟩
    rw [Array.getElem?_append_left (by omega), ← Array.getElem?_toList]
    exact h1
  · rw [List.getElem?_append_right (by simpa using hi'), List.getElem?_replicate] at hx
    split at hx <;> try (cases hx; done)
    rename_i hlt
    injection hx with hx; subst hx
    rw [List.length_map] at hlt
    exact ⟨undef, by rw [Array.getElem?_append_right (by omega), Array.getElem?_replicate, hvl, if_pos hlt], trivial⟩
/-- A function whose arguments are only read. -/
theorem fn_ok {f : Nat} {fn : Func} {s : Sig} (hF : FnsOk P F) (hm : P.follows .mixedOrders = true) (hf : P.funcs[f]? = some fn) (hn : (fn.name == "runtime.NumGoroutine") = false) (hb : fn.body = some body) (hmd : s.md = .own ∨ s.md = .fz ∨ s.md = .ownD)
    (I : List D → Nat → List D → Prop) (μ : List D → Nat → List D → Nat) {ks : List Kd} (hks : ksAll P s.params = some ks)
    (hmain : ∀ xs, fits xs ks = true → s.pre xs → (fnT P F hs s.md s.params s.results fn body xs).holds F (I xs) (s.post xs))
    (hloop : ∀ xs, fits xs ks = true → s.pre xs → ∀ h ys, I xs h ys → (plT P F hs s.md s.params s.results fn body h ys).holds F (fun h' ys' => I xs h' ys' ∧ μ xs h' ys' < μ xs h ys) (s.post xs)) :
    FnOk P f s := by
  refine ⟨⟨fn, hf, hn, by rw [hb]; rfl⟩, ?_⟩
  have key : ∀ (w : World) (zz : Nat → Option Obj) (vs : Array Value) (xs : List D) (ks : List Kd) (cells : List Value), (∀ b x, zz b = some x → w.heap[b]? = some x) → ksAll P s.params = some ks → splitVal P s.params cells vs.toList → fits xs ks = true → gL P ⟨fun _ => none, zz⟩ (sels xs 0 ks) cells → s.pre xs →
      Calls P f vs w fun e w' => ∃ v ys, e = .returned v ∧ s.post xs ys ∧ Below w.heap.size w w' ∧ ResB P s.md zz w w' s.results ys v := by
    intro w zz vs xs ks' cells hzz hks' hsp hfit hg hpre
    rw [hks] at hks'
    injection hks' with hks'
    subst hks'
    have ht := hmain xs hfit hpre
    unfold fnT at ht
    split at ht <;> try (exact ht.elim)
    rename_i σ hσ
    have hσ' : (match splitV P s.params (sels xs 0 ks) with
      | some l => some (start0 fn l [])
      | none => none) = some σ := by
      unfold startS at hσ
      rw [hks] at hσ
      simp only at hσ
      rcases hmd with hmd' | hmd' | hmd' <;> (rw [hmd'] at hσ; exact hσ)
    split at hσ' <;> try (cases hσ'; done)
    rename_i l hl
    injection hσ' with hσ'
    have hgv := splitV_sound hl hsp hg
    refine (fn_core (w0 := ⟨w, zz, [], fun i => i, fun _ => False⟩) (κ := ⟨fun _ => none, zz⟩) hF hm hf hb (fun _ _ _ _ => PinOk.plain (Nat.zero_le _)) (I xs) (μ xs) ht (hloop xs hfit hpre) (vs := vs) ?_).mono ?_
    · subst hσ'
      have hC : expand (cs (start0 fn l []).H) = fun _ => none := by show expand (cs []) = _; rw [cs_nil, expand_none]
      refine ⟨start_rel hgv, ?_, fun id _ _ => rfl, fun i b o N h => by simp at h, fun _ _ _ => .inl rfl, fun k _ h => h.elim⟩
      show Inv P _ _ (expand (cs (start0 fn l []).H)) w
      rw [hC]
      exact ⟨rfl, rfl, rfl, Nat.le_refl _, fun b _ _ => ⟨rfl, fun x h => h⟩, hzz, fun id row h => (by cases h), fun id id' row row' b o N o' N' h => (by cases h), fun id row b o N h => (by cases h)⟩
    · rintro e w' ⟨v, κ, C, rfl, hi, _, _, hq⟩
      have hi : Inv P _ κ (expand C) w' := hi
      have hbel : Below w.heap.size w w' := ⟨hi.os, hi.tape, hi.output, hi.size, fun b hb => (hi.base b hb (by simp [blocks])).1⟩
      unfold RetQ at hq
      rcases hmd with hmd' | hmd' | hmd' <;> (rw [hmd'] at hq ⊢; obtain ⟨ys, q1, q2⟩ := hq rfl; exact ⟨v, ys, rfl, q1, hbel, q2⟩)
  rcases hmd with hmd' | hmd' | hmd' <;> (rw [hmd'] at key ⊢; exact key)
/-- The lists that came in stay as long as they are. -/
def lensOk (xs zs : List D) : Nat → Nat → List Kd → Prop
  | _, _, [] => True
  | j, i, .list _ :: ks => selN zs i = selN xs j ∧ lensOk xs zs (j + 1) (i + 1) ks
  | j, i, _ :: ks => lensOk xs zs (j + 1) i ks
theorem resL_len {base : Nat} {w' : World} {ys : List D} : ∀ {ks : List Kd} {j : Nat} {vs : List Value} {bs : List (Option (Nat × Nat × Nat))}, resL P base w' ys j ks vs bs → bs.length = lists ks
  | [], j, vs, bs, h => by unfold resL at h; rw [h.2]; rfl
  | .list t :: ks, j, [], bs, h => by cases bs <;> unfold resL at h <;> exact h.elim
  | .list t :: ks, j, v :: vs, [], h => by unfold resL at h; exact h.elim
  | .list t :: ks, j, v :: vs, ob :: bs, h => by unfold resL at h; simp [lists, resL_len h.2]
  | .int k :: ks, j, [], bs, h => by cases bs <;> unfold resL at h <;> exact h.elim
  | .bool :: ks, j, [], bs, h => by cases bs <;> unfold resL at h <;> exact h.elim
  | .str :: ks, j, [], bs, h => by cases bs <;> unfold resL at h <;> exact h.elim
  | .int k :: ks, j, v :: vs, bs, h => by unfold resL at h; simp [lists, resL_len h.2]
  | .bool :: ks, j, v :: vs, bs, h => by unfold resL at h; simp [lists, resL_len h.2]
  | .str :: ks, j, v :: vs, bs, h => by unfold resL at h; simp [lists, resL_len h.2]
theorem wroteL_of {C : Cs} {w' : World} (hi : Inv P w0 κ C w') {zs xs : List D} {pk0 : List Kd} (hrows : ∀ (j t : Nat), (ltypes pk0)[j]? = some t → ∃ row l, C j = some row ∧ row.t = t ∧ rowD row = some l ∧ zs[j]? = some (.list t (l.length / sz P t) l) ∧ l.length = l.length / sz P t * sz P t ∧ ∀ d ∈ l, d.scalar = true)
    {bs0 : List (Option (Nat × Nat × Nat))} (hpin : ∀ (i b o N : Nat), bs0[i]? = some (some (b, o, N)) → κ.at_ i = some (b, o, N)) : ∀ {ks : List Kd} {vs : List Value} {bs : List (Option (Nat × Nat × Nat))} {i j : Nat}, resL P 0 w xs j ks vs bs → bs = bs0.drop i → ltypes ks = (ltypes pk0).drop i → lensOk xs zs j i ks → wroteL P w' zs i ks vs bs
  | [], vs, bs, i, j, h, hb, hk, hl => by unfold resL at h; unfold wroteL; exact h
  | .int k :: ks, [], bs, i, j, h, hb, hk, hl => by cases bs <;> unfold resL at h <;> exact h.elim
  | .bool :: ks, [], bs, i, j, h, hb, hk, hl => by cases bs <;> unfold resL at h <;> exact h.elim
  | .str :: ks, [], bs, i, j, h, hb, hk, hl => by cases bs <;> unfold resL at h <;> exact h.elim
  | .list t :: ks, [], bs, i, j, h, hb, hk, hl => by cases bs <;> unfold resL at h <;> exact h.elim
  | .list t :: ks, v :: vs, [], i, j, h, hb, hk, hl => by unfold resL at h; exact h.elim
  | .int k :: ks, v :: vs, bs, i, j, h, hb, hk, hl => by unfold resL at h; unfold wroteL; exact wroteL_of hi hrows hpin h.2 hb hk hl
  | .bool :: ks, v :: vs, bs, i, j, h, hb, hk, hl => by unfold resL at h; unfold wroteL; exact wroteL_of hi hrows hpin h.2 hb hk hl
  | .str :: ks, v :: vs, bs, i, j, h, hb, hk, hl => by unfold resL at h; unfold wroteL; exact wroteL_of hi hrows hpin h.2 hb hk hl
  | .list t :: ks, v :: vs, ob :: bs, i, j, h, hb, hk, hl => by
    unfold resL at h
    unfold wroteL
    unfold lensOk at hl
    have hb1 : bs0[i]? = some ob := by rw [← List.head?_drop, ← hb]; rfl
    have hk1 : (ltypes pk0)[i]? = some t := by rw [← List.head?_drop, ← hk]; rfl
    refine ⟨?_, wroteL_of hi hrows hpin h.2 (by rw [← List.drop_drop, ← hb]; rfl) (by rw [← List.drop_drop, ← hk]; rfl) hl.2⟩
    obtain ⟨row, l, r1, r2, r3, r4, r5, r6⟩ := hrows i t hk1
    have e1 : selN zs i = l.length / sz P t := by unfold selN; rw [r4]
    have e2 : selL zs i = l := by unfold selL; rw [r4]
    obtain ⟨ho, _⟩ := h
    rw [hl.1, e2]
    cases ob with
    | none =>
      obtain ⟨h1, h2, h3⟩ := ho
      refine ⟨?_, h2, h3⟩
      have : l.length / sz P t = 0 := by rw [← e1, hl.1, h2]
      rw [this, Nat.zero_mul] at r5
      exact List.eq_nil_of_length_eq_zero r5
    | some x =>
      obtain ⟨b, o, N⟩ := x
      obtain ⟨c, arr, h1, h2, h3, h4, h5, h6, h7, h8⟩ := ho
      have hat := hpin i b o N hb1
      rcases (hi.live i row r1).ds r3 with ⟨g1, _⟩ | ⟨b2, o2, N2, arr2, g1, g2, g3, g4, g5, g6⟩
      · rw [g1] at hat; cases hat
      rw [g1] at hat
      injection hat with hat; injection hat with q1 q2; injection q2 with q2 q3
      subst q1; subst q2; subst q3
      rw [r2] at g3
      refine ⟨c, arr2, h1, h2, ?_, h4, h5, g3, g4, fun k d hk2 => ?_⟩
      · rw [← hl.1, e1]; exact r5
      · obtain ⟨y, k1, k2⟩ := g6 k d hk2
        refine ⟨y, k1, ?_⟩
        have hs := r6 d (List.mem_of_getElem? hk2)
        cases d with
        | list => cases hs
        | _ => unfold gD at k2 ⊢; exact k2
theorem ltypes_len : ∀ (ks : List Kd), (ltypes ks).length = lists ks
  | [] => rfl
  | .list t :: ks => by simp [ltypes, lists, ltypes_len ks]
  | .int _ :: ks => ltypes_len ks
  | .bool :: ks => ltypes_len ks
  | .str :: ks => ltypes_len ks
/-- A function that writes into the lists among its arguments. -/
theorem fn_okW {f : Nat} {fn : Func} {s : Sig} (hF : FnsOk P F) (hm : P.follows .mixedOrders = true) (hf : P.funcs[f]? = some fn) (hn : (fn.name == "runtime.NumGoroutine") = false) (hb : fn.body = some body) (hmd : s.md = .wr)
    (I : List D → Nat → List D → Prop) (μ : List D → Nat → List D → Nat) {ks rk : List Kd} (hks : ksAll P s.params = some ks) (hrk : ksAll P s.results = some rk)
    (hpin : ∀ p h sh, findH hs p = some (h, sh) → lists ks ≤ sh.pin) (hlens : ∀ xs yz, fits xs ks = true → s.pre xs → s.post xs yz → lensOk xs (yz.drop rk.length) 0 0 ks)
    (hmain : ∀ xs, fits xs ks = true → s.pre xs → (fnT P F hs s.md s.params s.results fn body xs).holds F (I xs) (s.post xs))
    (hloop : ∀ xs, fits xs ks = true → s.pre xs → ∀ h ys, I xs h ys → (plT P F hs s.md s.params s.results fn body h ys).holds F (fun h' ys' => I xs h' ys' ∧ μ xs h' ys' < μ xs h ys) (s.post xs)) :
    FnOk P f s := by
  refine ⟨⟨fn, hf, hn, by rw [hb]; rfl⟩, ?_⟩
  have key : ∀ (w : World) (vs : Array Value) (xs : List D) (ks : List Kd) (cells : List Value) (bs : List (Option (Nat × Nat × Nat))), ksAll P s.params = some ks → splitVal P s.params cells vs.toList → fits xs ks = true → resL P 0 w xs 0 ks cells bs → (blocks bs).Nodup → s.pre xs →
      Calls P f vs w fun e w' => ∃ v ys zs, e = .returned v ∧ s.post xs (ys ++ zs) ∧ (∃ rk, ksAll P s.results = some rk ∧ lists rk = 0 ∧ ys.length = rk.length) ∧ Wrote w w' (blocks bs) ∧ wroteL P w' zs 0 ks cells bs ∧ ResOk P w w' s.results ys v := by
    intro w vs xs ks' cells bs hks' hsp hfit hres hnd hpre
    rw [hks] at hks'
    injection hks' with hks'
    subst hks'
    have ht := hmain xs hfit hpre
    unfold fnT at ht
    split at ht <;> try (exact ht.elim)
    rename_i σ hσ
    unfold startS at hσ
    rw [hks, hmd] at hσ
    simp only at hσ
    split at hσ <;> try (cases hσ; done)
    rename_i l hl
    split at hσ <;> try (cases hσ; done)
    rename_i hbig
    injection hσ with hσ
    have hbl := resL_len hres
    let zz : Nat → Option Obj := fun b => if b ∈ blocks bs then none else w.heap[b]?
    have hi0 : Inv P ⟨w, zz, bs, fun i => i, fun _ => False⟩ ⟨fun _ => none, zz⟩ (fun _ => none) w := by
      refine ⟨rfl, rfl, rfl, Nat.le_refl _, fun b _ _ => ⟨rfl, fun x h => h⟩, fun b x hx => ?_, fun id row h => (by cases h), fun id id' row row' b o N o' N' h => (by cases h), fun id row b o N h => (by cases h)⟩
      have hx' : (if b ∈ blocks bs then none else w.heap[b]?) = some x := hx
      split at hx'
      · cases hx'
      · exact hx'
    obtain ⟨κ', q1, q2, q3, q4, q5⟩ := res_sound (W := 0) (nb := 0) hi0 hres hnd (fun id _ _ => ⟨rfl, rfl⟩) (fun id row b o N h => (by cases h)) (fun b hb => ⟨if_pos hb, .inr hb⟩)
    have hcs0 : cs (List.replicate (lists ks) none) = fun _ => none := by
      funext k
      unfold cs
      rw [List.getElem?_replicate]
      split <;> rfl
    have hlt : ∀ p ∈ (resA xs 0 0 ks).2, p.1 < lists ks := fun p hp => by have := resA_ids xs ks 0 0 p hp; omega
    have hcs : cs (setH (List.replicate (lists ks) none) (resA xs 0 0 ks).2) = upd (fun _ => none) (resA xs 0 0 ks).2 := by
      rw [cs_setH _ _ (List.all_eq_true.mpr fun p hp => by simpa using hlt p hp), hcs0]
    have hgv := splitV_sound hl hsp q3
    refine (fn_core (w0 := ⟨w, zz, bs, fun i => i, fun _ => False⟩) (κ := κ') hF hm hf hb (fun p h sh hp => PinOk.plain (by rw [hbl]; exact hpin p h sh hp)) (I xs) (μ xs) ht (hloop xs hfit hpre) (vs := vs) ?_).mono ?_
    · subst hσ
      have hplain : ∀ p ∈ (resA xs 0 0 ks).2, p.1 < big ∧ plainO p.2 = true := fun p hp => ⟨by have := hlt p hp; omega, resA_plain xs ks 0 0 p hp⟩
      have hE : ∀ id row, expand (upd (fun _ => none) (resA xs 0 0 ks).2) id = some row → upd (fun _ => none) (resA xs 0 0 ks).2 id = some row := expand_upd (fun id row h => by rw [expand_none] at h; exact h) hplain
      refine ⟨start_rel hgv, ?_, fun id hid _ => ?_, fun i b o N h => ?_, fun k hk _ => ?_, fun k _ h => h.elim⟩
      · show Inv P _ κ' (expand (cs (setH _ _))) w
        rw [hcs]; exact q2.less hE
      · have hid' : lists ks ≤ id := by
          have : (setH (List.replicate (lists ks) none) (resA xs 0 0 ks).2).length ≤ id := hid
          rw [setH_len] at this
          simpa using this
        rw [q4 id (fun p hp e => by have := hlt p hp; omega)]
      · have := q5 i _ h
        rwa [Nat.zero_add] at this
      · rw [q4 k (fun p hp e => by have := hlt p hp; omega)]
        exact .inl rfl
    · rintro e w' ⟨v, κ2, C2, rfl, hi, _, hp, hq⟩
      have hi : Inv P _ κ2 (expand C2) w' := hi
      unfold RetQ at hq
      rw [hmd] at hq
      obtain ⟨ys, zs, rk', pk', h1, h2, h3, h4, h5, h6, h7, h8⟩ := hq
      rw [hrk] at h1
      injection h1 with h1
      subst h1
      rw [hks] at h2
      injection h2 with h2
      subst h2
      have hlen := hlens xs (ys ++ zs) hfit hpre h3
      rw [← h5, List.drop_left] at hlen
      refine ⟨v, ys, zs, rfl, h3, ⟨rk, hrk, h4, h5⟩, ⟨hi.os, hi.tape, hi.output, hi.size, fun b hb hn => (hi.base b hb hn).1⟩, ?_, h6⟩
      have hlt2 : ∀ {j t : Nat}, (ltypes ks)[j]? = some t → j < lists ks := fun {j t} hj => by
        have := (List.getElem?_eq_some_iff.mp hj).1
        rwa [ltypes_len] at this
      exact wroteL_of hi (fun j t hj => by
        obtain ⟨row, l9, g1, g2, g3, g4⟩ := h8 j t hj
        refine ⟨row, l9, ?_, g2, g3, g4⟩
        have := hlt2 hj
        rw [expand_ord (by omega), g1]
        cases row with
        | deep _ _ => cases g3
        | _ => rfl) hp (i := 0) (j := 0) hres rfl rfl hlen
  rw [hmd]
  exact key
/-- A function that writes into a list of the call's own, and into the lists in it. -/
theorem fn_okD {f : Nat} {fn : Func} {s : Sig} (hF : FnsOk P F) (hm : P.follows .mixedOrders = true) (hf : P.funcs[f]? = some fn) (hn : (fn.name == "runtime.NumGoroutine") = false) (hb : fn.body = some body) (hmd : s.md = .wrD)
    (I : List D → Nat → List D → Prop) (μ : List D → Nat → List D → Nat) {t : Nat} {ks rk : List Kd} (hks : ksAll P s.params = some (.list t :: ks)) (hrk : ksAll P s.results = some rk)
    (hpin : ∀ p h sh, findH hs p = some (h, sh) → sh.pin = 1 ∧ sh.rows[0]?.map isDp = some true) (hsame : ∀ xs ys n' ds', fits xs (.list t :: ks) = true → s.pre xs → s.post xs (ys ++ [.list t n' ds']) → ys.length = rk.length → n' = selN xs 0 ∧ sameOwn (selL xs 0) ds')
    (hmain : ∀ xs, fits xs (.list t :: ks) = true → s.pre xs → (fnT P F hs s.md s.params s.results fn body xs).holds F (I xs) (s.post xs))
    (hloop : ∀ xs, fits xs (.list t :: ks) = true → s.pre xs → ∀ h ys, I xs h ys → (plT P F hs s.md s.params s.results fn body h ys).holds F (fun h' ys' => I xs h' ys' ∧ μ xs h' ys' < μ xs h ys) (s.post xs)) :
    FnOk P f s := by
  refine ⟨⟨fn, hf, hn, by rw [hb]; rfl⟩, ?_⟩
  rw [hmd]
  intro w vs xs t' ks' u us ob inner hks' hl0 hsp hfit hd hg hpre
  rw [hks] at hks'
  injection hks' with hks'
  injection hks' with e1 e2
  injection e1 with e1
  subst e1; subst e2
  have ht := hmain xs hfit hpre
  unfold fnT at ht
  split at ht <;> try (exact ht.elim)
  rename_i σ hσ
  unfold startS at hσ
  rw [hks, hmd] at hσ
  simp only at hσ
  split at hσ <;> try (cases hσ; done)
  rename_i l hl
  injection hσ with hσ
  have h0 : (0 : Nat) < big := by decide
  generalize hxd : selL xs 0 = ds at *
  let zz : Nat → Option Obj := fun b => if b ∈ blocksD ob inner ds.length then none else w.heap[b]?
  let bs : List (Option (Nat × Nat × Nat)) := ob :: (List.range ds.length).map inner
  let nm : Nat → Nat := fun i => match i with | 0 => 0 | j + 1 => inn 0 j
  let pn : Nat → Prop := fun k => ∃ (j u n : Nat) (l : List D), ds[j]? = some (.list u n l) ∧ ownL (.list u n l) = true ∧ inner j = none ∧ k = inn 0 j
  have hi0 : InvE P ⟨w, zz, bs, fun i => i, fun _ => False⟩ ⟨fun _ => none, zz⟩ (fun _ => none) w := by
    show Inv P _ _ (expand (fun _ => none)) w
    rw [expand_none]
    refine ⟨rfl, rfl, rfl, Nat.le_refl _, fun b _ _ => ⟨rfl, fun x h => h⟩, fun b x hx => ?_, fun id row h => (by cases h), fun id id' row row' b o N o' N' h => (by cases h), fun id row b o N h => (by cases h)⟩
    have hx' : (if b ∈ blocksD ob inner ds.length then none else w.heap[b]?) = some x := hx
    split at hx'
    · cases hx'
    · exact hx'
  obtain ⟨i1, i2, i3, i4⟩ := deepOk_inner hd
  obtain ⟨a1, a2, a3, a4, a5⟩ := add_deep (nb := 0) (w0 := ⟨w, zz, bs, fun i => i, fun _ => False⟩) hi0 ⟨fun _ _ _ => .inl rfl, fun _ _ h => h.elim⟩ h0 rfl rfl hd (fun b hb => ⟨if_pos hb, .inr hb⟩) (fun k row b o N hk => by rw [expand_none] at hk; cases hk)
  have hcs : cs [some (Row.deep t ds)] = upd (fun _ => none) [(0, some (Row.deep t ds))] := by
    funext k
    rw [upd_one]
    cases k with
    | zero => rfl
    | succ k => simp [cs]
  have hgl : gL P (Kr.putD ⟨fun _ => none, zz⟩ 0 ob inner) (.sl t 0 0 (selN xs 0) :: sels xs 1 ks) (u :: us) := ⟨a3, gL.mono ⟨fun _ _ h => (by cases h), fun _ _ h => (by cases h)⟩ hg⟩
  have hgv := splitV_sound hl hsp hgl
  have hbs : ∀ (i b o N : Nat), bs[i]? = some (some (b, o, N)) → (i = 0 ∧ ob = some (b, o, N)) ∨ ∃ j, i = j + 1 ∧ j < ds.length ∧ inner j = some (b, o, N) := fun i b o N h => by
    cases i with
    | zero =>
      have h' : some ob = some (some (b, o, N)) := h
      injection h' with h'
      exact .inl ⟨rfl, h'⟩
    | succ j =>
      have h' : ((List.range ds.length).map inner)[j]? = some (some (b, o, N)) := h
      rw [List.getElem?_map] at h'
      obtain ⟨x, hx, hy⟩ := Option.map_eq_some_iff.mp h'
      obtain ⟨q1, q2⟩ := List.getElem?_eq_some_iff.mp hx
      rw [List.getElem_range] at q2
      subst q2
      exact .inr ⟨j, rfl, by simpa using q1, hy⟩
  refine (fn_core (w0 := ⟨w, zz, bs, nm, pn⟩) (κ := Kr.putD ⟨fun _ => none, zz⟩ 0 ob inner) hF hm hf hb (fun p h sh hp => ?_) (I xs) (μ xs) ht (hloop xs hfit hpre) (vs := vs) ?_).mono ?_
  · obtain ⟨p1, p2⟩ := hpin p h sh hp
    refine ⟨fun i b o N h9 => ?_, fun i hi => .inl ?_, fun k hk => ?_⟩
    · rcases hbs i b o N h9 with ⟨rfl, _⟩ | ⟨j, rfl, _⟩
      · exact .inl (by omega)
      · exact .inr ⟨by omega, p2, j, rfl⟩
    · have : i = 0 := by omega
      subst this; rfl
    · obtain ⟨j, _, _, _, _, _, _, hk⟩ := hk
      exact ⟨by omega, p2, j, hk⟩
  · subst hσ
    refine ⟨start_rel hgv, ?_, fun id hid hidb => ?_, fun i b o N h => ?_, ?_, fun k hk hp => ?_⟩
    · show Inv P _ _ (expand (cs [some (Row.deep t ds)])) w
      rw [hcs]
      have a2' : Inv P _ _ (expand (upd (fun _ => none) [(0, some (Row.deep t ds))])) w := a2
      exact ⟨a2'.os, a2'.tape, a2'.output, a2'.size, a2'.base, a2'.z, a2'.live, a2'.apart, a2'.own⟩
    · have : 1 ≤ id := hid
      rw [a4 id hidb (by omega)]
    · rcases hbs i b o N h with ⟨rfl, rfl⟩ | ⟨j, rfl, _, hj⟩
      · exact putD_nb h0
      · show (Kr.putD _ 0 ob inner).at_ (inn 0 j) = _
        rw [putD_inn h0]; exact hj
    · show ∀ k, ¬ k < big → expand (cs [some (Row.deep t ds)]) k = none → _ ∨ goneN _ (cs [some (Row.deep t ds)]) k
      rw [hcs]; exact a5.1
    · obtain ⟨j, u', n', l', d1, d2, d3, rfl⟩ := hp
      refine .inl ⟨?_, by rw [putD_inn h0]; exact d3⟩
      show expand (cs [some (Row.deep t ds)]) _ ≠ none
      rw [hcs, expand_inn h0, upd_one, if_pos rfl, innR_own d1 d2]
      simp
  · rintro e w' ⟨v, κ2, C2, rfl, hiE, hfr, hp, hq⟩
    have hi : Inv P _ κ2 (expand C2) w' := hiE
    unfold RetQ at hq
    rw [hmd] at hq
    obtain ⟨ys, zs, rk', pk', t2, h1, h2, h3, h4, h5, h6, h7, h8, h9⟩ := hq
    rw [hrk] at h1
    injection h1 with h1
    subst h1
    rw [hks] at h2
    injection h2 with h2
    injection h2 with h2 h2'
    injection h2 with h2
    subst h2; subst h2'
    obtain ⟨s1, s2⟩ := hsame xs ys _ zs hfit hpre h3 h5
    rw [hxd] at s2
    have hat0 : ∀ x, ob = some x → κ2.at_ 0 = some x := fun x hx => by
      obtain ⟨b, o, N⟩ := x
      exact hp 0 b o N (by show some ob = _; rw [hx])
    have hatj : ∀ j x, inner j = some x → κ2.at_ (inn 0 j) = some x := fun j x hx => by
      obtain ⟨b, o, N⟩ := x
      refine hp (j + 1) b o N ?_
      show ((List.range ds.length).map inner)[j]? = _
      rw [List.getElem?_map, List.getElem?_range (i1 j _ hx).1, ← hx]
      rfl
    have hE0 : expand C2 0 = some (.fix t (deepA 0 0 zs)) := by rw [expand_ord h0, h7]; rfl
    have stays : ∀ (j b o N u n : Nat) (l : List D), inner j = some (b, o, N) → ds[j]? = some (.list u n l) → ∃ arr, w'.heap[b]? = some (.cells arr u (0, 0)) ∧ arr.size = N := fun j b o N u' n l' hj hdj => by
      obtain ⟨_, d, q1, q2⟩ := i1 j _ hj
      rw [hdj] at q1
      injection q1 with q1
      subst q1
      obtain ⟨n0, l0, z1, z2⟩ := same_back s2 hdj q2
      have hEj : expand C2 (inn 0 j) = some (.sym u' l0) := by rw [expand_inn h0, h7]; exact innR_own z1 z2
      rcases hi.live _ _ hEj with ⟨g1, _⟩ | ⟨b2, o2, N2, arr, g1, g2, g3, g4, _⟩
      · rw [hatj j _ hj] at g1; cases g1
      · rw [hatj j _ hj] at g1
        injection g1 with g1; injection g1 with y1 y2; injection y2 with y2 y3
        subst y1; subst y3
        exact ⟨arr, g3, g4⟩
    have fin : ∀ inner', (∀ j, inner' j = none ∨ inner' j = inner j) → deepOk P 0 w' t (zs.length / sz P t) zs u ob inner' → ∃ v' ys' n' ds' inner', Ending.returned v = .returned v' ∧ s.post xs (ys' ++ [.list t n' ds']) ∧ (∃ rk, ksAll P s.results = some rk ∧ lists rk = 0 ∧ ys'.length = rk.length) ∧ Wrote w w' (blocksD ob inner ds.length) ∧ innOk w' ds inner inner' ∧ deepOk P 0 w' t n' ds' u ob inner' ∧ ResOk P w w' s.results ys' v' := fun inner' hin hd' =>
      ⟨v, ys, _, zs, inner', rfl, h3, ⟨rk, hrk, h4, h5⟩, ⟨hi.os, hi.tape, hi.output, hi.size, fun b hb hn => (hi.base b hb hn).1⟩, ⟨hin, stays⟩, hd', h6⟩
    cases hob : ob with
    | none =>
      rw [hob] at hd
      obtain ⟨q1, q2, q3, q4⟩ := hd
      have hz : zs = [] := by
        have := s2.1
        rw [q1] at this
        exact List.eq_nil_of_length_eq_zero this
      refine hob ▸ fin (fun _ => none) (fun _ => .inl rfl) ?_
      rw [hob]
      exact ⟨hz, by rw [hz]; simp, q3, fun _ => rfl⟩
    | some x =>
      obtain ⟨b, o, N⟩ := x
      have hd0 := hd
      rw [hob] at hd0
      obtain ⟨⟨c, arr, q1, q2, q3, q4, q5, q6, q7, q8⟩, _⟩ := hd0
      have hat := hat0 _ hob
      have hga : gA P κ2 (.sl t 0 0 (zs.length / sz P t)) u := by
        rw [s1]
        exact ⟨some ⟨b, o, none⟩, c, q1, q2, .inr ⟨b, o, N, hat, by simp, by simpa using q5⟩⟩
      rcases deep_is hiE hfr h7 h0 h8 h9 hga with ⟨hnil, _⟩ | ⟨b2, o2, N2, inner', g1, g2, g3⟩
      · refine hob ▸ fin (fun _ => none) (fun _ => .inl rfl) ?_
        rw [hob]
        rcases hi.live _ _ hE0 with ⟨g1, _⟩ | ⟨b2, o2, N2, arr2, g1, g2, g3, g4, _⟩
        · rw [hat] at g1; cases g1
        rw [hat] at g1
        injection g1 with g1; injection g1 with y1 y2; injection y2 with y2 y3
        subst y1; subst y2; subst y3
        exact ⟨⟨c, arr2, by rw [s1]; exact q1, by rw [s1]; exact q2, h8, Nat.zero_le _, q5, g3, g4, fun j d hj => by rw [hnil] at hj; simp at hj⟩, fun _ _ => rfl, fun _ _ _ _ h => (by cases h), fun _ _ _ _ _ _ _ h => (by cases h)⟩
      · rw [hat] at g1
        injection g1 with g1; injection g1 with y1 y2; injection y2 with y2 y3
        subst y1; subst y2; subst y3
        rw [← hob] at g3
        refine hob ▸ fin inner' (fun j => ?_) g3
        rcases g2 j with h | h
        · exact .inl h
        · cases hj : inner j with
          | some x => right; rw [h]; exact hatj j x hj
          | none =>
            left
            cases hj' : inner' j with
            | none => rfl
            | some y =>
              exfalso
              obtain ⟨_, d, z1, z2⟩ := (deepOk_inner g3).1 j y hj'
              obtain ⟨u', m', l', rfl⟩ := ownL_list z2
              obtain ⟨n0, l0, x1, x2⟩ := same_own s2 z1 z2
              rcases hfr.2 (inn 0 j) inn_big ⟨j, u', n0, l0, x1, x2, hj, rfl⟩ with ⟨_, this⟩ | ⟨this, _⟩
              · rw [← h, hj'] at this
                cases this
              · rw [(inn_parts h0).1, h7] at this
                cases this
end
end Go.Proofs.Ytjleempapphlhab.Mini
end
