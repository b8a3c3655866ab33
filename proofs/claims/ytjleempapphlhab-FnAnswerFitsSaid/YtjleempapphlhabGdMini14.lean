/- Parts of the proof: Mini14. -/
import Derived.Test.YtjleempapphlhabGdMini13
section
namespace Go.Proofs.Ytjleempapphlhab.Mini
open Go Go.RowKit
set_option linter.unusedVariables false
/-- What is behind a function's code. -/
def endK (P : Program) (md : Md) (pts rts : List Nat) (fn : Func) : Kc := fun e σ => match e with
  | .exit _ => .fail
  | _ => retT P md pts rts fn.results.toList σ
/-- What a function begins with. -/
def start0 (fn : Func) (l : List V1) (H : List (Option Row)) : St := ⟨l.map .v ++ List.replicate (fn.ntmps - l.length) anyV, H⟩
def startS (P : Program) (md : Md) (params : List Nat) (fn : Func) (xs : List D) : Option St :=
  match ksAll P params with
  | some ks => match md with
    | .wr => match splitV P params (resA xs 0 0 ks).1 with
      | some l => if lists ks ≤ big then some (start0 fn l (setH (List.replicate (lists ks) none) (resA xs 0 0 ks).2)) else none
      | none => none
    | .wrD => match ks with
      | .list t :: ks => match splitV P params (.sl t 0 0 (selN xs 0) :: sels xs 1 ks) with
        | some l => some (start0 fn l [some (.deep t (selL xs 0))])
        | none => none
      | _ => none
    | _ => match splitV P params (sels xs 0 ks) with
      | some l => some (start0 fn l [])
      | none => none
  | none => none
/-- The tree of a function. -/
def fnT (P : Program) (F : Tb) (hs : Hds) (md : Md) (params results : List Nat) (fn : Func) (body : Code) (xs : List D) : Tree :=
  match startS P md params fn xs with
  | some σ => sx P F hs [] body σ (endK P md params results fn)
  | none => .fail
/-- The tree of one of its places. -/
def plT (P : Program) (F : Tb) (hs : Hds) (md : Md) (params results : List Nat) (fn : Func) (body : Code) (h : Nat) (ys : List D) : Tree :=
  match hs[h]? with
  | some (p, s) => headT P F hs body (endK P md params results fn) p (s.inst ys)
  | none => .fail
section
variable {P : Program} {w0 : Bs} {κ : Kr} {w : World} {F : Tb} {a : Act} {J : Nat → List D → Prop} {Q : List D → Prop} {hs : Hds} {body : Code} {Q0 : Exit → Act → World → Prop}
theorem findH_go {p : List Bool} {h : Nat} {s : Shape} : ∀ {l : Hds} {i : Nat}, findH.go p l i = some (h, s) → i ≤ h ∧ l[h - i]? = some (p, s)
  | [], i, e => by cases e
  | (q, t) :: l, i, e => by
    unfold findH.go at e
    split at e
    · rename_i hq
      injection e with e; injection e with e1 e2
      subst e1; subst e2; subst hq
      exact ⟨Nat.le_refl _, by simp⟩
    · obtain ⟨h1, h2⟩ := findH_go e
      refine ⟨by omega, ?_⟩
      obtain ⟨k, hk⟩ : ∃ k, h - i = k + 1 := ⟨h - i - 1, by omega⟩
      rw [hk, List.getElem?_cons_succ]
      have : h - (i + 1) = k := by omega
      rw [← this]; exact h2
/-- What is known at the end. -/
def EndQ (P : Program) (md : Md) (pts rts : List Nat) (w0 : Bs) (Q : List D → Prop) (e : Ending) (w' : World) : Prop :=
  ∃ v κ C, e = .returned v ∧ InvE P w0 κ C w' ∧ FreeN w0 κ C ∧ (∀ (i b o N : Nat), w0.bs[i]? = some (some (b, o, N)) → κ.at_ (w0.nm i) = some (b, o, N)) ∧ RetQ P md pts κ C w0 w' rts Q v
theorem endK_ok {md : Md} {fn : Func} {pts rts : List Nat} : KOk P w0 F J Q (endK P md pts rts fn) (bodyPost P fn (EndQ P md pts rts w0 Q)) := by
  intro e σ κ a w ht hr
  have key : (retT P md pts rts fn.results.toList σ).holds F J Q → a.defers = [] ∧ ∃ v, (results fn a.tmps).run P w = .ok v w ∧ EndQ P md pts rts w0 Q (.returned v) w := fun h => by
    obtain ⟨h1, v, h2, h3⟩ := ret_sound h hr
    exact ⟨h1, v, h2, v, κ, cs σ.H, rfl, hr.inv, hr.free, hr.pin, h3⟩
  cases e with
  | norm => exact key ht
  | ret => exact key ht
  | exit id => exact ht.elim
/-- A function is as its trees say. -/
theorem fn_core {f : Nat} {fn : Func} {md : Md} {pts rts : List Nat} (hF : FnsOk P F) (hm : P.follows .mixedOrders = true) (hf : P.funcs[f]? = some fn) (hb : fn.body = some body)
    (hpin : ∀ p h sh, findH hs p = some (h, sh) → PinOk w0 sh) {vs : Array Value} {σ : St} (I : Nat → List D → Prop) (μ : Nat → List D → Nat)
    (hmain : (sx P F hs [] body σ (endK P md pts rts fn)).holds F I Q)
    (hloop : ∀ h ys, I h ys → (plT P F hs md pts rts fn body h ys).holds F (fun h' ys' => I h' ys' ∧ μ h' ys' < μ h ys) Q)
    (hr : Rel P w0 κ σ { tmps := vs ++ Array.replicate (fn.ntmps - vs.size) undef, defers := [] } w0.w) : Calls P f vs w0.w (EndQ P md pts rts w0 Q) := by
  refine calls_of_wp hf hb ?_
  generalize hQ0 : bodyPost P fn (EndQ P md pts rts w0 Q) = Q0
  have hK : ∀ J, KOk P w0 F J Q (endK P md pts rts fn) Q0 := fun J => by rw [← hQ0]; exact endK_ok
  have hall : ∀ n h ys, μ h ys = n → I h ys → ∀ p sh, findH hs p = some (h, sh) → ∀ κ a w', Rel P w0 κ (sh.inst ys) a w' → AtP P body Q0 p a w' := by
    intro n
    induction n using Nat.strongRecOn with
    | _ n ih =>
      intro h ys hn hI p sh hp κ a w' hr
      have ht := hloop h ys hI
      unfold plT at ht
      have := (findH_go hp).2
      rw [Nat.sub_zero] at this
      rw [this] at ht
      refine headT_sound hF hm (fun p' h' s' hp' => ⟨hpin p' h' s' hp', fun ys' hJ κ' a' w'' hr' => ?_⟩) (hK _) ht hr
      exact ih _ (hn ▸ hJ.2) h' ys' rfl hJ.1 p' s' hp' κ' a' w'' hr'
  exact sx_sound (Q0 := Q0) hF hm (J := I) (body := body) (fun p h sh hp => ⟨hpin p h sh hp, fun ys hI => hall _ h ys rfl hI p sh hp⟩) hmain hr rfl (hK _)
theorem PinOk.plain {w : World} {zz : Nat → Option Obj} {bs : List (Option (Nat × Nat × Nat))} {s : Shape} (h : bs.length ≤ s.pin) : PinOk ⟨w, zz, bs, fun i => i, fun _ => False⟩ s :=
  ⟨fun i b o N hi => .inl (by have := (List.getElem?_eq_some_iff.mp hi).1; simp only at this; omega), fun i _ => .inl rfl, fun k hk => hk.elim⟩
theorem expand_none : expand (fun _ => none) = fun _ => none := by
  funext k
  unfold expand
  split <;> rfl
theorem cs_nil : cs [] = fun _ => none := by funext k; simp [cs]
theorem start_rel {fn : Func} {l : List V1} {vs : Array Value} (hgv : gV1s P κ l vs.toList) : TRel P κ (start0 fn l []).tmps { tmps := vs ++ Array.replicate (fn.ntmps - vs.size) undef, defers := [] } := by
  have hvl : vs.size = l.length := by have := hgv.len; simpa using this.symm
  refine ⟨rfl, by simp [start0, hvl], fun i x hx => ?_⟩
  unfold start0 at hx
  simp only at hx
  by_cases hi' : i < l.length
  · rw [List.getElem?_append_left (by simpa using hi'), List.getElem?_map] at hx
    obtain ⟨y, hy, rfl⟩ := Option.map_eq_some_iff.mp hx
    obtain ⟨v, h1, h2⟩ := hgv.at hy
    refine ⟨v, ?_, h2⟩
    rw [Array.getElem?_append_left (by omega), ← Array.getElem?_toList]
    exact h1
  · rw [List.getElem?_append_right (by simpa using hi'), List.getElem?_replicate] at hx
    split at hx <;> try (cases hx; done)
    rename_i hlt
    injection hx with hx; subst hx
    rw [List.length_map] at hlt
    exact ⟨undef, by rw [Array.getElem?_append_right (by omega), Array.getElem?_replicate, hvl, if_pos hlt], trivial⟩
/-- A function whose arguments are only read. -/
theorem fn_ok {f : Nat} {fn : Func} {s : Sig} (hF : FnsOk P F) (hm : P.follows .mixedOrders = true) (hf : P.funcs[f]? = some fn) (hn : (fn.name == "runtime.NumGoroutine") = false) (hb : fn.body = some body) (hmd : s.md = .own ∨ s.md = .fz ∨ s.md = .ownD)
    (I : List D → Nat → List D → Prop) (μ : List D → Nat → List D → Nat) {ks : List Kd} (hks : ksAll P s.params = some ks)
    (hmain : ∀ xs, fits xs ks = true → s.pre xs → (fnT P F hs s.md s.params s.results fn body xs).holds F (I xs) (s.post xs))
    (hloop : ∀ xs, fits xs ks = true → s.pre xs → ∀ h ys, I xs h ys → (plT P F hs s.md s.params s.results fn body h ys).holds F (fun h' ys' => I xs h' ys' ∧ μ xs h' ys' < μ xs h ys) (s.post xs)) :
    FnOk P f s := by
  refine ⟨⟨fn, hf, hn, by rw [hb]; rfl⟩, ?_⟩
  have key : ∀ (w : World) (zz : Nat → Option Obj) (vs : Array Value) (xs : List D) (ks : List Kd) (cells : List Value), (∀ b x, zz b = some x → w.heap[b]? = some x) → ksAll P s.params = some ks → splitVal P s.params cells vs.toList → fits xs ks = true → gL P ⟨fun _ => none, zz⟩ (sels xs 0 ks) cells → s.pre xs →
      Calls P f vs w fun e w' => ∃ v ys, e = .returned v ∧ s.post xs ys ∧ Below w.heap.size w w' ∧ ResB P s.md zz w w' s.results ys v := by
    intro w zz vs xs ks' cells hzz hks' hsp hfit hg hpre
    rw [hks] at hks'
    injection hks' with hks'
    subst hks'
    have ht := hmain xs hfit hpre
    unfold fnT at ht
    split at ht <;> try (exact ht.elim)
    rename_i σ hσ
    have hσ' : (match splitV P s.params (sels xs 0 ks) with
      | some l => some (start0 fn l [])
      | none => none) = some σ := by
      unfold startS at hσ
      rw [hks] at hσ
      simp only at hσ
      rcases hmd with hmd' | hmd' | hmd' <;> (rw [hmd'] at hσ; exact hσ)
    split at hσ' <;> try (cases hσ'; done)
    rename_i l hl
    injection hσ' with hσ'
    have hgv := splitV_sound hl hsp hg
    refine (fn_core (w0 := ⟨w, zz, [], fun i => i, fun _ => False⟩) (κ := ⟨fun _ => none, zz⟩) hF hm hf hb (fun _ _ _ _ => PinOk.plain (Nat.zero_le _)) (I xs) (μ xs) ht (hloop xs hfit hpre) (vs := vs) ?_).mono ?_
    · subst hσ'
      have hC : expand (cs (start0 fn l []).H) = fun _ => none := by show expand (cs []) = _; rw [cs_nil, expand_none]
      refine ⟨start_rel hgv, ?_, fun id _ _ => rfl, fun i b o N h => by simp at h, fun _ _ _ => .inl rfl, fun k _ h => h.elim⟩
      show Inv P _ _ (expand (cs (start0 fn l []).H)) w
      rw [hC]
      exact ⟨rfl, rfl, rfl, Nat.le_refl _, fun b _ _ => ⟨rfl, fun x h => h⟩, hzz, fun id row h => (by cases h), fun id id' row row' b o N o' N' h => (by cases h), fun id row b o N h => (by cases h)⟩
    · rintro e w' ⟨v, κ, C, rfl, hi, _, _, hq⟩
      have hi : Inv P _ κ (expand C) w' := hi
      have hbel : Below w.heap.size w w' := ⟨hi.os, hi.tape, hi.output, hi.size, fun b hb => (hi.base b hb (by simp [blocks])).1⟩
      unfold RetQ at hq
      rcases hmd with hmd' | hmd' | hmd' <;> (rw [hmd'] at hq ⊢; obtain ⟨ys, q1, q2⟩ := hq rfl; exact ⟨v, ys, rfl, q1, hbel, q2⟩)
  rcases hmd with hmd' | hmd' | hmd' <;> (rw [hmd'] at key ⊢; exact key)
end
end Go.Proofs.Ytjleempapphlhab.Mini
end
