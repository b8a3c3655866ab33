/- Parts of the proof: Mini13. -/
import Derived.Test.YtjleempapphlhabGeMini12
section
namespace Go.Proofs.Ytjleempapphlhab.Mini
open Go Go.RowKit
set_option linter.unusedVariables false
inductive Ex where
  | norm
  | exit (id : Nat)
  | ret
def Ex.to : Ex → Exit
  | .norm => .normal
  | .exit id => .exit id
  | .ret => .ret
abbrev Kc := Ex → St → Tree
/-- Where the walk stops for good: a place in the code (innermost turn first) and what is carried there. -/
abbrev Hds := List (List Bool × Shape)
def findH (hs : Hds) (p : List Bool) : Option (Nat × Shape) := go hs 0 where
  go : Hds → Nat → Option (Nat × Shape)
  | [], _ => none
  | (q, s) :: l, i => if q = p then some (i, s) else go l (i + 1)
def gotoH (h : Nat) (s : Shape) (σ : St) : Tree := match s.ex σ with | some xs => .needs (s.nds σ) (.goto h xs) | none => .fail
def thenK (f : St → Tree) (K : Kc) : Kc := fun e σ => match e with | .norm => f σ | e => K e σ
def blockK (id : Nat) (K : Kc) : Kc := fun e σ => match e with | .exit id' => if id' = id then K .norm σ else K (.exit id') σ | e => K e σ
def evalC (tmps : List AV) : Operand → AV
  | .tmp t => tmps.getD t anyV
  | .const (.bool b) => lit b
  | _ => anyV
def knownC (σ : St) (c : Operand) (b : Bool) : St := match c with | .tmp t => ⟨σ.tmps.set t (lit b), σ.H⟩ | _ => σ
section
variable (P : Program) (F : Tb) (hs : Hds)
/-- Code from here on; what comes behind it is `K`. -/
def sx0 : List Bool → Code → St → Kc → Tree
  | p, .skip, σ, K => K .norm σ
  | p, .label _, σ, K => K .norm σ
  | p, .exit id, σ, K => K (.exit id) σ
  | p, .ret, σ, K => K .ret σ
  | p, .region _ ops draw, σ, K => sxRegion P F ops.toList draw σ (K .norm)
  | p, .seq x y, σ, K => 
    let fy := fun σ1 => match findH hs (true :: p) with | some (h, s) => gotoH h s σ1 | none => sx0 (true :: p) y σ1 K
    match findH hs (false :: p) with
    | some (h, s) => gotoH h s σ
    | none => sx0 (false :: p) x σ (thenK fy K)
  | p, .cond c x y, σ, K => match litB (evalC σ.tmps c) with
    | some true => (match findH hs (false :: p) with | some (h, s) => gotoH h s σ | none => sx0 (false :: p) x σ K)
    | some false => (match findH hs (true :: p) with | some (h, s) => gotoH h s σ | none => sx0 (true :: p) y σ K)
    | none => match anyB (evalC σ.tmps c) with
    | some b => .ite b (match findH hs (false :: p) with | some (h, s) => gotoH h s (knownC σ c true) | none => sx0 (false :: p) x (knownC σ c true) K)
        (match findH hs (true :: p) with | some (h, s) => gotoH h s (knownC σ c false) | none => sx0 (true :: p) y (knownC σ c false) K)
    | none => .fail
  | p, .block id x, σ, K => match findH hs (false :: p) with
    | some (h, s) => gotoH h s σ
    | none => sx0 (false :: p) x σ (blockK id K)
  | _, _, _, _ => .fail
def sx (p : List Bool) (c : Code) (σ : St) (K : Kc) : Tree := match findH hs p with | some (h, s) => gotoH h s σ | none => sx0 P F hs p c σ K
def child : Code → Bool → Option Code
  | .seq x _, false => some x
  | .seq _ y, true => some y
  | .cond _ x _, false => some x
  | .cond _ _ y, true => some y
  | .block _ x, false => some x
  | .loop x, false => some x
  | _, _ => none
def sub (body : Code) : List Bool → Option Code
  | [] => some body
  | b :: p => (sub body p).bind fun c => child c b
/-- What comes behind a place. -/
def kont (body : Code) (K0 : Kc) : List Bool → Kc
  | [] => K0
  | b :: p => match sub body p, b with
    | some (.seq _ y), false => thenK (fun σ => sx P F hs (true :: p) y σ (kont body K0 p)) (kont body K0 p)
    | some (.block id _), _ => blockK id (kont body K0 p)
    | some (.loop _), _ => thenK (fun σ => match findH hs p with | some (h, s) => gotoH h s σ | none => .fail) (kont body K0 p)
    | _, _ => kont body K0 p
/-- The tree of a place. -/
def headT (body : Code) (K0 : Kc) (p : List Bool) (σ : St) : Tree := match sub body p with
  | some (.loop c) => sx P F hs (false :: p) c σ (kont P F hs body K0 (false :: p))
  | some c => sx0 P F hs p c σ (kont P F hs body K0 p)
  | none => .fail
end
/-- A loop's round begins. -/
def loopWp (P : Program) (c : Code) (Q : Exit → Act → World → Prop) (a : Act) (w : World) : Prop :=
  ∀ (b : Frame) (k : List Item) (cs : List Frame), ∃ e a' w', Q e a' w' ∧ Arrives P (lone (b.at a (.code c :: .inLoop c :: k)) cs w) b k cs e a' w'
def qont (P : Program) (body : Code) (Q0 : Exit → Act → World → Prop) : List Bool → Exit → Act → World → Prop
  | [] => Q0
  | b :: p => match sub body p, b with
    | some (.seq _ y), false => Exit.then (y.wp P (qont P body Q0 p)) (qont P body Q0 p)
    | some (.block id _), _ => Exit.inBlock id (qont P body Q0 p)
    | some (.loop c), _ => Exit.then (loopWp P c (qont P body Q0 p)) (qont P body Q0 p)
    | _, _ => qont P body Q0 p
/-- The code at a place does as said. -/
def AtP (P : Program) (body : Code) (Q0 : Exit → Act → World → Prop) (p : List Bool) (a : Act) (w : World) : Prop := match sub body p with
  | some (.loop c) => loopWp P c (qont P body Q0 p) a w
  | some c => c.wp P (qont P body Q0 p) a w
  | none => False
section
variable {P : Program} {w0 : Bs} {κ : Kr} {w : World} {F : Tb} {a : Act} {J : Nat → List D → Prop} {Q : List D → Prop} {hs : Hds} {body : Code} {Q0 : Exit → Act → World → Prop}
theorem qont_cons (b : Bool) (p : List Bool) : qont P body Q0 (b :: p) = match sub body p, b with
    | some (.seq _ y), false => Exit.then (y.wp P (qont P body Q0 p)) (qont P body Q0 p)
    | some (.block id _), _ => Exit.inBlock id (qont P body Q0 p)
    | some (.loop c), _ => Exit.then (loopWp P c (qont P body Q0 p)) (qont P body Q0 p)
    | _, _ => qont P body Q0 p := rfl
theorem loopWp_of {c : Code} {Q : Exit → Act → World → Prop} (h : c.wp P (Exit.then (loopWp P c Q) Q) a w) : loopWp P c Q a w := by
  intro b k cs
  obtain ⟨e, a₁, w₁, hq, harr⟩ := h b (.inLoop c :: k) cs
  cases e with
  | normal =>
    obtain ⟨e₂, a₂, w₂, hq₂, harr₂⟩ := hq b k cs
    exact ⟨e₂, a₂, w₂, hq₂, .of_steps (Steps.trans harr (.one step_inLoop)) harr₂⟩
  | exit id => exact ⟨_, a₁, w₁, hq, .pass (x := .inLoop c) rfl (fun _ _ => .inl (by simp)) harr⟩
  | goto l => exact ⟨_, a₁, w₁, hq, .pass (x := .inLoop c) rfl (fun _ _ => .inl (by simp)) harr⟩
  | ret => exact ⟨_, a₁, w₁, hq, .pass (x := .inLoop c) rfl (fun _ _ => .inl (by simp)) harr⟩
  | panic ch => exact ⟨_, a₁, w₁, hq, .pass (x := .inLoop c) rfl (fun _ _ => .inl (by simp)) harr⟩
  | outgrown => exact ⟨_, a₁, w₁, hq, .pass (x := .inLoop c) rfl (fun _ _ => .inl (by simp)) harr⟩
theorem wp_of_loopWp {c : Code} {Q : Exit → Act → World → Prop} (h : loopWp P c Q a w) : (Code.loop c).wp P Q a w := by
  intro b k cs
  obtain ⟨e, a', w', hq, harr⟩ := h b k cs
  exact ⟨e, a', w', hq, .of_steps (.one step_loop) harr⟩
theorem wp_of_at {p : List Bool} {c : Code} (hc : sub body p = some c) (h : AtP P body Q0 p a w) : c.wp P (qont P body Q0 p) a w := by
  unfold AtP at h
  rw [hc] at h
  cases c <;> first | exact h | exact wp_of_loopWp h
/-- What a place's number stands for. -/
def HOk (P : Program) (w0 : Bs) (hs : Hds) (J : Nat → List D → Prop) (body : Code) (Q0 : Exit → Act → World → Prop) : Prop :=
  ∀ (p : List Bool) (h : Nat) (s : Shape), findH hs p = some (h, s) → PinOk w0 s ∧ ∀ xs, J h xs → ∀ κ a w, Rel P w0 κ (s.inst xs) a w → AtP P body Q0 p a w
theorem goto_sound {p : List Bool} {h : Nat} {s : Shape} {σ : St} {c : Code} (hJ : HOk P w0 hs J body Q0) (hf : findH hs p = some (h, s)) (hc : sub body p = some c) (ht : (gotoH h s σ).holds F J Q) (hr : Rel P w0 κ σ a w) : AtP P body Q0 p a w := by
  unfold gotoH at ht
  split at ht <;> try (exact ht.elim)
  rename_i xs hx
  obtain ⟨hnd, ht⟩ := Tree.holds_needs ht
  obtain ⟨κ', hr'⟩ := Shape.ex_sound (hJ p h s hf).1 hx hnd hr
  exact (hJ p h s hf).2 xs ht κ' a w hr'
/-- The continuation is right. -/
def KOk (P : Program) (w0 : Bs) (F : Tb) (J : Nat → List D → Prop) (Q : List D → Prop) (K : Kc) (Qe : Exit → Act → World → Prop) : Prop :=
  ∀ (e : Ex) (σ : St) (κ : Kr) (a : Act) (w : World), (K e σ).holds F J Q → Rel P w0 κ σ a w → Qe e.to a w
theorem KOk.then {K : Kc} {Qe : Exit → Act → World → Prop} (h : KOk P w0 F J Q K Qe) {f : St → Tree} {G : Act → World → Prop} (hf : ∀ σ κ a w, (f σ).holds F J Q → Rel P w0 κ σ a w → G a w) : KOk P w0 F J Q (thenK f K) (Exit.then G Qe) := by
  intro e σ κ a w ht hr
  cases e with
  | norm => exact hf σ κ a w ht hr
  | exit id => exact h (.exit id) σ κ a w ht hr
  | ret => exact h .ret σ κ a w ht hr
theorem KOk.block {K : Kc} {Qe : Exit → Act → World → Prop} (h : KOk P w0 F J Q K Qe) (id : Nat) : KOk P w0 F J Q (blockK id K) (Exit.inBlock id Qe) := by
  intro e σ κ a w ht hr
  cases e with
  | norm => exact h .norm σ κ a w ht hr
  | exit id' =>
    show (if id' = id then Qe .normal a w else Qe (.exit id') a w)
    have ht' : (if id' = id then K .norm σ else K (.exit id') σ).holds F J Q := ht
    split at ht' <;> rename_i hid
    · rw [if_pos hid]; exact h .norm σ κ a w ht' hr
    · rw [if_neg hid]; exact h (.exit id') σ κ a w ht' hr
  | ret => exact h .ret σ κ a w ht hr
theorem evalC_at {σ : St} (hr : Rel P w0 κ σ a w) (c : Operand) : gAV P κ (evalC σ.tmps c) (a.eval c) := by
  cases c with
  | tmp t =>
    unfold evalC
    simp only
    rw [List.getD_eq_getElem?_getD]
    cases hl : σ.tmps[t]? with
    | none => trivial
    | some x =>
      obtain ⟨v, h2, h3⟩ := hr.t.vals t _ hl
      show gAV P κ x (a.tmps.getD t undef)
      rw [Array.getD_eq_getD_getElem?, h2]
      exact h3
  | const v =>
    cases v with
    | bool x => exact rfl
    | _ => exact trivial
  | global g => exact trivial
  | func f => exact trivial
theorem evalC_lit {σ : St} (hr : Rel P w0 κ σ a w) {c : Operand} {b : Bool} (h : litB (evalC σ.tmps c) = some b) : a.eval c = .bool b := by
  have := evalC_at hr c
  rw [litB_spec h] at this
  exact glit this
theorem evalC_sound {σ : St} (hr : Rel P w0 κ σ a w) {c : Operand} {b : Bool} (h : anyB (evalC σ.tmps c) = some b) : a.eval c = .bool b ∧ Rel P w0 κ (knownC σ c b) a w := by
  refine ⟨?_, ?_⟩
  · have := evalC_at hr c
    rw [anyB_spec h] at this
    exact gbool this
  · cases c with
    | tmp t => exact hr.known h
    | _ => exact hr
theorem sx0_sound (hF : FnsOk P F) (hm : P.follows .mixedOrders = true) (hJ : HOk P w0 hs J body Q0) : ∀ (c : Code) (p : List Bool) (σ : St) (K : Kc) (κ : Kr) (a : Act) (w : World), (sx0 P F hs p c σ K).holds F J Q → Rel P w0 κ σ a w → sub body p = some c →
    KOk P w0 F J Q K (qont P body Q0 p) → c.wp P (qont P body Q0 p) a w := by
  intro c
  have viaH : ∀ (x : Code) (p : List Bool) (σ : St) (K : Kc) (κ : Kr) (a : Act) (w : World), sub body p = some x →
      (match findH hs p with | some (h, s) => gotoH h s σ | none => sx0 P F hs p x σ K).holds F J Q → Rel P w0 κ σ a w →
      ((sx0 P F hs p x σ K).holds F J Q → x.wp P (qont P body Q0 p) a w) → x.wp P (qont P body Q0 p) a w := by
    intro x p σ K κ a w hx h hr hK
    split at h
    · rename_i hh s hf
      exact wp_of_at hx (goto_sound hJ hf hx h hr)
    · exact hK h
  induction c with
  | skip => exact fun p σ K κ a w h hr hc hK => wp_skip (hK .norm σ κ a w h hr)
  | label l => exact fun p σ K κ a w h hr hc hK => wp_label (hK .norm σ κ a w h hr)
  | exit id => exact fun p σ K κ a w h hr hc hK => wp_exit (hK (.exit id) σ κ a w h hr)
  | ret => exact fun p σ K κ a w h hr hc hK => wp_ret (hK .ret σ κ a w h hr)
  | region id ops draw => exact fun p σ K κ a w h hr hc hK => region_sound hF hm h hr fun κ' σ' a' w' _ hr' h' => hK .norm σ' κ' a' w' h' hr'
  | seq x y ihx ihy =>
    intro p σ K κ a w h hr hc hK
    have hx : sub body (false :: p) = some x := by unfold sub; rw [hc]; rfl
    have hy : sub body (true :: p) = some y := by unfold sub; rw [hc]; rfl
    have qx : qont P body Q0 (false :: p) = Exit.then (y.wp P (qont P body Q0 p)) (qont P body Q0 p) := by rw [qont_cons, hc]
    have qy : qont P body Q0 (true :: p) = qont P body Q0 p := by rw [qont_cons, hc]
    apply wp_seq
    rw [← qx]
    unfold sx0 at h
    simp only at h
    refine viaH x (false :: p) σ _ κ a w hx h hr fun h => ihx (false :: p) σ _ κ a w h hr hx ?_
    rw [qx]
    refine hK.then fun σ1 κ1 a1 w1 h1 hr1 => ?_
    rw [← qy]
    refine viaH y (true :: p) σ1 K κ1 a1 w1 hy h1 hr1 fun h2 => ihy (true :: p) σ1 K κ1 a1 w1 h2 hr1 hy ?_
    rw [qy]; exact hK
  | cond c x y ihx ihy =>
    intro p σ K κ a w h hr hc hK
    have hx : sub body (false :: p) = some x := by unfold sub; rw [hc]; rfl
    have hy : sub body (true :: p) = some y := by unfold sub; rw [hc]; rfl
    have qx : qont P body Q0 (false :: p) = qont P body Q0 p := by rw [qont_cons, hc]
    have qy : qont P body Q0 (true :: p) = qont P body Q0 p := by rw [qont_cons, hc]
    unfold sx0 at h
    split at h
    · rename_i hb
      refine wp_cond (evalC_lit hr hb) ?_
      rw [if_pos rfl, ← qx]
      exact viaH x (false :: p) _ K κ a w hx h hr fun h2 => ihx (false :: p) _ K κ a w h2 hr hx (by rw [qx]; exact hK)
    · rename_i hb
      refine wp_cond (evalC_lit hr hb) ?_
      rw [if_neg (by simp), ← qy]
      exact viaH y (true :: p) _ K κ a w hy h hr fun h2 => ihy (true :: p) _ K κ a w h2 hr hy (by rw [qy]; exact hK)
    split at h <;> try (exact h.elim)
    rename_i b hb
    obtain ⟨he, hk⟩ := evalC_sound hr hb
    refine wp_cond he ?_
    cases b with
    | true =>
      have h1 := h.1 rfl
      rw [if_pos rfl, ← qx]
      exact viaH x (false :: p) _ K κ a w hx h1 hk fun h2 => ihx (false :: p) _ K κ a w h2 hk hx (by rw [qx]; exact hK)
    | false =>
      have h1 := h.2 rfl
      rw [if_neg (by simp), ← qy]
      exact viaH y (true :: p) _ K κ a w hy h1 hk fun h2 => ihy (true :: p) _ K κ a w h2 hk hy (by rw [qy]; exact hK)
  | block id x ih =>
    intro p σ K κ a w h hr hc hK
    have hx : sub body (false :: p) = some x := by unfold sub; rw [hc]; rfl
    have qx : qont P body Q0 (false :: p) = Exit.inBlock id (qont P body Q0 p) := by rw [qont_cons, hc]
    apply wp_block
    rw [← qx]
    unfold sx0 at h
    exact viaH x (false :: p) σ _ κ a w hx h hr fun h2 => ih (false :: p) σ _ κ a w h2 hr hx (by rw [qx]; exact hK.block id)
  | loop x ih => exact fun p σ K κ a w h hr hc hK => h.elim
  | rangeFunc => exact fun p σ K κ a w h hr hc hK => h.elim
  | scope => exact fun p σ K κ a w h hr hc hK => h.elim
  | goto => exact fun p σ K κ a w h hr hc hK => h.elim
  | refuse => exact fun p σ K κ a w h hr hc hK => h.elim
theorem sx_sound (hF : FnsOk P F) (hm : P.follows .mixedOrders = true) (hJ : HOk P w0 hs J body Q0) {c : Code} {p : List Bool} {σ : St} {K : Kc} (h : (sx P F hs p c σ K).holds F J Q) (hr : Rel P w0 κ σ a w) (hc : sub body p = some c)
    (hK : KOk P w0 F J Q K (qont P body Q0 p)) : c.wp P (qont P body Q0 p) a w := by
  unfold sx at h
  split at h
  · rename_i hh s hf
    exact wp_of_at hc (goto_sound hJ hf hc h hr)
  · exact sx0_sound hF hm hJ c p σ K κ a w h hr hc hK
theorem kont_sound (hF : FnsOk P F) (hm : P.follows .mixedOrders = true) (hJ : HOk P w0 hs J body Q0) {K0 : Kc} (h0 : KOk P w0 F J Q K0 Q0) : ∀ (p : List Bool), KOk P w0 F J Q (kont P F hs body K0 p) (qont P body Q0 p)
  | [] => h0
  | b :: p => by
    have ih := kont_sound hF hm hJ h0 p
    unfold kont qont
    split
    · rename_i x y hc
      have hy : sub body (true :: p) = some y := by unfold sub; rw [hc]; rfl
      have qy : qont P body Q0 (true :: p) = qont P body Q0 p := by rw [qont_cons, hc]
      refine ih.then fun σ κ a w h hr => ?_
      have := sx_sound hF hm hJ h hr hy (by rw [qy]; exact ih)
      rw [qy] at this
      exact this
    · rename_i id x hc
      exact ih.block id
    · rename_i c hc
      refine ih.then fun σ κ a w h hr => ?_
      split at h <;> try (exact h.elim)
      rename_i hh s hf
      have := goto_sound hJ hf hc h hr
      unfold AtP at this
      rw [hc] at this
      exact this
    · exact ih
theorem headT_sound (hF : FnsOk P F) (hm : P.follows .mixedOrders = true) (hJ : HOk P w0 hs J body Q0) {K0 : Kc} (h0 : KOk P w0 F J Q K0 Q0) {p : List Bool} {σ : St} (h : (headT P F hs body K0 p σ).holds F J Q) (hr : Rel P w0 κ σ a w) : AtP P body Q0 p a w := by
  unfold headT at h
  unfold AtP
  split at h <;> try (exact h.elim)
  · rename_i c hc
    have hx : sub body (false :: p) = some c := by unfold sub; rw [hc]; rfl
    have qx : qont P body Q0 (false :: p) = Exit.then (loopWp P c (qont P body Q0 p)) (qont P body Q0 p) := by rw [qont_cons, hc]
    apply loopWp_of
    rw [← qx]
    exact sx_sound hF hm hJ h hr hx (kont_sound hF hm hJ h0 (false :: p))
  · rename_i c hn hc
    have := sx0_sound hF hm hJ c p σ _ κ a w h hr hc (kont_sound hF hm hJ h0 p)
    cases c <;> first | exact this | exact (hn _ rfl).elim
end
end Go.Proofs.Ytjleempapphlhab.Mini
end
