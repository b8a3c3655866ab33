/- Parts of the proof: Mini15. -/
import Derived.Test.YtjleempapphlhabGeMini14
section
namespace Go.Proofs.Ytjleempapphlhab.Mini
open Go Go.RowKit
set_option linter.unusedVariables false
set_option maxRecDepth 20000
/-- Functions with their own types. -/
def fnT' (P : Program) (F : Tb) (hs : Hds) (md : Md) (fn : Func) (xs : List D) : Tree := fnT P F hs md fn.params.toList fn.resultTypes.toList fn (fn.body.getD .skip) xs
def plT' (P : Program) (F : Tb) (hs : Hds) (md : Md) (fn : Func) (h : Nat) (xs : List D) : Tree := plT P F hs md fn.params.toList fn.resultTypes.toList fn (fn.body.getD .skip) h xs
def sig (fn : Func) (pre : List D → Prop) (post : List D → List D → Prop) : Sig := ⟨fn.params.toList, fn.resultTypes.toList, pre, post, .own⟩
def sigF (fn : Func) (pre : List D → Prop) (post : List D → List D → Prop) : Sig := ⟨fn.params.toList, fn.resultTypes.toList, pre, post, .fz⟩
def sigW (fn : Func) (pre : List D → Prop) (post : List D → List D → Prop) : Sig := ⟨fn.params.toList, fn.resultTypes.toList, pre, post, .wr⟩
def sigD (fn : Func) (pre : List D → Prop) (post : List D → List D → Prop) : Sig := ⟨fn.params.toList, fn.resultTypes.toList, pre, post, .ownD⟩
def sigWD (fn : Func) (pre : List D → Prop) (post : List D → List D → Prop) : Sig := ⟨fn.params.toList, fn.resultTypes.toList, pre, post, .wrD⟩
def atV : List (Nat × SV) → Nat → SV
  | [], _ => .skip
  | (j, s) :: l, i => if i = j then s else atV l i
def shape (fn : Func) (l : List (Nat × SV)) (rows : List SR) : Shape := ⟨(List.range fn.ntmps).map (atV l), rows, 0⟩
def shapeW (fn : Func) (pin : Nat) (l : List (Nat × SV)) (rows : List SR) : Shape := ⟨(List.range fn.ntmps).map (atV l), rows, pin⟩
def tab : List (Nat × Sig) → Tb
  | [], _ => none
  | (j, s) :: l, i => if i = j then some s else tab l i
theorem tab_nil {P : Program} : FnsOk P (tab []) := fun f s h => by cases h
theorem tab_cons {P : Program} {f : Nat} {s : Sig} {l : List (Nat × Sig)} (h : FnOk P f s) (hl : FnsOk P (tab l)) : FnsOk P (tab ((f, s) :: l)) := fun g t ht => by
  unfold tab at ht
  split at ht
  · rename_i e; injection ht with ht; subst ht; subst e; exact h
  · exact hl g t ht
/-- Values of kinds. -/
def allK : List Kd → (List D → Prop) → Prop
  | [], φ => φ []
  | .int k :: ks, φ => ∀ n : Int, allK ks (fun xs => φ (.int k n :: xs))
  | .bool :: ks, φ => ∀ b : Bool, allK ks (fun xs => φ (.bool b :: xs))
  | .str :: ks, φ => ∀ s : ByteArray, allK ks (fun xs => φ (.str s :: xs))
  | .list t :: ks, φ => ∀ (n : Nat) (l : List D), allK ks (fun xs => φ (.list t n l :: xs))
theorem allK_spec : ∀ {ks : List Kd} {φ : List D → Prop}, allK ks φ → ∀ xs, fits xs ks = true → φ xs
  | [], φ, h, [], _ => h
  | k :: ks, φ, h, d :: xs, hf => by
    unfold fits at hf
    rw [Bool.and_eq_true] at hf
    cases k <;> cases d <;> simp [fitK] at hf <;> unfold allK at h
    · obtain ⟨rfl, hf⟩ := hf; exact allK_spec (h _) xs hf
    · exact allK_spec (h _) xs hf
    · exact allK_spec (h _) xs hf
    · obtain ⟨rfl, hf⟩ := hf; exact allK_spec (h _ _) xs hf
  | [], φ, _, _ :: _, hf => by simp [fits] at hf
  | _ :: _, φ, _, [], hf => by simp [fits] at hf
theorem chosen {P : Program} {F : Tb} {hs : Hds} {md : Md} {fn : Func} {pre : List D → Prop} {post : List D → List D → Prop} {ks : List Kd}
    (h : allK ks fun xs => pre xs → ∃ (I : Nat → List D → Prop) (μ : Nat → List D → Nat), (fnT' P F hs md fn xs).holds F I (post xs) ∧
      ∀ h ys, I h ys → (plT' P F hs md fn h ys).holds F (fun h' ys' => I h' ys' ∧ μ h' ys' < μ h ys) (post xs)) :
    ∃ Iμ : List D → (Nat → List D → Prop) × (Nat → List D → Nat), ∀ xs, fits xs ks = true → pre xs → (fnT' P F hs md fn xs).holds F (Iμ xs).1 (post xs) ∧
      ∀ h ys, (Iμ xs).1 h ys → (plT' P F hs md fn h ys).holds F (fun h' ys' => (Iμ xs).1 h' ys' ∧ (Iμ xs).2 h' ys' < (Iμ xs).2 h ys) (post xs) := by
  have hh := allK_spec h
  have key : ∀ xs, ∃ Iμ : (Nat → List D → Prop) × (Nat → List D → Nat), fits xs ks = true → pre xs → (fnT' P F hs md fn xs).holds F Iμ.1 (post xs) ∧
      ∀ h ys, Iμ.1 h ys → (plT' P F hs md fn h ys).holds F (fun h' ys' => Iμ.1 h' ys' ∧ Iμ.2 h' ys' < Iμ.2 h ys) (post xs) := fun xs => by
    by_cases hx : fits xs ks = true ∧ pre xs
    · obtain ⟨I, μ, h1, h2⟩ := hh xs hx.1 hx.2
      exact ⟨(I, μ), fun _ _ => ⟨h1, h2⟩⟩
    · exact ⟨(fun _ _ => False, fun _ _ => 0), fun h1 h2 => absurd ⟨h1, h2⟩ hx⟩
  exact ⟨fun xs => (key xs).choose, fun xs => (key xs).choose_spec⟩
/-- A function, by its trees: what holds at its loops' heads (I), what becomes less from head to head (μ). -/
theorem fnOk {P : Program} {f : Nat} {fn : Func} {F : Tb} {hs : Hds} {pre : List D → Prop} {post : List D → List D → Prop} {md : Md} (hF : FnsOk P F) (hm : P.follows .mixedOrders = true) (hf : P.funcs[f]? = some fn) (hn : (fn.name == "runtime.NumGoroutine") = false) (hb : fn.body.isNone = false)
    (ks : List Kd) (hks : ksAll P fn.params.toList = some ks) (hmd : md = .own ∨ md = .fz ∨ md = .ownD)
    (h : allK ks fun xs => pre xs → ∃ (I : Nat → List D → Prop) (μ : Nat → List D → Nat), (fnT' P F hs md fn xs).holds F I (post xs) ∧
      ∀ h ys, I h ys → (plT' P F hs md fn h ys).holds F (fun h' ys' => I h' ys' ∧ μ h' ys' < μ h ys) (post xs)) :
    FnOk P f ⟨fn.params.toList, fn.resultTypes.toList, pre, post, md⟩ := by
  obtain ⟨body, hbody⟩ : ∃ b, fn.body = some b := by
    cases h : fn.body with
    | none => rw [h] at hb; cases hb
    | some b => exact ⟨b, rfl⟩
  have hg : fn.body.getD .skip = body := by rw [hbody]; rfl
  obtain ⟨Iμ, hI⟩ := chosen h
  unfold fnT' plT' at hI
  rw [hg] at hI
  exact fn_ok (hs := hs) (body := body) hF hm hf hn hbody hmd (fun xs => (Iμ xs).1) (fun xs => (Iμ xs).2) hks (fun xs hx hp => (hI xs hx hp).1) (fun xs hx hp => (hI xs hx hp).2)
theorem allK_mono : ∀ {ks : List Kd} {φ ψ : List D → Prop}, (∀ xs, φ xs → ψ xs) → allK ks φ → allK ks ψ := by
  intro ks
  induction ks with
  | nil => exact fun h => h []
  | cons k ks ih =>
    intro φ ψ h
    cases k <;> unfold allK
    · exact fun g n => ih (fun xs => h _) (g n)
    · exact fun g n => ih (fun xs => h _) (g n)
    · exact fun g n => ih (fun xs => h _) (g n)
    · exact fun g n l => ih (fun xs => h _) (g n l)
/-- One that writes into the lists among its arguments. -/
theorem fnOkW {P : Program} {f : Nat} {fn : Func} {F : Tb} {hs : Hds} {pre : List D → Prop} {post : List D → List D → Prop} (hF : FnsOk P F) (hm : P.follows .mixedOrders = true) (hf : P.funcs[f]? = some fn) (hn : (fn.name == "runtime.NumGoroutine") = false) (hb : fn.body.isNone = false)
    (ks rk : List Kd) (hks : ksAll P fn.params.toList = some ks) (hrk : ksAll P fn.resultTypes.toList = some rk) (hpin : ∀ p ∈ hs, lists ks ≤ p.2.pin)
    (h : allK ks fun xs => pre xs → (∀ yz, post xs yz → lensOk xs (yz.drop rk.length) 0 0 ks) ∧ ∃ (I : Nat → List D → Prop) (μ : Nat → List D → Nat), (fnT' P F hs .wr fn xs).holds F I (post xs) ∧
      ∀ h ys, I h ys → (plT' P F hs .wr fn h ys).holds F (fun h' ys' => I h' ys' ∧ μ h' ys' < μ h ys) (post xs)) :
    FnOk P f ⟨fn.params.toList, fn.resultTypes.toList, pre, post, .wr⟩ := by
  obtain ⟨body, hbody⟩ : ∃ b, fn.body = some b := by
    cases h : fn.body with
    | none => rw [h] at hb; cases hb
    | some b => exact ⟨b, rfl⟩
  have hg : fn.body.getD .skip = body := by rw [hbody]; rfl
  obtain ⟨Iμ, hI⟩ := chosen (allK_mono (fun xs h9 hp => (h9 hp).2) h)
  unfold fnT' plT' at hI
  rw [hg] at hI
  refine fn_okW (hs := hs) (body := body) hF hm hf hn hbody rfl (fun xs => (Iμ xs).1) (fun xs => (Iμ xs).2) hks hrk (fun p n sh hp => ?_) (fun xs yz hx hp hy => (allK_spec h xs hx hp).1 yz hy) (fun xs hx hp => (hI xs hx hp).1) (fun xs hx hp => (hI xs hx hp).2)
  have := (findH_go hp).2
  exact hpin _ (List.mem_of_getElem? this)
/-- One that writes into a list of the call's own, and into the lists in it. -/
theorem fnOkWD {P : Program} {f : Nat} {fn : Func} {F : Tb} {hs : Hds} {pre : List D → Prop} {post : List D → List D → Prop} (hF : FnsOk P F) (hm : P.follows .mixedOrders = true) (hf : P.funcs[f]? = some fn) (hn : (fn.name == "runtime.NumGoroutine") = false) (hb : fn.body.isNone = false)
    (t : Nat) (ks rk : List Kd) (hks : ksAll P fn.params.toList = some (.list t :: ks)) (hrk : ksAll P fn.resultTypes.toList = some rk) (hpin : ∀ p ∈ hs, p.2.pin = 1 ∧ p.2.rows[0]?.map isDp = some true)
    (h : allK (.list t :: ks) fun xs => pre xs → (∀ ys n' ds', post xs (ys ++ [.list t n' ds']) → ys.length = rk.length → n' = selN xs 0 ∧ sameOwn (selL xs 0) ds') ∧ ∃ (I : Nat → List D → Prop) (μ : Nat → List D → Nat), (fnT' P F hs .wrD fn xs).holds F I (post xs) ∧
      ∀ h ys, I h ys → (plT' P F hs .wrD fn h ys).holds F (fun h' ys' => I h' ys' ∧ μ h' ys' < μ h ys) (post xs)) :
    FnOk P f ⟨fn.params.toList, fn.resultTypes.toList, pre, post, .wrD⟩ := by
  obtain ⟨body, hbody⟩ : ∃ b, fn.body = some b := by
    cases h : fn.body with
    | none => rw [h] at hb; cases hb
    | some b => exact ⟨b, rfl⟩
  have hg : fn.body.getD .skip = body := by rw [hbody]; rfl
  obtain ⟨Iμ, hI⟩ := chosen (allK_mono (fun xs h9 hp => (h9 hp).2) h)
  unfold fnT' plT' at hI
  rw [hg] at hI
  refine fn_okD (hs := hs) (body := body) hF hm hf hn hbody rfl (fun xs => (Iμ xs).1) (fun xs => (Iμ xs).2) hks hrk (fun p n sh hp => ?_) (fun xs ys n' ds' hx hp hy hl => (allK_spec h xs hx hp).1 ys n' ds' hy hl) (fun xs hx hp => (hI xs hx hp).1) (fun xs hx hp => (hI xs hx hp).2)
  have := (findH_go hp).2
  exact hpin _ (List.mem_of_getElem? this)
def sigR (fn : Func) (z : Bool) (pre : List D → Prop) (post : List D → List D → Prop) : Sig := ⟨fn.params.toList, fn.resultTypes.toList, pre, post, .rd z⟩
def sigO (fn : Func) (pre : List D → Prop) (post : List D → List D → Prop) : Sig := ⟨fn.params.toList, fn.resultTypes.toList, pre, post, .op⟩
theorem selI_z {k : IntKind} {n : Int} {l : List D} : selI (.int k n :: l) 0 = n := rfl
theorem selB_z {b : Bool} {l : List D} : selB (.bool b :: l) 0 = b := rfl
theorem selS_z {s : ByteArray} {l : List D} : selS (.str s :: l) 0 = s := rfl
theorem selN_z {t n : Nat} {c l : List D} : selN (.list t n c :: l) 0 = n := rfl
theorem selL_z {t n : Nat} {c l : List D} : selL (.list t n c :: l) 0 = c := rfl
theorem selI_s {d : D} {l : List D} {j : Nat} : selI (d :: l) (j + 1) = selI l j := rfl
theorem selB_s {d : D} {l : List D} {j : Nat} : selB (d :: l) (j + 1) = selB l j := rfl
theorem selS_s {d : D} {l : List D} {j : Nat} : selS (d :: l) (j + 1) = selS l j := rfl
theorem selN_s {d : D} {l : List D} {j : Nat} : selN (d :: l) (j + 1) = selN l j := rfl
theorem selL_s {d : D} {l : List D} {j : Nat} : selL (d :: l) (j + 1) = selL l j := rfl
theorem ret_int {k : IntKind} {a b : Int} (h : a = b) : [D.int k a] = [D.int k b] := by rw [h]
theorem ret_bool' {a b : Bool} (h : a = b) : [D.bool a] = [D.bool b] := by rw [h]
theorem ret_str {a b : ByteArray} (h : a = b) : [D.str a] = [D.str b] := by rw [h]
theorem all_nil : all_ [] = True := rfl
theorem all_cons {p : Prop} {l : List Prop} : all_ (p :: l) = (p ∧ all_ l) := rfl
end Go.Proofs.Ytjleempapphlhab.Mini
end
