/- The law FnExactMessageValid answers true at every argument, and leaves its arguments as they were. No condition. -/
import Derived.Test.YtfkhnfbmpjgjgaaRows
import Derived.Test.YtfkhnfbmpjgjgaaLaws4
import Derived.WalkKit
import Derived.ProofKit
import Derived.OpenShut
import Derived.ShutString
import Derived.ChangeOld
import Derived.Below
namespace Go.Proofs.Ytfkhnfbmpjgjgaa.fnExactMessageValid
open Go.ChangeShapes Go.WideShapes Go.ChangeAt Go.RowKit
open Go.ChangeMaps (open_string shut_string)
set_option linter.unusedVariables false

theorem own : ownKnob Try.prog.godebug = none := by kernel_rfl
theorem laidOut : laidOutB Try.prog = true := by kernel_rfl

/-! ### The walk -/
theorem walk (x0_0 : ByteArray) (w0_0 : x0_0.size ≤ maxLen) (x0_1 : ByteArray) (w0_1 : x0_1.size ≤ maxLen) (x0_2 : ByteArray) (w0_2 : x0_2.size ≤ maxLen) (x0_3 : Int) (w0_3 : (Lit.int .i64 x0_3).wf = true) (A0_4 : Option Addr) (n0_4 c0_4 : Nat) (h0_4 : List HeadM) (hn0_4 : n0_4 = h0_4.length) (hc0_4 : n0_4 ≤ maxLen) (hm0_4 : headMax h0_4) (A0_5 : Option Addr) (n0_5 c0_5 : Nat) (h0_5 : List ByteArray) (hn0_5 : n0_5 = h0_5.length) (hc0_5 : n0_5 ≤ maxLen) (hm0_5 : strsMax h0_5) (w : World) (hr0_4 : Sees w w.heap.size 2 A0_4 n0_4 (flat headC h0_4)) (hr0_5 : Sees w w.heap.size 1 A0_5 n0_5 (flat strC h0_5)) :
    Calls Try.prog 7 #[.agg #[.string x0_0, .string x0_1, .string x0_2, .int .i64 x0_3, .slice A0_4 n0_4 c0_4, .slice A0_5 n0_5 c0_5]] w fun e w' => e = .returned (.bool true) ∧ Below w.heap.size w w' :=
  walk_FnExactMessageValid x0_0 w0_0 x0_1 w0_1 x0_2 w0_2 x0_3 w0_3 A0_4 n0_4 c0_4 h0_4 hn0_4 hc0_4 hm0_4 A0_5 n0_5 c0_5 h0_5 hn0_5 hc0_5 hm0_5 w hr0_4 hr0_5

/-! ### The row -/
set_option maxRecDepth 100000 in
theorem lifted (os : Os) (started : os.Started) (H : Type) (enc : TypeId × Value → H) :
    ReturnsInHanded {} Try.checked os 7 .any (Rows.fnExactMessageValidSpec.pre6 enc Try.prog Try.f7 Rows.fnExactMessageValidRow.domain false) (Rows.fnExactMessageValidSpec.post enc Try.prog Try.f7 false true false false) := by
  refine returnsInHanded_of_change (C := Try.checked) own started (by kernel_rfl) Try.func7
    (ChangeSpec.witness6 (enc := enc) (C := Try.checked) false ⟨#[], #[.agg #[.string ByteArray.empty, .string ByteArray.empty, .string ByteArray.empty, .int .i64 0, .slice none 0 0, .slice none 0 0]], []⟩ 8 (by kernel_rfl) (by kernel_rfl) (by kernel_rfl) (by kernel_rfl)) ?_
  intro W base args ds gs before hval0 hW hcnd _
  have hval : ∀ (j : Nat) t v, Try.f7.params[j]? = some t → args[j]? = some v → Value.okWide Try.prog W .any base t v := hval0
  have hW' := hW
  obtain ⟨p, q, hA0, hV, rfl, hfz, hnd⟩ := hW
  have hA : DataW.TrodAll enc Try.prog W 0 (fun _ => true) true Try.f7.params.toList args.toList ds p := hA0
  rw [Try.params7] at hA hval
  obtain ⟨v0, vs0, d0, ds0, p0, q0, hargs, rfl, rfl, h0, r0⟩ := trodAll_cons hA
  obtain ⟨rfl, rfl, rfl⟩ := trodAll_nil r0
  obtain rfl : args = #[v0] := by cases args; simp_all
  obtain ⟨rfl, rfl⟩ := trodVars_none hV
  have lt0 : ∀ x ∈ p0, x.block < W.heap.size := by obtain ⟨m, hm⟩ := h0; exact DataW.trod_lt m _ _ _ hm
  have k0 := h0
  obtain ⟨x0_0, x0_1, x0_2, x0_3, A0_4, n0_4, c0_4, h0_4, A0_5, n0_5, c0_5, h0_5, rfl, w0_0, w0_1, w0_2, w0_3, hn0_4, hc0_4, hm0_4, hr0_4, hn0_5, hc0_5, hm0_5, hr0_5⟩ := message_open (hval 0 47 v0 rfl rfl) h0
  clear hA0 hval0
  refine (walk x0_0 w0_0 x0_1 w0_1 x0_2 w0_2 x0_3 w0_3 A0_4 n0_4 c0_4 h0_4 hn0_4 hc0_4 hm0_4 A0_5 n0_5 c0_5 h0_5 hn0_5 hc0_5 hm0_5 W hr0_4 hr0_5).mono fun e W' ⟨he, bel⟩ => ?_
  subst he
  exact ⟨_, rfl, _, _, _, [], _, [], hW', trodAll_mk1 (shut_bool Try.underlying4 _), (trodAll_cons_mk (Below.trod laidOut (by kernel_rfl) (of_decide_eq_true (by kernel_rfl)) k0 bel lt0) trodAll_mk0), rfl, bel.frame _, fun h => by cases h⟩

theorem over : Rows.fnExactMessageValidRow.holds Try.pinned (OpenSpec.ofChange Rows.fnExactMessageValidSpec) :=
  OpenClaim.holds_of_wide 7 Try.f7 rfl rfl rfl rfl rfl rfl rfl ⟨rfl, rfl, rfl, rfl, rfl⟩ rfl rfl rfl rfl rfl (by kernel_rfl) Try.func7 (by kernel_rfl)
    (of_decide_eq_true (by kernel_rfl)) (by unfold Func.isWrapper; first | (rw [if_pos (by decide +kernel)]; kernel_rfl) | (rw [if_neg (by decide +kernel)]; exact ⟨rfl, rfl⟩))
    (fun os started H enc _ => lifted os started H enc)

/-- The statement. -/
theorem proved : Rows.FnExactMessageValidSaid := over
#print axioms proved
end Go.Proofs.Ytfkhnfbmpjgjgaa.fnExactMessageValid
