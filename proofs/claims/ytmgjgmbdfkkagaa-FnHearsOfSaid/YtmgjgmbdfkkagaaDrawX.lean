/- The contracts of the functions that draw what happens to transactions, by their types. -/
import Derived.Test.YtmgjgmbdfkkagaaTyp3
import Derived.Test.YtmgjgmbdfkkagaaTInt
namespace Go.Proofs.Ytmgjgmbdfkkagaa
open Go.RowKit
set_option linter.unusedVariables false
set_option maxRecDepth 20000

namespace Typ
def bd6 : Bd := ⟨-2000000000, 2000000000, 4000⟩
noncomputable def fns6 : Fns := fns0.ext (tabOf Try.prog bd6) 33 Try.f33 1 60
theorem fns6_ok (w : World) (ao : Option Addr) (len cap : Nat) (hlc : len ≤ cap) (hc : cap ≤ maxLen) (hb : Bytes w ao len w.heap.size) : FnsOk (envOf Try.prog bd6 w ao len cap) fns6 := by
  have hE := envOk Try.prog bd6 w ao len cap
  have hm : Try.prog.follows .mixedOrders = true := by kernel_rfl
  refine Fns.ext_ok hE hE.rdMono hm ?_ Try.func33 rfl rfl
  exact fns0_ok bd6 w ao len cap hlc hc hb
theorem abs_Xs : absFunc (tabOf Try.prog bd6) fns6 10 60 Try.f11 [.v (.one .code)] = some (.tup [.one (.int .i64 (-1) 5), .one (.int .i64 (-1) 5)]) := by kernel_rfl
theorem abs_Xh : absFunc (tabOf Try.prog bd6) fns6 10 60 Try.f18 [.v (.one .code)] = some (.v (.one (.int .i64 0 65536))) := by kernel_rfl
theorem abs_Xt : absFunc (tabOf Try.prog bd6) fns6 10 60 Try.f21 [.v (.one .code)] = some (.v (.one (.int .i64 (-1) 5))) := by kernel_rfl
theorem abs_Xr : absFunc (tabOf Try.prog bd6) fns6 60 60 Try.f15 [.v (.one .code)] = some (.v (.one (.slice 3 0 21))) := by kernel_rfl
theorem list_int {w0 : World} {ao : Option Addr} {len cap : Nat} {κ : Kr} {q : Nat} {w : World} (hi : Inv (envOf Try.prog bd6 w0 ao len cap) κ q w) {v : Value} (h : gAt (envOf Try.prog bd6 w0 ao len cap) κ (.slice 3 0 21) v) :
    ∃ A n c, v = .slice A n c ∧ n ≤ c ∧ ∃ hs : List Int, n = hs.length ∧ n ≤ 21 ∧ Sees w w.heap.size 1 A n (flat intC hs) := by
  obtain ⟨A, n, c, rfl, h1, h2, h3, h4⟩ := h
  obtain ⟨e, he, e1, e2⟩ := tab_get (T := tabOf Try.prog bd6) (t := 3) (s := 1) (l := [.int .i64 (-2000000000) 2000000000]) (by kernel_rfl)
  obtain ⟨hs, g1, g2, g3⟩ := list_of (C := intC) (P := fun _ => True) (envOk _ _ _ _ _ _) hi he (fun c hc => by
    rw [e2] at hc
    obtain ⟨u, l, rfl, ⟨s, rfl, _, _⟩, p1⟩ := gList.uncons hc
    obtain rfl := p1.unnil
    exact ⟨s, rfl, trivial⟩) h3 h4
  rw [e1] at g2
  exact ⟨A, n, c, rfl, h3, hs, g1.symm, h2, g2⟩
end Typ
open Typ

theorem drawXs_any (w : World) (ao : Option Addr) (len cap : Nat) (hlc : len ≤ cap) (hc : cap ≤ maxLen) (hb : Bytes w ao len w.heap.size) :
    Calls Try.prog 11 #[.slice ao len cap] w fun e w' => ∃ s h : Int, e = .returned (.tuple #[.int .i64 s, .int .i64 h]) ∧ Below w.heap.size w w' := by
  refine (draw_call (fns6_ok w ao len cap hlc hc hb) Try.func11 (by decide) abs_Xs).mono ?_
  rintro e w' ⟨κ, v, rfl, hi, ⟨⟨l⟩, rfl, hg⟩, hbl⟩
  obtain ⟨v0, l0, e0, ⟨s, rfl, _, _⟩, p0⟩ := hg.uncons
  obtain ⟨v1, l1, rfl, ⟨h, rfl, _, _⟩, p1⟩ := p0.uncons
  obtain rfl := p1.unnil
  change l = _ at e0
  subst e0
  exact ⟨s, h, rfl, hbl⟩
theorem drawXh_any (w : World) (ao : Option Addr) (len cap : Nat) (hlc : len ≤ cap) (hc : cap ≤ maxLen) (hb : Bytes w ao len w.heap.size) :
    Calls Try.prog 18 #[.slice ao len cap] w fun e w' => ∃ s : Int, e = .returned (.int .i64 s) ∧ Below w.heap.size w w' := by
  refine (draw_call (fns6_ok w ao len cap hlc hc hb) Try.func18 (by decide) abs_Xh).mono ?_
  rintro e w' ⟨κ, v, rfl, hi, ⟨s, rfl, _, _⟩, hbl⟩
  exact ⟨s, rfl, hbl⟩
theorem drawXt_any (w : World) (ao : Option Addr) (len cap : Nat) (hlc : len ≤ cap) (hc : cap ≤ maxLen) (hb : Bytes w ao len w.heap.size) :
    Calls Try.prog 21 #[.slice ao len cap] w fun e w' => ∃ s : Int, e = .returned (.int .i64 s) ∧ Below w.heap.size w w' := by
  refine (draw_call (fns6_ok w ao len cap hlc hc hb) Try.func21 (by decide) abs_Xt).mono ?_
  rintro e w' ⟨κ, v, rfl, hi, ⟨s, rfl, _, _⟩, hbl⟩
  exact ⟨s, rfl, hbl⟩
theorem drawXr_any (w : World) (ao : Option Addr) (len cap : Nat) (hlc : len ≤ cap) (hc : cap ≤ maxLen) (hb : Bytes w ao len w.heap.size) :
    Calls Try.prog 15 #[.slice ao len cap] w fun e w' => ∃ A n c, ∃ hs : List Int, n ≤ c ∧ n = hs.length ∧ n ≤ 21 ∧ Sees w' w'.heap.size 1 A n (flat intC hs) ∧ e = .returned (.slice A n c) ∧ Below w.heap.size w w' := by
  refine (draw_call (fns6_ok w ao len cap hlc hc hb) Try.func15 (by decide) abs_Xr).mono ?_
  rintro e w' ⟨κ, v, rfl, hi, hv, hbl⟩
  obtain ⟨A, n, c, rfl, hnc, hs, h1, h2, h3⟩ := list_int hi hv
  exact ⟨A, n, c, hs, hnc, h1, h2, h3, rfl, hbl⟩
end Go.Proofs.Ytmgjgmbdfkkagaa
