/- The contracts of the functions that draw messages, by their types. -/
import Derived.Test.YtplcdadedpbkpaaTyp3
import Derived.Test.YtplcdadedpbkpaaMsgM
namespace Go.Proofs.Ytplcdadedpbkpaa
open Go.RowKit
set_option linter.unusedVariables false
set_option maxRecDepth 20000

namespace Typ
/-- Texts and numbers in rows. -/
def bd4 : Bd := ⟨-2000000000, 2000000000, 4000⟩
noncomputable def fns4 : Fns := ((((((fns0.ext (tabOf Try.prog bd4) 15 Try.f15 1 60).ext
  (tabOf Try.prog bd4) 53 Try.f53 2 60).ext
  (tabOf Try.prog bd4) 54 Try.f54 2 60).ext
  (tabOf Try.prog bd4) 36 Try.f36 4 60).ext
  (tabOf Try.prog bd4) 37 Try.f37 60 100).ext
  (tabOf Try.prog bd4) 14 Try.f14 300 100)
theorem fns4_ok (w : World) (ao : Option Addr) (len cap : Nat) (hlc : len ≤ cap) (hc : cap ≤ maxLen) (hb : Bytes w ao len w.heap.size) : FnsOk (envOf Try.prog bd4 w ao len cap) fns4 := by
  have hE := envOk Try.prog bd4 w ao len cap
  have hm : Try.prog.follows .mixedOrders = true := by kernel_rfl
  refine Fns.ext_ok hE hE.rdMono hm ?_ Try.func14 rfl rfl
  refine Fns.ext_ok hE hE.rdMono hm ?_ Try.func37 rfl rfl
  refine Fns.ext_ok hE hE.rdMono hm ?_ Try.func36 rfl rfl
  refine Fns.ext_ok hE hE.rdMono hm ?_ Try.func54 rfl rfl
  refine Fns.ext_ok hE hE.rdMono hm ?_ Try.func53 rfl rfl
  refine Fns.ext_ok hE hE.rdMono hm ?_ Try.func15 rfl rfl
  exact fns0_ok bd4 w ao len cap hlc hc hb
def msgT : List At := [.str 4000, .str 4000, .str 4000, .int .i64 (-2000000000) 2000000000, .sliceQ 68 0, .sliceQ 9 0]
/-- What a message that was drawn is. -/
def MsgIs (w w' : World) (x0 x1 x2 : ByteArray) (x3 : Int) (A4 : Option Addr) (n4 c4 : Nat) (h4 : List HeadM) (A5 : Option Addr) (n5 c5 : Nat) (b5 : List ByteArray) : Prop :=
  (x0.size ≤ 4000 ∧ x1.size ≤ 4000 ∧ x2.size ≤ 4000) ∧ (-2000000000 ≤ x3 ∧ x3 ≤ 2000000000) ∧ n4 = h4.length ∧ n4 ≤ 900000 ∧ (∀ p ∈ h4, p.x0.size ≤ 4000 ∧ p.x1.size ≤ 4000) ∧ n5 = b5.length ∧ n5 ≤ 900000 ∧ (∀ s ∈ b5, s.size ≤ 4000) ∧
  Sees w' w'.heap.size 2 A4 n4 (flat headC h4) ∧ Sees w' w'.heap.size 1 A5 n5 (flat strC b5) ∧ Below w.heap.size w w'
theorem list_head {w0 : World} {ao : Option Addr} {len cap : Nat} {κ : Kr} {q : Nat} {w : World} (hi : Inv (envOf Try.prog bd4 w0 ao len cap) κ q w) {v : Value} (h : gAt (envOf Try.prog bd4 w0 ao len cap) κ (.sliceQ 68 0) v) :
    ∃ A n c, v = .slice A n c ∧ ∃ hs : List HeadM, n = hs.length ∧ n ≤ 900000 ∧ (∀ p ∈ hs, p.x0.size ≤ 4000 ∧ p.x1.size ≤ 4000) ∧ Sees w w.heap.size 2 A n (flat headC hs) := by
  obtain ⟨A, n, c, rfl, h2, h3, h4⟩ := h
  obtain ⟨e, he, e1, e2⟩ := tab_get (T := tabOf Try.prog bd4) (t := 68) (s := 2) (l := [.str 4000, .str 4000]) (by kernel_rfl)
  obtain ⟨hs, g1, g2, g3⟩ := list_of (C := headC) (P := fun p => p.x0.size ≤ 4000 ∧ p.x1.size ≤ 4000) (envOk _ _ _ _ _ _) hi he (fun c hc => by
    rw [e2] at hc
    match c, hc with
    | [a, b], ⟨⟨s, hs1, hs2⟩, ⟨r, hr1, hr2⟩, _⟩ => exact ⟨⟨s, r⟩, by rw [hs1, hr1]; rfl, hs2, hr2⟩) h3 h4
  rw [e1] at g2
  exact ⟨A, n, c, rfl, hs, g1.symm, by have := hi.c.2; omega, g3, g2⟩
theorem list_str {w0 : World} {ao : Option Addr} {len cap : Nat} {κ : Kr} {q : Nat} {w : World} (hi : Inv (envOf Try.prog bd4 w0 ao len cap) κ q w) {v : Value} (h : gAt (envOf Try.prog bd4 w0 ao len cap) κ (.sliceQ 9 0) v) :
    ∃ A n c, v = .slice A n c ∧ ∃ hs : List ByteArray, n = hs.length ∧ n ≤ 900000 ∧ (∀ s ∈ hs, s.size ≤ 4000) ∧ Sees w w.heap.size 1 A n (flat strC hs) := by
  obtain ⟨A, n, c, rfl, h2, h3, h4⟩ := h
  obtain ⟨e, he, e1, e2⟩ := tab_get (T := tabOf Try.prog bd4) (t := 9) (s := 1) (l := [.str 4000]) (by kernel_rfl)
  obtain ⟨hs, g1, g2, g3⟩ := list_of (C := strC) (P := fun s => s.size ≤ 4000) (envOk _ _ _ _ _ _) hi he (fun c hc => by
    rw [e2] at hc
    match c, hc with
    | [a], ⟨⟨s, hs1, hs2⟩, _⟩ => exact ⟨s, by rw [hs1]; rfl, hs2⟩) h3 h4
  rw [e1] at g2
  exact ⟨A, n, c, rfl, hs, g1.symm, by have := hi.c.2; omega, g3, g2⟩
theorem msg_is {w0 : World} {ao : Option Addr} {len cap : Nat} {κ : Kr} {q : Nat} {w : World} (hi : Inv (envOf Try.prog bd4 w0 ao len cap) κ q w) (hb : Below w0.heap.size w0 w) {v : Value} (h : gV1 (envOf Try.prog bd4 w0 ao len cap) κ (.agg msgT) v) :
    ∃ x0 x1 x2 x3 A4 n4 c4 h4 A5 n5 c5 b5, v = .agg #[.string x0, .string x1, .string x2, .int .i64 x3, .slice A4 n4 c4, .slice A5 n5 c5] ∧ MsgIs w0 w x0 x1 x2 x3 A4 n4 c4 h4 A5 n5 c5 b5 := by
  obtain ⟨⟨l⟩, rfl, h⟩ := h
  obtain ⟨v0, l0, e0, ⟨x0, rfl, h0⟩, p0⟩ := h.uncons
  obtain ⟨v1, l1, rfl, ⟨x1, rfl, h1⟩, p1⟩ := p0.uncons
  obtain ⟨v2, l2, rfl, ⟨x2, rfl, h2⟩, p2⟩ := p1.uncons
  obtain ⟨v3, l3, rfl, ⟨x3, rfl, h3, h3'⟩, p3⟩ := p2.uncons
  obtain ⟨v4, l4, rfl, h4, p4⟩ := p3.uncons
  obtain ⟨v5, l5, rfl, h5, p5⟩ := p4.uncons
  obtain rfl := p5.unnil
  change l = _ at e0
  subst e0
  obtain ⟨A4, n4, c4, rfl, hs4, g1, g2, g3, g4⟩ := list_head hi h4
  obtain ⟨A5, n5, c5, rfl, hs5, k1, k2, k3, k4⟩ := list_str hi h5
  exact ⟨x0, x1, x2, x3, A4, n4, c4, hs4, A5, n5, c5, hs5, rfl, ⟨h0, h1, h2⟩, ⟨h3, h3'⟩, g1, g2, g3, k1, k2, k3, g4, k4, hb⟩
end Typ
open Typ

end Go.Proofs.Ytplcdadedpbkpaa
