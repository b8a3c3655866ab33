/- The contracts of the functions that draw sequences, by their types. -/
import Derived.Test.YtabkefacphhkmaaTyp3
import Derived.Test.YtabkefacphhkmaaSeq
namespace Go.Proofs.Ytabkefacphhkmaa
open Go.RowKit
set_option linter.unusedVariables false
set_option maxRecDepth 20000

theorem textQ_size (a : ByteArray) (n : Int) : (textQ a n).size ≤ 18 := by
  unfold textQ
  split
  · rename_i h
    have h1 := seq_size h
    have h2 := textS_size n
    unfold seqT
    rw [size_cat, size_cat]
    show _ + 1 + _ ≤ _
    omega
  · exact Nat.zero_le _
namespace Typ
def bd5 : Bd := ⟨-2000000000, 2000000000, 4000⟩
def fText5 : List AV → Option AV
  | [.v (.agg [.str m, .int .i64 _ _])] => if m ≤ 4000 then some (.v (.one (.str 18))) else none
  | _ => none
noncomputable def fns5 : Fns := ((fns0.ext (tabOf Try.prog bd5) 36 Try.f36 1 60).ext
  (tabOf Try.prog bd5) 27 Try.f27 8 60).put 17 fText5
theorem fns5_ok (w : World) (ao : Option Addr) (len cap : Nat) (hlc : len ≤ cap) (hc : cap ≤ maxLen) (hb : Bytes w ao len w.heap.size) : FnsOk (envOf Try.prog bd5 w ao len cap) fns5 := by
  have hE := envOk Try.prog bd5 w ao len cap
  have hm : Try.prog.follows .mixedOrders = true := by kernel_rfl
  refine Fns.put_ok hE ?_ ⟨_, Try.func17, rfl, rfl⟩ ?_
  · refine Fns.ext_ok hE hE.rdMono hm ?_ Try.func27 rfl rfl
    refine Fns.ext_ok hE hE.rdMono hm ?_ Try.func36 rfl rfl
    exact fns0_ok bd5 w ao len cap hlc hc hb
  · intro args av h κ w1 vs hl ha
    unfold fText5 at h
    split at h <;> try (cases h; done)
    split at h <;> try (cases h; done)
    rename_i hm4
    injection h with h
    subst h
    obtain ⟨v0, e0, ⟨l⟩, rfl, hg⟩ := ha 0 _ rfl
    obtain ⟨u0, l0, k0, ⟨a, rfl, h0⟩, p0⟩ := hg.uncons
    obtain ⟨u1, l1, rfl, ⟨n, rfl, n1, n2⟩, p1⟩ := p0.uncons
    obtain rfl := p1.unnil
    change l = _ at k0
    subst k0
    obtain rfl := args_one hl e0
    refine (stq_any a n w1 (by unfold maxLen; omega)).mono ?_
    rintro e w' ⟨rfl, hbl⟩
    exact ⟨_, rfl, ⟨_, rfl, textQ_size a n⟩, hbl⟩
def seqTy : List At := [.str 4000, .int .i64 (-2000000000) 2000000000]
theorem abs_Qv : absFunc (tabOf Try.prog bd5) fns5 10 60 Try.f11 [.v (.one .code)] = some (.v (.agg seqTy)) := by kernel_rfl
theorem abs_Qt : absFunc (tabOf Try.prog bd5) fns5 10 60 Try.f15 [.v (.one .code)] = some (.v (.agg seqTy)) := by kernel_rfl
theorem abs_Qr : absFunc (tabOf Try.prog bd5) fns5 20 60 Try.f19 [.v (.one .code)] = some (.v (.one (.str 4000))) := by kernel_rfl
theorem abs_Qf : absFunc (tabOf Try.prog bd5) fns5 20 60 Try.f21 [.v (.one .code)] = some (.tup [.agg seqTy, .agg seqTy]) := by kernel_rfl
theorem seq_is {w0 : World} {ao : Option Addr} {len cap : Nat} {κ : Kr} {v : Value} (h : gV1 (envOf Try.prog bd5 w0 ao len cap) κ (.agg seqTy) v) :
    ∃ (a : ByteArray) (n : Int), a.size ≤ 4000 ∧ -2000000000 ≤ n ∧ n ≤ 2000000000 ∧ v = .agg #[.string a, .int .i64 n] := by
  obtain ⟨⟨l⟩, rfl, hg⟩ := h
  obtain ⟨u0, l0, k0, ⟨a, rfl, h0⟩, p0⟩ := hg.uncons
  obtain ⟨u1, l1, rfl, ⟨n, rfl, n1, n2⟩, p1⟩ := p0.uncons
  obtain rfl := p1.unnil
  change l = _ at k0
  subst k0
  exact ⟨a, n, h0, n1, n2, rfl⟩
end Typ
open Typ

theorem drawQv_any (w : World) (ao : Option Addr) (len cap : Nat) (hlc : len ≤ cap) (hc : cap ≤ maxLen) (hb : Bytes w ao len w.heap.size) :
    Calls Try.prog 11 #[.slice ao len cap] w fun e w' => ∃ (a : ByteArray) (n : Int), a.size ≤ 4000 ∧ -2000000000 ≤ n ∧ n ≤ 2000000000 ∧ e = .returned (.agg #[.string a, .int .i64 n]) ∧ Below w.heap.size w w' := by
  refine (draw_call (fns5_ok w ao len cap hlc hc hb) Try.func11 (by decide) abs_Qv).mono ?_
  rintro e w' ⟨κ, v, rfl, hi, hg, hbl⟩
  obtain ⟨a, n, h0, h1, h2, rfl⟩ := seq_is hg
  exact ⟨a, n, h0, h1, h2, rfl, hbl⟩
theorem drawQt_any (w : World) (ao : Option Addr) (len cap : Nat) (hlc : len ≤ cap) (hc : cap ≤ maxLen) (hb : Bytes w ao len w.heap.size) :
    Calls Try.prog 15 #[.slice ao len cap] w fun e w' => ∃ (a : ByteArray) (n : Int), a.size ≤ 4000 ∧ -2000000000 ≤ n ∧ n ≤ 2000000000 ∧ e = .returned (.agg #[.string a, .int .i64 n]) ∧ Below w.heap.size w w' := by
  refine (draw_call (fns5_ok w ao len cap hlc hc hb) Try.func15 (by decide) abs_Qt).mono ?_
  rintro e w' ⟨κ, v, rfl, hi, hg, hbl⟩
  obtain ⟨a, n, h0, h1, h2, rfl⟩ := seq_is hg
  exact ⟨a, n, h0, h1, h2, rfl, hbl⟩
theorem drawQr_any (w : World) (ao : Option Addr) (len cap : Nat) (hlc : len ≤ cap) (hc : cap ≤ maxLen) (hb : Bytes w ao len w.heap.size) :
    Calls Try.prog 19 #[.slice ao len cap] w fun e w' => ∃ s : ByteArray, s.size ≤ 4000 ∧ e = .returned (.string s) ∧ Below w.heap.size w w' := by
  refine (draw_call (fns5_ok w ao len cap hlc hc hb) Try.func19 (by decide) abs_Qr).mono ?_
  rintro e w' ⟨κ, v, rfl, hi, ⟨s, rfl, hs⟩, hbl⟩
  exact ⟨s, hs, rfl, hbl⟩
theorem drawQf_any (w : World) (ao : Option Addr) (len cap : Nat) (hlc : len ≤ cap) (hc : cap ≤ maxLen) (hb : Bytes w ao len w.heap.size) :
    Calls Try.prog 21 #[.slice ao len cap] w fun e w' => ∃ (a : ByteArray) (n : Int) (b : ByteArray) (m : Int), a.size ≤ 4000 ∧ b.size ≤ 4000 ∧
      e = .returned (.tuple #[.agg #[.string a, .int .i64 n], .agg #[.string b, .int .i64 m]]) ∧ Below w.heap.size w w' := by
  refine (draw_call (fns5_ok w ao len cap hlc hc hb) Try.func21 (by decide) abs_Qf).mono ?_
  rintro e w' ⟨κ, v, rfl, hi, ⟨⟨l⟩, rfl, hg⟩, hbl⟩
  obtain ⟨v0, l0, e0, h1, p0⟩ := hg.uncons
  obtain ⟨v1, l1, rfl, h2, p1⟩ := p0.uncons
  obtain rfl := p1.unnil
  change l = _ at e0
  subst e0
  obtain ⟨a, n, ha, _, _, rfl⟩ := seq_is h1
  obtain ⟨b, m, hb, _, _, rfl⟩ := seq_is h2
  exact ⟨a, n, b, m, ha, hb, rfl, hbl⟩
end Go.Proofs.Ytabkefacphhkmaa
