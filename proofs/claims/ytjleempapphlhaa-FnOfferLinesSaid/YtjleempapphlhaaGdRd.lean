/- Parts of the proof: Rd. -/
import Derived.Test.YtjleempapphlhaaGdBase
import Derived.Test.YtjleempapphlhaaGdRead
section
namespace Go.Proofs.Ytjleempapphlhaa.Mini
open Go Go.RowKit
set_option linter.unusedVariables false
set_option linter.unusedSimpArgs false
set_option maxRecDepth 20000
def bytesOk (L : D) : Prop := ∃ n l, L = .list 5 n l ∧ n ≤ 2000 ∧ ∀ d ∈ l, ∃ z : Int, d = .int .u8 z ∧ 0 ≤ z ∧ z ≤ 255
/-- A reader: its bytes, how many numbers were drawn. -/
def rdL (L : D) (p : Int) : List D := [L, .int .i64 p]
def rdB (xs : List D) : D := (selL xs 0).headD (.bool false)
def rdN (xs : List D) : Int := selI (selL xs 0) 1
/-- There is room for so many numbers more. -/
def rdIn (xs : List D) (c : Int) : Prop := ∃ (L : D) (p : Int), selL xs 0 = rdL L p ∧ bytesOk L ∧ 0 ≤ p ∧ p + c ≤ 1000000
/-- At most so many were drawn, and the results are as said. -/
def rdOut (xs ys : List D) (c : Int) (φ : List D → Prop) : Prop := ∃ (p : Int) (rs : List D), ys = .list 0 0 (rdL (rdB xs) p) :: rs ∧ rdN xs ≤ p ∧ p ≤ rdN xs + c ∧ φ rs
noncomputable def s_dpick : Sig := sigR Try.f53 false (fun xs => rdIn xs 1 ∧ 1 ≤ selI xs 1 ∧ selI xs 1 ≤ 2147483647) (fun xs ys => rdOut xs ys 1 (fun rs => ∃ x : Int, rs = [.int .i64 x] ∧ 0 ≤ x ∧ x < selI xs 1))
noncomputable def s_dopen : Sig := sigO Try.f40 (bytesD 5) (fun xs ys => ∃ L : D, bytesOk L ∧ ys = [.list 0 0 (rdL L 0)])
noncomputable def s_dodd : Sig := sigR Try.f52 false (fun xs => rdIn xs 1 ∧ 0 ≤ selI xs 1 ∧ selI xs 1 ≤ 2147483647) (fun xs ys => rdOut xs ys 1 (fun rs => ∃ b : Bool, rs = [.bool b] ∧ (selI xs 1 = 0 → b = false)))
noncomputable def F_dodd : Tb := tab [(53, s_dpick)]
theorem F_dodd_dpick : F_dodd 53 = some s_dpick := rfl
noncomputable def hs_dodd : Hds := []
set_option maxHeartbeats 4000000 in
theorem t_dodd (r : List D) (a0 : Int) : fnTR' Try.prog F_dodd hs_dodd false Try.f52 [.list 0 0 r, .int IntKind.i64 a0] = (Tree.ite (ltI (0 : Int) a0) (Tree.call 53 [(D.list 0 (0 : Nat) r), (D.int .i64 a0)] (fun y198 => (Tree.need (all_ [(inK .i64 (a0 - (1 : Int)))]) (Tree.ret [(D.list 0 (0 : Nat) (selL y198 0)), (D.bool ((selI y198 1) == (a0 - (1 : Int))))])))) (Tree.ret [(D.list 0 (0 : Nat) r), (D.bool false)])) := by kernel_rfl
end Go.Proofs.Ytjleempapphlhaa.Mini
end
