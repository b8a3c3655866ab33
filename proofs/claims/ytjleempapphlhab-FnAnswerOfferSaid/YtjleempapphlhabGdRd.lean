/- Parts of the proof: Read, Rd. -/
import Derived.Test.YtjleempapphlhabGdAlive
import Derived.Test.YtjleempapphlhabGdHelp
import Derived.Test.YtjleempapphlhabGdHx
section
namespace Go.Proofs.Ytjleempapphlhab
open Go.RowKit
set_option linter.unusedVariables false
set_option maxRecDepth 20000
set_option maxHeartbeats 1000000 in
theorem pick_ex (w : World) (g o t len cap p : Nat) (ao : Option Addr) (arr : Array Value) (n : Int) (hg : w.heap[g]? = some (.cells arr t (0, 0))) (h0 : arr[o]? = some (.slice ao len cap)) (h1 : arr[o + 1]? = some (.int .i64 (p : Int))) (hp : p ≤ 1000000) (hlen : len ≤ 2000)
    (hb : len = 0 ∨ ∃ b off, ao = some ⟨b, off, none⟩ ∧ b ≠ g ∧ ∀ i, i < len → ∃ z : Int, 0 ≤ z ∧ z ≤ 255 ∧ w.cell? ⟨b, off + i, none⟩ = some (.int .u8 z)) (hn : 1 ≤ n) (hn2 : n ≤ 2147483647) :
    Calls Try.prog 53 #[.pointer (some ⟨g, o, none⟩), .int .i64 n] w fun e w' => ∃ x : Int, 0 ≤ x ∧ x < n ∧ e = .returned (.int .i64 x) ∧ w'.heap[g]? = some (.cells (arr.setIfInBounds (o + 1) (.int .i64 ((p : Int) + 1))) t (0, 0)) ∧ w.grownBy w' (some g) := by
  have c0 : w.cell? ⟨g, o, none⟩ = some (.slice ao len cap) := by simp [World.cell?, hg, h0]
  have c1 : w.cell? ⟨g, o + 1, none⟩ = some (.int .i64 (p : Int)) := by simp [World.cell?, hg, h1]
  have f1 : w.frozen? ⟨g, o + 1, none⟩ = false := by simp [World.frozen?, hg]
  have hpb : (p : Int) ≤ 1000000 := by omega
  have hgrow : w.grownBy (w.setCell ⟨g, o + 1, none⟩ (.int .i64 ((p : Int) + 1))) (some g) :=
    ⟨rfl, rfl, rfl, by simp [World.setCell], fun k hk hne => Below.heap_setCell w _ _ k (fun e => hne (by rw [e]))⟩
  have HR : Hid ((w.setCell ⟨g, o + 1, none⟩ (.int .i64 ((p : Int) + 1))).heap[g]? = some (.cells (arr.setIfInBounds (o + 1) (.int .i64 ((p : Int) + 1))) t (0, 0))) := Lib.hid (Joins.block_setCell hg _)
  have HW := Lib.hid hgrow
  clear hgrow hg h0 h1
  by_cases h0 : len = 0
  · subst h0
    go_enter Try.func53, Try.ntmps53
    go_wp2
    go_ret
    exact ⟨0, by omega, by omega, rfl, HR.out, HW.out⟩
  · have hl0 : ((len : Int) == 0) = false := beq_eq_false_iff_ne.mpr (by omega)
    have hl1 : (0 : Int) < len := by omega
    have hlen' : (len : Int) ≤ 2000 := by omega
    obtain ⟨b, off, rfl, hbg, hcell⟩ := hb.resolve_left h0
    have HC : Hid (∀ i, i < len → ∃ z : Int, 0 ≤ z ∧ z ≤ 255 ∧ (w.setCell ⟨g, o + 1, none⟩ (.int .i64 ((p : Int) + 1))).cell? ⟨b, off + i, none⟩ = some (.int .u8 z)) := by
      intro i hi
      obtain ⟨z, z0, z1, hz⟩ := hcell i hi
      exact ⟨z, z0, z1, by rw [World.cell?_of_block (w := w) (HW.out.block b (by
        have := block_lt_of_cell hz
        exact this) (by intro e; injection e with e; exact hbg e)), hz]⟩
    clear hcell hb
    by_cases hk : p < len
    · obtain ⟨z, z0, z1, hz⟩ := HC.out p hk
      go_enter Try.func53, Try.ntmps53
      go_wp2
      go_ret
      refine ⟨_, ?_, ?_, rfl, HR.out, HW.out⟩
      · first | exact (tmod_ok z n z0 hn).1 | exact Int.emod_nonneg _ (by omega)
      · first | exact (tmod_ok z n z0 hn).2 | exact Int.emod_lt_of_pos _ (by omega)
    · obtain ⟨z, z0, z1, hz⟩ := HC.out (p % len) (Nat.mod_lt _ (by omega))
      obtain ⟨y, y0, y1, hy⟩ := HC.out ((p * 7 + 3) % len) (Nat.mod_lt _ (by omega))
      have e1 : (((p % len : Nat)) : Int) = (p : Int) % len := by simp
      have e2 : ((((p * 7 + 3) % len : Nat)) : Int) = ((p : Int) * 7 + 3) % len := by simp
      have b1 : 0 ≤ (p : Int) % len := Int.emod_nonneg _ (by omega)
      have b2 : (p : Int) % len < len := Int.emod_lt_of_pos _ hl1
      have b3 : 0 ≤ ((p : Int) * 7 + 3) % len := Int.emod_nonneg _ (by omega)
      have b4 : ((p : Int) * 7 + 3) % len < len := Int.emod_lt_of_pos _ hl1
      have d0 : 0 ≤ (p : Int) / len := Int.ediv_nonneg (by omega) (by omega)
      have d1 : (p : Int) / len ≤ 1000000 := Int.le_trans (Int.ediv_le_self _ (by omega)) hpb
      have HE1 := Lib.hid e1
      have HE2 := Lib.hid e2
      clear e1 e2
      go_enter Try.func53, Try.ntmps53
      go_wp2
      go_quiet (fail)
      go_wp2
      go_ret
      refine ⟨_, ?_, ?_, rfl, HR.out, ⟨HW.out.os, HW.out.tape, HW.out.output, HW.out.size, HW.out.block⟩⟩
      · exact (tmod_ok _ n (xor_nonneg _ _ (by omega) (by omega) (by omega) (by omega)) hn).1
      · exact (tmod_ok _ n (xor_nonneg _ _ (by omega) (by omega) (by omega) (by omega)) hn).2
set_option maxHeartbeats 1000000 in
theorem open_ex (w : World) (ao : Option Addr) (len cap : Nat) (hlc : len ≤ cap) :
    Calls Try.prog 33 #[.slice ao len cap] w fun e w' => ∃ m, m ≤ 2000 ∧ m ≤ len ∧ e = .returned (.pointer (some ⟨w.heap.size, 0, none⟩)) ∧ w' = w.alloc (.cells #[.slice ao m cap, .int .i64 0] 65) := by
  by_cases h : 2000 < len
  · go_enter Try.func33, Try.ntmps33
    go_wp2
    go_ret
    exact ⟨2000, by omega, by omega, rfl, rfl⟩
  · go_enter Try.func33, Try.ntmps33
    go_wp2
    go_ret
    exact ⟨len, by omega, by omega, rfl, rfl⟩
end Go.Proofs.Ytjleempapphlhab
end
section
namespace Go.Proofs.Ytjleempapphlhab.Mini
open Go Go.RowKit
set_option linter.unusedVariables false
set_option linter.unusedSimpArgs false
set_option maxRecDepth 20000
def bytesOk (L : D) : Prop := ∃ n l, L = .list 5 n l ∧ n ≤ 2000 ∧ ∀ d ∈ l, ∃ z : Int, d = .int .u8 z ∧ 0 ≤ z ∧ z ≤ 255
/-- A reader: its bytes, how many numbers were drawn. -/
def rdL (L : D) (p : Int) : List D := [L, .int .i64 p]
def rdB (xs : List D) : D := (selL xs 0).headD (.bool false)
def rdN (xs : List D) : Int := selI (selL xs 0) 1
/-- There is room for so many numbers more. -/
def rdIn (xs : List D) (c : Int) : Prop := ∃ (L : D) (p : Int), selL xs 0 = rdL L p ∧ bytesOk L ∧ 0 ≤ p ∧ p + c ≤ 1000000
/-- At most so many were drawn, and the results are as said. -/
def rdOut (xs ys : List D) (c : Int) (φ : List D → Prop) : Prop := ∃ (p : Int) (rs : List D), ys = .list 0 0 (rdL (rdB xs) p) :: rs ∧ rdN xs ≤ p ∧ p ≤ rdN xs + c ∧ φ rs
noncomputable def s_dpick : Sig := sigR Try.f53 false (fun xs => rdIn xs 1 ∧ 1 ≤ selI xs 1 ∧ selI xs 1 ≤ 2147483647) (fun xs ys => rdOut xs ys 1 (fun rs => ∃ x : Int, rs = [.int .i64 x] ∧ 0 ≤ x ∧ x < selI xs 1))
noncomputable def s_dopen : Sig := sigO Try.f33 (bytesD 5) (fun xs ys => ∃ L : D, bytesOk L ∧ ys = [.list 0 0 (rdL L 0)])
noncomputable def s_dodd : Sig := sigR Try.f54 false (fun xs => rdIn xs 1 ∧ 0 ≤ selI xs 1 ∧ selI xs 1 ≤ 2147483647) (fun xs ys => rdOut xs ys 1 (fun rs => ∃ b : Bool, rs = [.bool b] ∧ (selI xs 1 = 0 → b = false)))
noncomputable def F_dodd : Tb := tab [(53, s_dpick)]
theorem F_dodd_dpick : F_dodd 53 = some s_dpick := rfl
noncomputable def hs_dodd : Hds := []
set_option maxHeartbeats 4000000 in
theorem t_dodd (r : List D) (a0 : Int) : fnTR' Try.prog F_dodd hs_dodd false Try.f54 [.list 0 0 r, .int IntKind.i64 a0] = (Tree.ite (ltI (0 : Int) a0) (Tree.call 53 [(D.list 0 (0 : Nat) r), (D.int .i64 a0)] (fun y198 => (Tree.need (all_ [(inK .i64 (a0 - (1 : Int)))]) (Tree.ret [(D.list 0 (0 : Nat) (selL y198 0)), (D.bool ((selI y198 1) == (a0 - (1 : Int))))])))) (Tree.ret [(D.list 0 (0 : Nat) r), (D.bool false)])) := by kernel_rfl
end Go.Proofs.Ytjleempapphlhab.Mini
end
