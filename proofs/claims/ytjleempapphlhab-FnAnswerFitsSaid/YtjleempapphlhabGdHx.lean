/- Parts of the proof: Base, Hx. -/
import Derived.OwnWalk
import Derived.Lib.SlBytesConst
import Derived.Outline
import Derived.Test.YtjleempapphlhabChecked
import Derived.Deep.QuietTactic
import Derived.BigQuiet
import Derived.RegionTactic
import Derived.BigRegion
import Derived.Deep.RegionLaw
import Derived.Deep.RegionHeld3
import Derived.StillTailTactics
import Derived.WalkKit
import Derived.WalkSpells
import Derived.LoopTactic
import Derived.Lib.Hide
import Derived.Test.YtjleempapphlhabGdHelp
import Derived.Test.YtjleempapphlhabGdMini19
import Derived.Test.YtjleempapphlhabGdTexts
import Derived.Test.YtjleempapphlhabGdPlain
import Derived.Test.YtjleempapphlhabGdAlive
section
namespace Go.Proofs.Ytjleempapphlhab.Mini
open Go Go.RowKit
set_option linter.unusedVariables false
set_option linter.unusedSimpArgs false
set_option maxRecDepth 20000
noncomputable def s_iword : Sig := sig Try.f41 (fun xs => (selS xs 0).size ≤ maxLen) (fun xs ys => ys = [.bool (wordB (selS xs 0).data.toList)])
noncomputable def s_sword : Sig := sig Try.f57 (fun xs => (selS xs 0).size ≤ maxLen) (fun xs ys => ys = [.bool (wordB (selS xs 0).data.toList)])
noncomputable def s_alive : Sig := sig Try.f14 (fun xs => True) (fun xs ys => ys = [.bool true])
theorem va_iword (s0 : ByteArray) : (valsOf Try.prog Try.f41.params.toList [.str s0]).toArray = #[.string s0] := by kernel_rfl
theorem vr_iword (r : Bool) : wrapVal (valsOf Try.prog Try.f41.resultTypes.toList [.bool r]) = .bool r := by kernel_rfl
theorem ok_iword : FnOk Try.prog 41 s_iword := by
  refine ok_of_calls (fn := Try.f41) (ks := [.str]) (rk := [.bool]) rfl rfl rfl (by kernel_rfl) (by kernel_rfl) rfl rfl ?_
  intro w xs hf hp
  obtain ⟨s0, rfl⟩ := fits_s hf
  rw [va_iword]
  refine (iword_any s0 w hp).mono ?_
  rintro e w' ⟨rfl, rfl⟩
  exact ⟨[.bool (wordB s0.data.toList)], by rw [vr_iword], rfl, rfl, Below.refl _ _⟩
theorem va_sword (s0 : ByteArray) : (valsOf Try.prog Try.f57.params.toList [.str s0]).toArray = #[.string s0] := by kernel_rfl
theorem vr_sword (r : Bool) : wrapVal (valsOf Try.prog Try.f57.resultTypes.toList [.bool r]) = .bool r := by kernel_rfl
theorem ok_sword : FnOk Try.prog 57 s_sword := by
  refine ok_of_calls (fn := Try.f57) (ks := [.str]) (rk := [.bool]) rfl rfl rfl (by kernel_rfl) (by kernel_rfl) rfl rfl ?_
  intro w xs hf hp
  obtain ⟨s0, rfl⟩ := fits_s hf
  rw [va_sword]
  refine (sword_any s0 w hp).mono ?_
  rintro e w' ⟨rfl, rfl⟩
  exact ⟨[.bool (wordB s0.data.toList)], by rw [vr_sword], rfl, rfl, Below.refl _ _⟩
theorem va_alive  : (valsOf Try.prog Try.f14.params.toList []).toArray = #[] := by kernel_rfl
theorem vr_alive (r : Bool) : wrapVal (valsOf Try.prog Try.f14.resultTypes.toList [.bool r]) = .bool r := by kernel_rfl
theorem ok_alive : FnOk Try.prog 14 s_alive := by
  refine ok_of_calls (fn := Try.f14) (ks := []) (rk := [.bool]) rfl rfl rfl (by kernel_rfl) (by kernel_rfl) rfl rfl ?_
  intro w xs hf hp
  obtain rfl := fits_nil hf
  rw [va_alive]
  refine (alive_any w).mono ?_
  rintro e w' ⟨rfl, rfl⟩
  exact ⟨[.bool true], by rw [vr_alive], rfl, rfl, Below.refl _ _⟩
end Go.Proofs.Ytjleempapphlhab.Mini
end
section
namespace Go.Proofs.Ytjleempapphlhab.Mini
open Go Go.RowKit
set_option linter.unusedVariables false
set_option linter.unusedSimpArgs false
set_option maxRecDepth 20000
/-- A cell of a kind. -/
def okD : Kd → D → Prop
  | .int k, d => ∃ n : Int, d = .int k n ∧ inK k n
  | .bool, d => ∃ b, d = .bool b
  | .str, d => ∃ s : ByteArray, d = .str s ∧ s.size ≤ maxLen
  | .list _, _ => False
/-- So many elements, each with cells of these kinds. -/
def okC (ks : List Kd) (n : Nat) (cs : List D) : Prop := cs.length = n * ks.length ∧ ∀ (j : Nat) (x : D), cs[j]? = some x → ∃ k, ks[j % ks.length]? = some k ∧ okD k x
theorem okC.lt {ks : List Kd} {n : Nat} {cs : List D} {i j : Nat} (h : okC ks n cs) (hi : i < n) (hj : j < ks.length) : i * ks.length + j < cs.length := by
  have h1 : (i + 1) * ks.length ≤ n * ks.length := Nat.mul_le_mul_right _ hi
  rw [Nat.add_mul, Nat.one_mul] at h1
  have := h.1
  omega
theorem okC.get {ks : List Kd} {n : Nat} {cs : List D} {i j : Nat} {k : Kd} (h : okC ks n cs) (hi : i < n) (hk : ks[j]? = some k) : ∃ x, cs[i * ks.length + j]? = some x ∧ okD k x := by
  have hj : j < ks.length := (List.getElem?_eq_some_iff.mp hk).1
  have hb := h.lt hi hj
  obtain ⟨k', h1, h2⟩ := h.2 _ _ (List.getElem?_eq_getElem hb)
  have e : (i * ks.length + j) % ks.length = j := by rw [Nat.mul_comm, Nat.mul_add_mod, Nat.mod_eq_of_lt hj]
  rw [e, hk] at h1
  injection h1 with h1
  subst h1
  exact ⟨_, List.getElem?_eq_getElem hb, h2⟩
theorem okD_scal {k : Kd} {d : D} (h : okD k d) : d.scalar = true := by
  cases k with
  | int => obtain ⟨n, rfl, _⟩ := h; rfl
  | bool => obtain ⟨b, rfl⟩ := h; rfl
  | str => obtain ⟨s, rfl, _⟩ := h; rfl
  | list => exact h.elim
theorem okC.scal {ks : List Kd} {n : Nat} {cs : List D} (h : okC ks n cs) : scal cs := by
  intro d hd
  obtain ⟨j, hj, rfl⟩ := List.getElem_of_mem hd
  obtain ⟨k, _, h2⟩ := h.2 j cs[j] (List.getElem?_eq_getElem hj)
  exact okD_scal h2
theorem sel_kint (ds : List D) (j : Nat) (k : IntKind) : sel ds j (.int k) = .int k (selI ds j) := rfl
theorem sel_kbool (ds : List D) (j : Nat) : sel ds j .bool = .bool (selB ds j) := rfl
theorem sel_kstr (ds : List D) (j : Nat) : sel ds j .str = .str (selS ds j) := rfl
end Go.Proofs.Ytjleempapphlhab.Mini
end
