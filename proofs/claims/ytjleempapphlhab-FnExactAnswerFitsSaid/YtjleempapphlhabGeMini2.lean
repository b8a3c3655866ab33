/- Parts of the proof: Mini2. -/
import Derived.Test.YtjleempapphlhabGeMini1
section
namespace Go.Proofs.Ytjleempapphlhab.Mini
open Go Go.RowKit
set_option linter.unusedVariables false
def all_ : List Prop → Prop
  | [] => True
  | p :: ps => p ∧ all_ ps
theorem all_append : ∀ {a b : List Prop}, all_ (a ++ b) → all_ a ∧ all_ b
  | [], _, h => ⟨trivial, h⟩
  | _ :: _, _, ⟨h1, h2⟩ => ⟨⟨h1, (all_append h2).1⟩, (all_append h2).2⟩
/-- What must hold, what is yielded, what changes of the rows. -/
abbrev R := Option (List Prop × AV × Us)
def one (a : A) : AV := .v (.one a)
def int (k : IntKind) (n : Int) : AV := one (.d (.int k n))
def bool (b : Bool) : AV := one (.d (.bool b))
def str (s : ByteArray) : AV := one (.d (.str s))
/-- An operation yields what is said, and memory is as said. -/
def Yields (P : Program) (w0 : Bs) (κ : Kr) (C : Cs) (s : Result Next) (av : AV) (us : Us) : Prop :=
  ∃ n κ' w', s = .ok n w' ∧ κ.le κ' ∧ Inv P w0 κ' (upd C us) w' ∧ (∀ k, (∀ p ∈ us, p.1 ≠ k) → κ'.at_ k = κ.at_ k) ∧ ((∃ v, n = .value v ∧ gAV P κ' av v) ∨ (n = .skip ∧ av = anyV))
section
variable {P : Program} {w0 : Bs} {κ : Kr} {C : Cs} {w : World}
theorem Yields.val (hi : Inv P w0 κ C w) {av : AV} {v : Value} (h : gAV P κ av v) : Yields P w0 κ C (.ok (.value v) w) av [] :=
  ⟨_, κ, w, rfl, Kr.le.refl κ, hi, fun _ _ => rfl, .inl ⟨v, rfl, h⟩⟩
end
/-- Numbers that a kind of numbers has. -/
def inK : IntKind → Int → Prop
  | .i64, n => -9223372036854775808 ≤ n ∧ n ≤ 9223372036854775807
  | .u8, n => 0 ≤ n ∧ n ≤ 255
  | _, _ => False
theorem wrap_in {k : IntKind} {n : Int} (h : inK k n) : k.wrap n = n := by
  cases k <;> first | exact h.elim | skip
  · exact IntWalk.i64_in _ h
  · have h1 : 0 ≤ n ∧ n ≤ 255 := h
    simp [IntKind.wrap, IntKind.bits, IntKind.signed]; omega
def isBool : TypeDesc → Bool
  | .bool => true
  | _ => false
/-- Numbers compared. -/
def ltI (n m : Int) : Bool := decide (n < m)
def leI (n m : Int) : Bool := decide (n ≤ m)
theorem ltI_t {n m : Int} : (ltI n m = true) = (n < m) := by simp [ltI]
theorem ltI_f {n m : Int} : (ltI n m = false) = ¬ (n < m) := by simp [ltI]
theorem leI_t {n m : Int} : (leI n m = true) = (n ≤ m) := by simp [leI]
theorem leI_f {n m : Int} : (leI n m = false) = ¬ (n ≤ m) := by simp [leI]
/-- Bits of numbers. -/
def bitsI (op : BinOp) (k : IntKind) (n m : Int) : Int :=
  match op with
  | .and => k.wrap (BitVec.ofInt k.bits n &&& BitVec.ofInt k.bits m).toNat
  | .or => k.wrap (BitVec.ofInt k.bits n ||| BitVec.ofInt k.bits m).toNat
  | .xor => k.wrap (BitVec.ofInt k.bits n ^^^ BitVec.ofInt k.bits m).toNat
  | _ => k.wrap (BitVec.ofInt k.bits n &&& ~~~BitVec.ofInt k.bits m).toNat
/-- Numbers shifted. -/
def shlI (n m : Int) : Int := n * 2 ^ m.toNat
def shrI (n m : Int) : Int := n.fdiv (2 ^ m.toNat)
def mBin (P : Program) (e : Operand → AV) (op : BinOp) (t : Nat) (x y : Operand) : R :=
  match e x, e y with
  | .v (.one (.d (.int k n))), .v (.one (.d (.int k' m))) =>
    if op = .shl then some ([0 ≤ m ∧ m ≤ (k.bits : Int), inK k (shlI n m)], int k (shlI n m), [])
    else if op = .shr then some ([0 ≤ m ∧ m ≤ (k.bits : Int)], int k (shrI n m), [])
    else if k = k' then
      match op with
      | .add => some ([inK k (n + m)], int k (n + m), [])
      | .sub => some ([inK k (n - m)], int k (n - m), [])
      | .mul => some ([inK k (n * m)], int k (n * m), [])
      | .quo => some ([m ≠ 0, inK k (n.tdiv m)], int k (n.tdiv m), [])
      | .rem => some ([m ≠ 0], int k (n.tmod m), [])
      | .eql => some ([], bool (n == m), [])
      | .neq => some ([], bool (n != m), [])
      | .lss => some ([], bool (ltI n m), [])
      | .leq => some ([], bool (leI n m), [])
      | .gtr => some ([], bool (ltI m n), [])
      | .geq => some ([], bool (leI m n), [])
      | .and => some ([], int k (bitsI .and k n m), [])
      | .or => some ([], int k (bitsI .or k n m), [])
      | .xor => some ([], int k (bitsI .xor k n m), [])
      | .andNot => some ([], int k (bitsI .andNot k n m), [])
      | _ => none
    else none
  | .v (.one (.d (.str s))), .v (.one (.d (.str r))) =>
    match op with
    | .add => some ([s.size + r.size ≤ 100000000], str (s ++ r), [])
    | .eql => some ([], bool (s.toList == r.toList), [])
    | .neq => some ([], bool (!(s.toList == r.toList)), [])
    | .lss => some ([], bool (Op.bytesLess s.toList r.toList), [])
    | .leq => some ([], bool (Op.bytesLess s.toList r.toList || s.toList == r.toList), [])
    | .gtr => some ([], bool (!(Op.bytesLess s.toList r.toList || s.toList == r.toList)), [])
    | .geq => some ([], bool (!(Op.bytesLess s.toList r.toList)), [])
    | _ => none
  | .v (.one (.d (.bool a))), .v (.one (.d (.bool b))) =>
    match ti P t with
    | some et => if isBool et.und = true then (match op with
      | .eql => some ([], bool (a == b), [])
      | .neq => some ([], bool (!(a == b)), [])
      | _ => none) else none
    | none => none
  | _, _ => none
def mUn (e : Operand → AV) (op : UnOp) (x : Operand) : R :=
  match op, e x with
  | .not, .v (.one (.d (.bool b))) => some ([], bool (!b), [])
  | .neg, .v (.one (.d (.int k n))) => some ([inK k (-n)], int k (-n), [])
  | _, _ => none
def isStr : TypeDesc → Bool
  | .string => true
  | _ => false
/-- The byte at a place of a text. -/
def byteI (s : ByteArray) (j : Nat) : Int := ((s.data.toList.getD j 0).toNat : Int)
def mIndex (P : Program) (e : Operand → AV) (t : Nat) (x ix : Operand) : R :=
  match ti P t, e x, e ix with
  | some et, .v (.one (.d (.str s))), .v (.one (.d (.int _ n))) => if isStr et.und = true then some ([0 ≤ n ∧ n < (s.size : Int)], int .u8 (byteI s n.toNat), []) else none
  | _, _, _ => none
def mConvI (P : Program) (e : Operand → AV) (src dst : Nat) (x : Operand) : R :=
  match ti P src, ti P dst, e x with
  | some _, some ed, .v (.one (.d (.int _ n))) =>
    match ed.und with
    | .int k => some ([inK k n], int k n, [])
    | _ => none
  | _, _, _ => none
/-- Known truths are put aside. -/
def lit (b : Bool) : AV := one (.lit b)
/-- What is picked: a constant is a known truth. -/
def pickV (x : Operand) (av : AV) : AV := match x with
  | .const _ => (match av with
    | .v (.one (.d (.bool true))) => lit true
    | .v (.one (.d (.bool false))) => lit false
    | y => y)
  | _ => av
def litB : AV → Option Bool
  | .v (.one (.lit b)) => some b
  | _ => none
def mPick (e : Operand → AV) (c a b : Operand) : R :=
  match litB (e c) with
  | some true => some ([], pickV a (e a), [])
  | some false => some ([], pickV b (e b), [])
  | none => none
def mExtract (e : Operand → AV) (x : Operand) (i : Nat) : R :=
  match e x with
  | .tup l => match l[i]? with | some y => some ([], .v y, []) | none => none
  | _ => none
section
variable {P : Program} {w0 : Bs} {κ : Kr} {C : Cs} {w : World} {ρ : Operand → Value} {e : Operand → AV} {ns : List Prop} {av : AV} {us : Us}
theorem gint {k : IntKind} {n : Int} {v : Value} (h : gAV P κ (int k n) v) : v = .int k n := by
  have h1 : gD P κ.z (.int k n) v := h
  unfold gD at h1; exact h1
theorem gint' (k : IntKind) (n : Int) : gAV P κ (int k n) (.int k n) := by show gD P κ.z (.int k n) _; unfold gD; rfl
theorem gbool {b : Bool} {v : Value} (h : gAV P κ (bool b) v) : v = .bool b := by
  have h1 : gD P κ.z (.bool b) v := h
  unfold gD at h1; exact h1
theorem gbool' (b : Bool) : gAV P κ (bool b) (.bool b) := by show gD P κ.z (.bool b) _; unfold gD; rfl
theorem gstr {s : ByteArray} {v : Value} (h : gAV P κ (str s) v) : v = .string s := by
  have h1 : gD P κ.z (.str s) v := h
  unfold gD at h1; exact h1
theorem gstr' (s : ByteArray) : gAV P κ (str s) (.string s) := by show gD P κ.z (.str s) _; unfold gD; rfl
theorem equal_bool {t : Nat} (hu : P.underlying t = some .bool) (a b : Bool) (w : World) : (Op.equal t (.bool a) (.bool b)).run P w = .ok (a == b) w := by
  show (Op.equalIn (9999 + 1) t _ _).run P w = _
  rw [Op.equalIn]
  simp [run_underlying hu]
theorem s_bin (hi : Inv P w0 κ C w) (he : ∀ x, gAV P κ (e x) (ρ x)) {op : BinOp} {t : Nat} {x y : Operand} (h : mBin P e op t x y = some (ns, av, us)) (hn : all_ ns) :
    Yields P w0 κ C ((do pure (.value (← (do eqGuard op t x y (ρ x) (ρ y); binOp op t (ρ x) (ρ y) : Sem Value))) : Sem Next).run P w) av us := by
  unfold mBin at h
  have hx := he x
  have hy := he y
  split at h <;> try (cases h; done)
  · rename_i k n k' m ex ey
    rw [ex] at hx
    rw [ey] at hy
    rw [gint hx, gint hy]
    split at h
    · rename_i ho
      subst ho
      injection h with h
      injection h with h1 h2
      injection h2 with h2 h3
      subst h1; subst h2; subst h3
      obtain ⟨⟨hm0, hm1⟩, hk, _⟩ := hn
      have hmn : min m.toNat k.bits = m.toNat := Nat.min_eq_left (by omega)
      have hr : (do pure (.value (← (do eqGuard .shl t x y (.int k n) (.int k' m); binOp .shl t (.int k n) (.int k' m) : Sem Value))) : Sem Next).run P w = .ok (.value (.int k (shlI n m))) w := by
        have hw := wrap_in hk
        unfold shlI at hw ⊢
        simp only [eqGuard, binOp, Op.shift, hmn, hw, if_neg (show ¬ m < 0 by omega)]
        rfl
      rw [hr]; exact .val hi (gint' _ _)
    split at h
    · rename_i _ ho
      subst ho
      injection h with h
      injection h with h1 h2
      injection h2 with h2 h3
      subst h1; subst h2; subst h3
      obtain ⟨⟨hm0, hm1⟩, _⟩ := hn
      have hmn : min m.toNat k.bits = m.toNat := Nat.min_eq_left (by omega)
      have hr : (do pure (.value (← (do eqGuard .shr t x y (.int k n) (.int k' m); binOp .shr t (.int k n) (.int k' m) : Sem Value))) : Sem Next).run P w = .ok (.value (.int k (shrI n m))) w := by
        simp only [eqGuard, binOp, Op.shift, hmn, if_neg (show ¬ m < 0 by omega)]
        rfl
      rw [hr]; exact .val hi (gint' _ _)
    rename_i ho1 ho2
    split at h <;> try (cases h; done)
    rename_i hk
    subst hk
    cases op <;> simp only at h <;> try (cases h; done)
    all_goals
      try (exact absurd rfl ho1)
      try (exact absurd rfl ho2)
      injection h with h
      injection h with h1 h2
      injection h2 with h2 h3
      subst h1; subst h2; subst h3
    · have hr : (do pure (.value (← (do eqGuard .add t x y (.int k n) (.int k m); binOp .add t (.int k n) (.int k m) : Sem Value))) : Sem Next).run P w = .ok (.value (.int k (n + m))) w := by
        cases k <;> first | exact hn.1.elim | simp [eqGuard, binOp, Op.intArith, wrap_in hn.1]
      rw [hr]; exact .val hi (gint' _ _)
    · have hr : (do pure (.value (← (do eqGuard .sub t x y (.int k n) (.int k m); binOp .sub t (.int k n) (.int k m) : Sem Value))) : Sem Next).run P w = .ok (.value (.int k (n - m))) w := by
        cases k <;> first | exact hn.1.elim | simp [eqGuard, binOp, Op.intArith, wrap_in hn.1]
      rw [hr]; exact .val hi (gint' _ _)
    · have hr : (do pure (.value (← (do eqGuard .mul t x y (.int k n) (.int k m); binOp .mul t (.int k n) (.int k m) : Sem Value))) : Sem Next).run P w = .ok (.value (.int k (n * m))) w := by
        cases k <;> first | exact hn.1.elim | simp [eqGuard, binOp, Op.intArith, wrap_in hn.1]
      rw [hr]; exact .val hi (gint' _ _)
    · have hm : m ≠ 0 := hn.1
      have hr : (do pure (.value (← (do eqGuard .quo t x y (.int k n) (.int k m); binOp .quo t (.int k n) (.int k m) : Sem Value))) : Sem Next).run P w = .ok (.value (.int k (n.tdiv m))) w := by
        cases k <;> first | exact hn.2.1.elim | simp [eqGuard, binOp, Op.intDiv, hm, wrap_in hn.2.1]
      rw [hr]; exact .val hi (gint' _ _)
    · have hm : m ≠ 0 := hn.1
      have hr : (do pure (.value (← (do eqGuard .rem t x y (.int k n) (.int k m); binOp .rem t (.int k n) (.int k m) : Sem Value))) : Sem Next).run P w = .ok (.value (.int k (n.tmod m))) w := by
        simp [eqGuard, binOp, Op.intDiv, hm]
      rw [hr]; exact .val hi (gint' _ _)
    · exact ⟨_, κ, w, by simp [eqGuard, binOp, Op.intBits, bitsI], Kr.le.refl κ, hi, fun _ _ => rfl, .inl ⟨_, rfl, gint' _ _⟩⟩
    · exact ⟨_, κ, w, by simp [eqGuard, binOp, Op.intBits, bitsI], Kr.le.refl κ, hi, fun _ _ => rfl, .inl ⟨_, rfl, gint' _ _⟩⟩
    · exact ⟨_, κ, w, by simp [eqGuard, binOp, Op.intBits, bitsI], Kr.le.refl κ, hi, fun _ _ => rfl, .inl ⟨_, rfl, gint' _ _⟩⟩
    · exact ⟨_, κ, w, by simp [eqGuard, binOp, Op.intBits, bitsI], Kr.le.refl κ, hi, fun _ _ => rfl, .inl ⟨_, rfl, gint' _ _⟩⟩
    all_goals
      refine ⟨_, κ, w, ?_, Kr.le.refl κ, hi, fun _ _ => rfl, .inl ⟨_, rfl, gbool' _⟩⟩
      simp [eqGuard, binOp, Op.intCmp, ltI, leI]
      try rfl
  · rename_i s r ex ey
    rw [ex] at hx
    rw [ey] at hy
    rw [gstr hx, gstr hy]
    cases op <;> simp only at h <;> try (cases h; done)
    all_goals
      injection h with h
      injection h with h1 h2
      injection h2 with h2 h3
      subst h1; subst h2; subst h3
    · have hr : (do pure (.value (← (do eqGuard .add t x y (.string s) (.string r); binOp .add t (.string s) (.string r) : Sem Value))) : Sem Next).run P w = .ok (.value (.string (s ++ r))) w := by
        have hm : s.size + r.size ≤ 100000000 := hn.1
        simp [eqGuard, binOp, Op.stringOp]
        omega
      rw [hr]; exact .val hi (gstr' _)
    all_goals
      refine ⟨_, κ, w, ?_, Kr.le.refl κ, hi, fun _ _ => rfl, .inl ⟨_, rfl, gbool' _⟩⟩
      rfl
  · rename_i a b ex ey
    rw [ex] at hx
    rw [ey] at hy
    rw [gbool hx, gbool hy]
    split at h <;> try (cases h; done)
    rename_i et ht
    split at h <;> try (cases h; done)
    rename_i hbt
    have hu := (ti_spec ht).1
    have hud : et.und = .bool := by cases hd : et.und <;> rw [hd] at hbt <;> first | rfl | cases hbt
    rw [hud] at hu
    cases op <;> simp only at h <;> try (cases h; done)
    all_goals
      injection h with h
      injection h with h1 h2
      injection h2 with h2 h3
      subst h1; subst h2; subst h3
      refine ⟨_, κ, w, ?_, Kr.le.refl κ, hi, fun _ _ => rfl, .inl ⟨_, rfl, gbool' _⟩⟩
      simp [eqGuard, binOp, equal_bool hu]
theorem s_un (hi : Inv P w0 κ C w) (he : ∀ x, gAV P κ (e x) (ρ x)) {op : UnOp} {x : Operand} (h : mUn e op x = some (ns, av, us)) (hn : all_ ns) :
    Yields P w0 κ C ((do pure (.value (← Op.unary op (ρ x))) : Sem Next).run P w) av us := by
  unfold mUn at h
  have hx := he x
  split at h <;> try (cases h; done)
  all_goals
    rename_i ex
    rw [ex] at hx
    injection h with h
    injection h with h1 h2
    injection h2 with h2 h3
    subst h1; subst h2; subst h3
  · rw [gbool hx]; exact .val hi (gbool' _)
  · rename_i k n
    rw [gint hx]
    have hr : (do pure (.value (← Op.unary .neg (.int k n))) : Sem Next).run P w = .ok (.value (.int k (-n))) w := by
      cases k <;> first | exact hn.1.elim | simp [Op.unary, Op.intArith, wrap_in hn.1]
    rw [hr]; exact .val hi (gint' _ _)
theorem s_index (hi : Inv P w0 κ C w) (he : ∀ x, gAV P κ (e x) (ρ x)) {t : Nat} {x ix : Operand} (h : mIndex P e t x ix = some (ns, av, us)) (hn : all_ ns) :
    Yields P w0 κ C ((do pure (.value (← Instr.index t (ρ x) (ρ ix))) : Sem Next).run P w) av us := by
  unfold mIndex at h
  have hx := he x
  have hy := he ix
  split at h <;> try (cases h; done)
  rename_i et s k n ht ex ey
  rw [ex] at hx
  rw [ey] at hy
  rw [gstr hx, gint hy]
  split at h <;> try (cases h; done)
  rename_i hst
  have hu := (ti_spec ht).1
  have hud : et.und = .string := by cases hd : et.und <;> rw [hd] at hst <;> first | rfl | cases hst
  rw [hud] at hu
  injection h with h
  injection h with h1 h2
  injection h2 with h2 h3
  subst h1; subst h2; subst h3
  have hb : 0 ≤ n ∧ n < (s.size : Int) := hn.1
  have hlt : n.toNat < s.size := by omega
  have hlt2 : n.toNat < s.data.toList.length := by simpa using hlt
  have hr : (do pure (.value (← Instr.index t (.string s) (.int k n))) : Sem Next).run P w = .ok (.value (.int .u8 (byteI s n.toNat))) w := by
    have e1 : s[n.toNat]? = some s[n.toNat] := by rw [getElem?_pos]
    have e2 : byteI s n.toNat = (s[n.toNat].toNat : Int) := by
      unfold byteI
      rw [List.getD_eq_getElem?_getD, List.getElem?_eq_getElem hlt2]
      rfl
    simp [Instr.index, asIntOf, run_underlying hu, hb.1, e1, e2]
  rw [hr]; exact .val hi (gint' _ _)
theorem s_convI (hi : Inv P w0 κ C w) (he : ∀ x, gAV P κ (e x) (ρ x)) {src dst : Nat} {x : Operand} (h : mConvI P e src dst x = some (ns, av, us)) (hn : all_ ns) :
    Yields P w0 κ C ((do pure (.value (← convert src dst (ρ x))) : Sem Next).run P w) av us := by
  unfold mConvI at h
  have hx := he x
  split at h <;> try (cases h; done)
  rename_i es ed k n hs hd ex
  rw [ex] at hx
  rw [gint hx]
  have hus := (ti_spec hs).1
  have hud := (ti_spec hd).1
  split at h <;> try (cases h; done)
  rename_i k' hdd
  rw [hdd] at hud
  injection h with h
  injection h with h1 h2
  injection h2 with h2 h3
  subst h1; subst h2; subst h3
  have hr : (do pure (.value (← convert src dst (.int k n))) : Sem Next).run P w = .ok (.value (.int k' n)) w := by
    cases k' <;> first | exact hn.1.elim | simp [convert, run_underlying hus, run_underlying hud, Conv.intToInt, wrap_in hn.1]
  rw [hr]; exact .val hi (gint' _ _)
theorem glit {b : Bool} {v : Value} (h : gAV P κ (lit b) v) : v = .bool b := h
theorem pickV_sound {x : Operand} {y : AV} {v : Value} (h : gAV P κ y v) : gAV P κ (pickV x y) v := by
  unfold pickV
  split
  · split
    · exact gbool h
    · exact gbool h
    · exact h
  · exact h
theorem litB_spec {av : AV} {v : Bool} (h : litB av = some v) : av = lit v := by
  unfold litB at h
  split at h <;> try (cases h; done)
  injection h with h; subst h; rfl
theorem s_pick (hi : Inv P w0 κ C w) (he : ∀ x, gAV P κ (e x) (ρ x)) {c a b : Operand} (h : mPick e c a b = some (ns, av, us)) :
    Yields P w0 κ C ((do pure (.value (if ← asBool (ρ c) then ρ a else ρ b)) : Sem Next).run P w) av us := by
  unfold mPick at h
  have hc := he c
  split at h <;> try (cases h; done)
  all_goals
    rename_i ex
    rw [litB_spec ex] at hc
    injection h with h
    injection h with h1 h2
    injection h2 with h2 h3
    subst h1; subst h2; subst h3
    rw [glit hc]
  · exact .val hi (pickV_sound (he a))
  · exact .val hi (pickV_sound (he b))
theorem s_extract (hi : Inv P w0 κ C w) (he : ∀ x, gAV P κ (e x) (ρ x)) {x : Operand} {j : Nat} (h : mExtract e x j = some (ns, av, us)) :
    Yields P w0 κ C ((do pure (.value (← Instr.extract (ρ x) j)) : Sem Next).run P w) av us := by
  unfold mExtract at h
  have hx := he x
  split at h <;> try (cases h; done)
  rename_i l ex
  rw [ex] at hx
  obtain ⟨vs, h1, h2⟩ := hx
  rw [h1]
  split at h <;> try (cases h; done)
  rename_i y hy
  injection h with h
  injection h with h3 h4
  injection h4 with h4 h5
  subst h3; subst h4; subst h5
  obtain ⟨v, h3, h4⟩ := h2.at hy
  have hr : (do pure (.value (← Instr.extract (.tuple vs) j)) : Sem Next).run P w = .ok (.value v) w := by
    have : vs[j]? = some v := by rw [← Array.getElem?_toList]; exact h3
    simp [Instr.extract, this]
  rw [hr]
  exact .val hi h4
end
end Go.Proofs.Ytjleempapphlhab.Mini
end
