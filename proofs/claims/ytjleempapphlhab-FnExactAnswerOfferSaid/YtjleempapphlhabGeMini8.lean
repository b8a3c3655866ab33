/- Parts of the proof: Mini8. -/
import Derived.Test.YtjleempapphlhabGeMini7d
section
namespace Go.Proofs.Ytjleempapphlhab.Mini
open Go Go.RowKit
set_option linter.unusedVariables false
section
variable {P : Program} {w0 : Bs} {κ : Kr} {C : Cs} {w : World} {F : Tb} {a : Act} {J : Nat → List D → Prop} {Q : List D → Prop}
theorem resA_ids (ys : List D) : ∀ (ks : List Kd) (nb j : Nat), ∀ p ∈ (resA ys nb j ks).2, nb ≤ p.1 ∧ p.1 < nb + lists ks
  | [], nb, j, p, h => by simp [resA] at h
  | .int _ :: ks, nb, j, p, h => resA_ids ys ks nb (j + 1) p h
  | .bool :: ks, nb, j, p, h => resA_ids ys ks nb (j + 1) p h
  | .str :: ks, nb, j, p, h => resA_ids ys ks nb (j + 1) p h
  | .list t :: ks, nb, j, p, h => by
    simp only [resA, List.mem_cons] at h
    rcases h with rfl | h
    · simp [lists]
    · have := resA_ids ys ks (nb + 1) (j + 1) p h
      simp [lists]; omega
theorem frz_ids {g : Cs} {a : A} {n : List Prop} {d : D} {ks : List Nat} (h : frz P g a = some (n, d, ks)) : ∀ k ∈ ks, ∃ row, g k = some row := by
  unfold frz at h
  split at h <;> try (cases h; done)
  · injection h with h; injection h with h1 h2; injection h2 with h2 h3
    subst h3; intro k hk; simp at hk
  · injection h with h; injection h with h1 h2; injection h2 with h2 h3
    subst h3; intro k hk; simp at hk
  · split at h <;> try (cases h; done)
    rename_i row hrow
    split at h <;> try (cases h; done)
    injection h with h; injection h with h1 h2; injection h2 with h2 h3
    subst h3
    intro k hk
    simp at hk
    subst hk
    exact ⟨row, hrow⟩
theorem frzL_ids {g : Cs} : ∀ {l : List A} {n : List Prop} {ds : List D} {ks : List Nat}, frzL P g l = some (n, ds, ks) → ∀ k ∈ ks, ∃ row, g k = some row
  | [], n, ds, ks, h => by
    injection h with h; injection h with h1 h2; injection h2 with h2 h3
    subst h3; intro k hk; simp at hk
  | a :: l, n, ds, ks, h => by
    unfold frzL at h
    split at h <;> try (cases h; done)
    rename_i n1 d k1 n2 ds2 k2 h1 h2
    split at h <;> try (cases h; done)
    injection h with h; injection h with e1 e2; injection e2 with e2 e3
    subst e3
    intro k hk
    rcases List.mem_append.mp hk with hk | hk
    · exact frz_ids h1 k hk
    · exact frzL_ids h2 k hk
theorem kill_mem {ks : List Nat} {p : Nat × Option Row} (h : p ∈ kill ks) : p.1 ∈ ks := by
  unfold kill at h
  obtain ⟨k, hk, rfl⟩ := List.mem_map.mp h
  exact hk
theorem srcOf_ids {g : Cs} {el : Nat} {a : A} {n : List Prop} {m : Nat} {ds : List D} {ks : List Nat} (h : srcOf P g el a = some (n, m, ds, ks)) : ∀ k ∈ ks, ∃ row, g k = some row := by
  unfold srcOf at h
  split at h <;> try (cases h; done)
  · injection h with h; injection h with e1 h; injection h with e2 h; injection h with e3 e4
    subst e4; intro k hk; simp at hk
  · split at h <;> try (cases h; done)
    injection h with h; injection h with e1 h; injection h with e2 h; injection h with e3 e4
    subst e4; intro k hk; simp at hk
  · split at h <;> try (cases h; done)
    split at h <;> try (cases h; done)
    · injection h with h; injection h with e1 h; injection h with e2 h; injection h with e3 e4
      subst e4; intro k hk; simp at hk
    · split at h <;> try (cases h; done)
      rename_i hfz
      injection h with h; injection h with e1 h; injection h with e2 h; injection h with e3 e4
      subst e4
      exact frzL_ids hfz
theorem srcA_ids {g : Cs} {el t t' : Nat} {y : A} {n : List Prop} {m : Nat} {ds : List D} {ks : List Nat} (h : srcA P g el t t' y = some (n, m, ds, ks)) : ∀ k ∈ ks, ∃ row, g k = some row := by
  unfold srcA at h
  split at h
  · split at h <;> try (cases h; done)
    injection h with h; injection h with e1 h; injection h with e2 h; injection h with e3 e4
    subst e4; intro k hk; simp at hk
  · split at h <;> try (cases h; done)
    exact srcOf_ids h
theorem noUs {ns ns' : List Prop} {av av' : AV} {us : Us} (h : (some (ns', av', []) : R) = some (ns, av, us)) : us = [] := by
  injection h with h; injection h with e1 e2; injection e2 with e2 e3
  exact e3.symm
theorem loadD_us {et : Ti} {t j : Nat} {ds : List D} {ns : List Prop} {av : AV} {us : Us} (h : loadD P et t ds j = some (ns, av, us)) : us = [] := by
  unfold loadD at h
  split at h <;> try (cases h; done)
  split at h <;> try (cases h; done)
  split at h
  · exact noUs h
  · split at h <;> try (cases h; done)
    split at h <;> try (cases h; done)
    exact noUs h
theorem mLoad_us {e : Operand → AV} {g : Cs} {t : Nat} {x : Operand} {ns : List Prop} {av : AV} {us : Us} (h : mLoad P e g t x = some (ns, av, us)) : us = [] := by
  unfold mLoad at h
  split at h <;> try (cases h; done)
  · repeat' (split at h <;> try (cases h; done))
    all_goals exact noUs h
  · repeat' (split at h <;> try (cases h; done))
    exact loadD_us h
  · exact loadD_us h
theorem mConv_us {e : Operand → AV} {g : Cs} {src dst : Nat} {x : Operand} {ns : List Prop} {av : AV} {us : Us} (h : mConv P e g src dst x = some (ns, av, us)) : us = [] := by
  unfold mConv at h
  split at h
  · rename_i r hr
    injection h with h; subst h
    unfold mConvI at hr
    repeat' (split at hr <;> try (cases hr; done))
    all_goals exact noUs hr
  · split at h
    · rename_i r hr
      injection h with h; subst h
      unfold mConvBS at hr
      repeat' (split at hr <;> try (cases hr; done))
      all_goals exact noUs hr
    · unfold mConvSB at h
      repeat' (split at h <;> try (cases h; done))
      all_goals exact noUs h
/-- It changes rows that are there. -/
def isWr : Op → Bool
  | .store _ _ _ => true
  | .load _ _ => true
  | .call ⟨.builtin .append, _, _⟩ => true
  | .call ⟨.builtin .copy, _, _⟩ => true
  | _ => false
theorem mAppend_ids {g : Cs} {ts : Array Nat} {args : List AV} {nb : Nat} {ns : List Prop} {av : AV} {us : Us} (h : mAppend P g ts args nb = some (ns, av, us)) : ∀ p ∈ us, (∃ row, g p.1 = some row) ∨ p.1 = nb := by
  unfold mAppend at h
  split at h <;> try (cases h; done)
  split at h <;> try (cases h; done)
  split at h <;> try (cases h; done)
  split at h <;> try (cases h; done)
  rename_i hsrc
  split at h <;> try (cases h; done)
  split at h <;> try (cases h; done)
  · injection h with h; injection h with e1 e2; injection e2 with e2 e3
    subst e3
    intro p hp
    rcases List.mem_append.mp hp with hp | hp
    · exact .inl (srcA_ids hsrc _ (kill_mem hp))
    · simp at hp
      exact .inr (by rw [hp])
  · split at h <;> try (cases h; done)
    rename_i hrow
    split at h <;> try (cases h; done)
    split at h <;> try (cases h; done)
    injection h with h; injection h with e1 e2; injection e2 with e2 e3
    subst e3
    intro p hp
    rcases List.mem_append.mp hp with hp | hp
    · exact .inl (srcA_ids hsrc _ (kill_mem hp))
    · simp at hp
      rcases hp with rfl | rfl
      · exact .inl ⟨_, hrow⟩
      · exact .inr rfl
/-- Which rows change. -/
theorem mOp_ids {op : Op} {e : Operand → AV} {g : Cs} {nb : Nat} {ns : List Prop} {av : AV} {us : Us} (h : mOp P op e g nb = some (ns, av, us)) : ∀ p ∈ us, (∃ row, g p.1 = some row) ∧ isWr op = true ∨ (p.1 = nb ∧ isNew op = true) := by
  have nil : us = [] → ∀ p ∈ us, (∃ row, g p.1 = some row) ∧ isWr op = true ∨ (p.1 = nb ∧ isNew op = true) := fun e p hp => by rw [e] at hp; simp at hp
  unfold mOp at h
  split at h
  all_goals try (cases h; done)
  · exact nil (noUs h)
  · exact nil (noUs h)
  · unfold mPick at h
    split at h <;> first | exact nil (noUs h) | cases h
  · unfold mAlloc at h
    split at h <;> try (cases h; done)
    injection h with h; injection h with e1 e2; injection e2 with e2 e3
    subst e3
    intro p hp
    simp at hp
    exact .inr ⟨by rw [hp], rfl⟩
  · unfold mBuild at h
    repeat' (split at h <;> try (cases h; done))
    exact nil (noUs h)
  · unfold mBuildSlice at h
    repeat' (split at h <;> try (cases h; done))
    injection h with h; injection h with e1 e2; injection e2 with e2 e3
    subst e3
    intro p hp
    simp at hp
    exact .inr ⟨by rw [hp], rfl⟩
  · split at h
    · rename_i r hr
      injection h with h; subst h
      exact nil (mLoad_us hr)
    · unfold mLoadF at h
      split at h <;> try (cases h; done)
      split at h <;> try (cases h; done)
      rename_i hrow
      split at h <;> try (cases h; done)
      rename_i hfr
      split at h <;> try (cases h; done)
      split at h <;> try (cases h; done)
      injection h with h; injection h with e1 e2; injection e2 with e2 e3
      subst e3
      intro p hp
      rcases List.mem_append.mp hp with hp | hp
      · unfold kill at hp
        obtain ⟨k, hk, rfl⟩ := List.mem_map.mp hp
        exact .inl ⟨frzL_ids hfr k hk, rfl⟩
      · simp at hp
        exact .inl ⟨⟨_, by rw [hp]; exact hrow⟩, rfl⟩
  · unfold mStore at h
    split at h <;> try (cases h; done)
    · split at h <;> try (cases h; done)
      rename_i hrow _
      split at h <;> try (cases h; done)
      injection h with h; injection h with e1 e2; injection e2 with e2 e3
      subst e3
      intro p hp
      simp at hp
      rcases hp with rfl | rfl <;> exact .inl ⟨⟨_, hrow⟩, rfl⟩
    · split at h <;> try (cases h; done)
      rename_i hrow _
      split at h <;> try (cases h; done)
      rename_i hfz
      split at h <;> try (cases h; done)
      injection h with h; injection h with e1 e2; injection e2 with e2 e3
      subst e3
      intro p hp
      rcases List.mem_append.mp hp with hp | hp
      · exact .inl ⟨frzL_ids hfz _ (kill_mem hp), rfl⟩
      · simp at hp
        rcases hp with rfl | rfl <;> exact .inl ⟨⟨_, hrow⟩, rfl⟩
  · split at h
    · rename_i r hr
      injection h with h; subst h
      unfold mEq at hr
      repeat' (split at hr <;> try (cases hr; done))
      all_goals exact nil (noUs hr)
    · unfold mBin at h
      repeat' (split at h <;> try (cases h; done))
      all_goals exact nil (noUs h)
  · unfold mUn at h
    repeat' (split at h <;> try (cases h; done))
    all_goals exact nil (noUs h)
  · exact nil (mConv_us h)
  · unfold mMake at h
    repeat' (split at h <;> try (cases h; done))
    injection h with h; injection h with e1 e2; injection e2 with e2 e3
    subst e3
    intro p hp
    simp at hp
    exact .inr ⟨by rw [hp], rfl⟩
  · unfold mSlice at h
    repeat' (split at h <;> try (cases h; done))
    all_goals exact nil (noUs h)
  · unfold mFieldAddr at h
    repeat' (split at h <;> try (cases h; done))
    all_goals exact nil (noUs h)
  · unfold mField at h
    repeat' (split at h <;> try (cases h; done))
    all_goals exact nil (noUs h)
  · unfold mIndexAddr at h
    repeat' (split at h <;> try (cases h; done))
    all_goals exact nil (noUs h)
  · unfold mIndex at h
    repeat' (split at h <;> try (cases h; done))
    all_goals exact nil (noUs h)
  · unfold mExtract at h
    repeat' (split at h <;> try (cases h; done))
    all_goals exact nil (noUs h)
  · unfold mLen at h
    repeat' (split at h <;> try (cases h; done))
    all_goals exact nil (noUs h)
  · split at h
    · rename_i r hr
      injection h with h; subst h
      intro p hp
      rcases mAppend_ids hr p hp with h | h
      · exact .inl ⟨h, rfl⟩
      · exact .inr ⟨h, rfl⟩
    · unfold mAppendF at h
      split at h <;> try (cases h; done)
      split at h <;> try (cases h; done)
      rename_i hrow
      split at h <;> try (cases h; done)
      rename_i hfr
      split at h <;> try (cases h; done)
      split at h <;> try (cases h; done)
      rename_i hap
      injection h with h; injection h with e1 e2; injection e2 with e2 e3
      subst e3
      intro p hp
      rcases List.mem_append.mp hp with hp | hp
      · exact .inl ⟨frzL_ids hfr _ (kill_mem hp), rfl⟩
      · rcases List.mem_append.mp hp with hp | hp
        · simp at hp
          exact .inl ⟨⟨_, by rw [hp]; exact hrow⟩, rfl⟩
        · rcases mAppend_ids hap p hp with ⟨row, h⟩ | h
          · split at h <;> try (cases h; done)
            rename_i ek
            exact .inl ⟨⟨_, by rw [ek]; exact hrow⟩, rfl⟩
          · exact .inr ⟨h, rfl⟩
  · unfold mCopy at h
    split at h <;> try (cases h; done)
    split at h <;> try (cases h; done)
    split at h <;> try (cases h; done)
    split at h <;> try (cases h; done)
    rename_i hsrc
    split at h <;> try (cases h; done)
    split at h <;> try (cases h; done)
    split at h <;> try (cases h; done)
    rename_i hrow
    split at h <;> try (cases h; done)
    split at h <;> try (cases h; done)
    injection h with h; injection h with e1 e2; injection e2 with e2 e3
    subst e3
    intro p hp
    rcases List.mem_append.mp hp with hp | hp
    · exact .inl ⟨srcOf_ids hsrc _ (kill_mem hp), rfl⟩
    · simp at hp
      rcases hp with rfl | rfl <;> exact .inl ⟨⟨_, hrow⟩, rfl⟩
  · unfold mMM at h
    repeat' (split at h <;> try (cases h; done))
    all_goals exact nil (noUs h)
  · unfold mMM at h
    repeat' (split at h <;> try (cases h; done))
    all_goals exact nil (noUs h)
  · unfold mBox at h
    split at h <;> try (cases h; done)
    split at h <;> try (cases h; done)
    injection h with h; injection h with e1 e2; injection e2 with e2 e3
    subst e3
    intro p hp
    simp at hp
    exact .inr ⟨by rw [hp], rfl⟩
/-- Writes: also a call whose arguments are not to be written any more, or are written. -/
def mdWr : Md → Bool
  | .own => false
  | .op => false
  | .ownD => false
  | _ => true
def isWrF (F : Tb) (o : Oper) : Bool := isWr o.op || (match isCallF o.op with | some (f, _) => (match F f with | some s => mdWr s.md | none => false) | none => false)
/-- What an append may change: what is appended to, and lists within what is appended. -/
def appW (g : Cs) : List AV → List Nat
  | [x, y] => x.ids ++ ((y.ids.flatMap fun id => match g id with | some (.fix _ l) => l.flatMap A.ids | _ => []) ++ x.ids.flatMap fun id => match g id with | some (.fix _ l) => l.flatMap A.ids | _ => [])
  | _ => []
def isApp : Op → Option (Array Operand)
  | .call ⟨.builtin .append, args, _⟩ => some args
  | _ => none
/-- What a load may change: a list of lists of the call's own, and these. -/
def ldW (P : Program) (e : Operand → AV) (g : Cs) (t : Nat) (x : Operand) : List Nat :=
  match mLoad P e g t x with
  | some _ => []
  | none => match e x with
    | .v (.one (.pe _ id _ _)) => (match g id with | some (.fix _ l) => id :: l.flatMap A.ids | _ => [])
    | _ => []
/-- The rows that an operation may change, where that is told finer. -/
def opW (P : Program) (op : Op) (e : Operand → AV) (g : Cs) : Option (List Nat) :=
  match op with
  | .load t x => some (ldW P e g t x)
  | _ => match isApp op with | some args => some (appW g (args.toList.map e)) | none => none
theorem frz_mem {g : Cs} {a : A} {n : List Prop} {d : D} {ks : List Nat} (h : frz P g a = some (n, d, ks)) : ∀ k ∈ ks, k ∈ a.ids := by
  unfold frz at h
  split at h <;> try (cases h; done)
  · injection h with h; injection h with h1 h2; injection h2 with h2 h3
    subst h3; intro k hk; simp at hk
  · injection h with h; injection h with h1 h2; injection h2 with h2 h3
    subst h3; intro k hk; simp at hk
  · split at h <;> try (cases h; done)
    split at h <;> try (cases h; done)
    injection h with h; injection h with h1 h2; injection h2 with h2 h3
    subst h3
    intro k hk
    simpa [A.ids] using hk
theorem frzL_mem {g : Cs} : ∀ {l : List A} {n : List Prop} {ds : List D} {ks : List Nat}, frzL P g l = some (n, ds, ks) → ∀ k ∈ ks, k ∈ l.flatMap A.ids
  | [], n, ds, ks, h => by
    injection h with h; injection h with h1 h2; injection h2 with h2 h3
    subst h3; intro k hk; simp at hk
  | a :: l, n, ds, ks, h => by
    unfold frzL at h
    split at h <;> try (cases h; done)
    rename_i n1 d k1 n2 ds2 k2 h1 h2
    split at h <;> try (cases h; done)
    injection h with h; injection h with e1 e2; injection e2 with e2 e3
    subst e3
    intro k hk
    rw [List.flatMap_cons]
    rcases List.mem_append.mp hk with hk | hk
    · exact List.mem_append_left _ (frz_mem h1 k hk)
    · exact List.mem_append_right _ (frzL_mem h2 k hk)
theorem srcOf_mem {g : Cs} {el : Nat} {y : A} {n : List Prop} {m : Nat} {ds : List D} {ks : List Nat} (h : srcOf P g el y = some (n, m, ds, ks)) : ∀ k ∈ ks, k ∈ y.ids.flatMap fun id => match g id with | some (.fix _ l) => l.flatMap A.ids | _ => [] := by
  unfold srcOf at h
  split at h
  · injection h with h; injection h with e1 h; injection h with e2 h; injection h with e3 e4
    subst e4; intro k hk; simp at hk
  · split at h <;> try (cases h; done)
    injection h with h; injection h with e1 h; injection h with e2 h; injection h with e3 e4
    subst e4; intro k hk; simp at hk
  · split at h <;> try (cases h; done)
    split at h <;> try (cases h; done)
    · injection h with h; injection h with e1 h; injection h with e2 h; injection h with e3 e4
      subst e4; intro k hk; simp at hk
    · rename_i id _ _ _ _ _ cs hg
      split at h <;> try (cases h; done)
      rename_i hfz
      injection h with h; injection h with e1 h; injection h with e2 h; injection h with e3 e4
      subst e4
      intro k hk
      have h1 := frzL_mem hfz k hk
      obtain ⟨a, ha, hka⟩ := List.mem_flatMap.mp h1
      simp only [A.ids, List.flatMap_cons, List.flatMap_nil, List.append_nil]
      rw [hg]
      exact List.mem_flatMap.mpr ⟨a, List.mem_of_mem_drop (List.mem_of_mem_take ha), hka⟩
  · cases h
theorem srcA_mem {g : Cs} {el t t' : Nat} {y : A} {n : List Prop} {m : Nat} {ds : List D} {ks : List Nat} (h : srcA P g el t t' y = some (n, m, ds, ks)) : ∀ k ∈ ks, k ∈ y.ids.flatMap fun id => match g id with | some (.fix _ l) => l.flatMap A.ids | _ => [] := by
  unfold srcA at h
  split at h
  · split at h <;> try (cases h; done)
    injection h with h; injection h with e1 h; injection h with e2 h; injection h with e3 e4
    subst e4; intro k hk; simp at hk
  · split at h <;> try (cases h; done)
    exact srcOf_mem h
theorem mOp_app {op : Op} {args : Array Operand} {e : Operand → AV} {g : Cs} {nb : Nat} {ns : List Prop} {av : AV} {us : Us} (ha : isApp op = some args) (h : mOp P op e g nb = some (ns, av, us)) : ∀ p ∈ us, p.1 ∈ appW g (args.toList.map e) ∨ p.1 = nb := by
  unfold isApp at ha
  split at ha <;> try (cases ha; done)
  injection ha with ha
  subst ha
  have app : ∀ {g : Cs} {ts : Array Nat} {l : List AV} {ns : List Prop} {av : AV} {us : Us}, mAppend P g ts l nb = some (ns, av, us) → ∀ p ∈ us, p.1 ∈ appW g l ∨ p.1 = nb := by
    intro g ts l ns av us h'
    unfold mAppend at h'
    split at h' <;> try (cases h'; done)
    split at h' <;> try (cases h'; done)
    split at h' <;> try (cases h'; done)
    split at h' <;> try (cases h'; done)
    rename_i hsrc
    split at h' <;> try (cases h'; done)
    have hk := srcA_mem hsrc
    split at h' <;> try (cases h'; done)
    · injection h' with h; injection h with e1 e2; injection e2 with e2 e3
      subst e3
      intro p hp
      rcases List.mem_append.mp hp with hp | hp
      · unfold kill at hp
        obtain ⟨k, hk1, rfl⟩ := List.mem_map.mp hp
        exact .inl (List.mem_append_right _ (List.mem_append_left _ (hk k hk1)))
      · simp at hp
        exact .inr (by rw [hp])
    · split at h' <;> try (cases h'; done)
      split at h' <;> try (cases h'; done)
      split at h' <;> try (cases h'; done)
      injection h' with h; injection h with e1 e2; injection e2 with e2 e3
      subst e3
      intro p hp
      rcases List.mem_append.mp hp with hp | hp
      · unfold kill at hp
        obtain ⟨k, hk1, rfl⟩ := List.mem_map.mp hp
        exact .inl (List.mem_append_right _ (List.mem_append_left _ (hk k hk1)))
      · simp at hp
        rcases hp with rfl | rfl
        · exact .inl (List.mem_append_left _ (by simp [AV.ids, A.ids]))
        · exact .inr rfl
  rename_i _ args2 ts2
  have h' : (match mAppend P g ts2 (List.map e args2.toList) nb with | some r => some r | none => mAppendF P g ts2 (List.map e args2.toList) nb) = some (ns, av, us) := h
  clear h
  generalize (List.map e _) = l at h' ⊢
  split at h'
  · rename_i r hr
    injection h' with h'; subst h'
    exact app hr
  · unfold mAppendF at h'
    split at h' <;> try (cases h'; done)
    split at h' <;> try (cases h'; done)
    rename_i hrow
    split at h' <;> try (cases h'; done)
    rename_i hfr
    split at h' <;> try (cases h'; done)
    split at h' <;> try (cases h'; done)
    rename_i hap
    injection h' with h; injection h with e1 e2; injection e2 with e2 e3
    subst e3
    intro p hp
    rcases List.mem_append.mp hp with hp | hp
    · unfold kill at hp
      obtain ⟨k, hk1, rfl⟩ := List.mem_map.mp hp
      refine .inl (List.mem_append_right _ (List.mem_append_right _ ?_))
      simp only [AV.ids, A.ids, List.flatMap_cons, List.flatMap_nil, List.append_nil, hrow]
      exact frzL_mem hfr k hk1
    · rcases List.mem_append.mp hp with hp | hp
      · simp at hp
        exact .inl (List.mem_append_left _ (by simp [AV.ids, A.ids, hp]))
      · rcases mAppend_ids hap p hp with ⟨row, h⟩ | h
        · split at h <;> try (cases h; done)
          rename_i ek
          exact .inl (List.mem_append_left _ (by simp [AV.ids, A.ids, ek]))
        · exact .inr h
theorem mOp_opW {op : Op} {l : List Nat} {e : Operand → AV} {g : Cs} {nb : Nat} {ns : List Prop} {av : AV} {us : Us} (ha : opW P op e g = some l) (h : mOp P op e g nb = some (ns, av, us)) : ∀ p ∈ us, p.1 ∈ l ∨ (p.1 = nb ∧ isNew op = true) := by
  unfold opW at ha
  split at ha
  · rename_i t x
    injection ha with ha
    subst ha
    have h' : (match mLoad P e g t x with | some r => some r | none => mLoadF P e g t x) = some (ns, av, us) := h
    clear h
    unfold ldW
    split at h'
    · rename_i r hr
      injection h' with h'; subst h'
      rw [mLoad_us hr]
      intro p hp; cases hp
    · unfold mLoadF at h'
      split at h' <;> try (cases h'; done)
      rename_i ex
      split at h' <;> try (cases h'; done)
      rename_i hrow
      split at h' <;> try (cases h'; done)
      rename_i hfr
      split at h' <;> try (cases h'; done)
      split at h' <;> try (cases h'; done)
      injection h' with h; injection h with e1 e2; injection e2 with e2 e3
      subst e3
      intro p hp
      simp only [ex, hrow]
      rcases List.mem_append.mp hp with hp | hp
      · unfold kill at hp
        obtain ⟨k, hk, rfl⟩ := List.mem_map.mp hp
        exact .inl (List.mem_cons_of_mem _ (frzL_mem hfr k hk))
      · simp at hp
        exact .inl (by rw [hp]; simp)
  · split at ha <;> try (cases ha; done)
    rename_i args hap
    injection ha with ha
    subst ha
    intro p hp
    rcases mOp_app hap h p hp with h1 | h1
    · exact .inl h1
    · refine .inr ⟨h1, ?_⟩
      unfold isApp at hap
      split at hap
      · rfl
      · cases hap
theorem wrA_ids {g : Cs} : ∀ {ks : List Kd} {as : List A} {ns : List Prop} {ds : List D} {ids : List Nat}, wrA P g ks as = some (ns, ds, ids) → (∀ k ∈ ids, ∃ row, g k = some row) ∧ ids.Nodup ∧ ∀ (yz : List D) (i : Nat), (wrU yz i ks ids).map (·.1) = ids
  | [], [], ns, ds, ids, h => by
    unfold wrA at h
    injection h with h; injection h with e1 e2; injection e2 with e2 e3
    subst e3
    exact ⟨fun k hk => by simp at hk, List.nodup_nil, fun _ _ => rfl⟩
  | .list t :: ks, .sl u id off len :: as, ns, ds, ids, h => by
    unfold wrA at h
    split at h <;> try (cases h; done)
    rename_i row ns' ds' ids' hrow hrec
    split at h <;> try (cases h; done)
    split at h <;> try (cases h; done)
    rename_i hc
    injection h with h; injection h with e1 e2; injection e2 with e2 e3
    subst e3
    obtain ⟨h1, h2, h3⟩ := wrA_ids hrec
    have hn : id ∉ ids' := by have := hc.2.2; simpa using this
    exact ⟨fun k hk => by
      rcases List.mem_cons.mp hk with rfl | hk
      · exact ⟨_, hrow⟩
      · exact h1 k hk, List.nodup_cons.mpr ⟨hn, h2⟩, fun yz i => by show id :: (wrU yz (i + 1) ks ids').map (·.1) = _; rw [h3]⟩
  | .list t :: ks, .d d :: as, ns, ds, ids, h => by
    unfold wrA at h
    split at h <;> try (cases h; done)
    split at h <;> try (cases h; done)
    rename_i hfit
    cases d <;> simp [fitK, D.scalar] at hfit
  | .int k :: ks, .d d :: as, ns, ds, ids, h => by
    unfold wrA at h
    split at h <;> try (cases h; done)
    rename_i ns' ds' ids' hrec
    split at h <;> try (cases h; done)
    injection h with h; injection h with e1 e2; injection e2 with e2 e3
    subst e3
    obtain ⟨h1, h2, h3⟩ := wrA_ids hrec
    exact ⟨h1, h2, fun yz i => h3 yz i⟩
  | .bool :: ks, .d d :: as, ns, ds, ids, h => by
    unfold wrA at h
    split at h <;> try (cases h; done)
    rename_i ns' ds' ids' hrec
    split at h <;> try (cases h; done)
    injection h with h; injection h with e1 e2; injection e2 with e2 e3
    subst e3
    obtain ⟨h1, h2, h3⟩ := wrA_ids hrec
    exact ⟨h1, h2, fun yz i => h3 yz i⟩
  | .str :: ks, .d d :: as, ns, ds, ids, h => by
    unfold wrA at h
    split at h <;> try (cases h; done)
    rename_i ns' ds' ids' hrec
    split at h <;> try (cases h; done)
    injection h with h; injection h with e1 e2; injection e2 with e2 e3
    subst e3
    obtain ⟨h1, h2, h3⟩ := wrA_ids hrec
    exact ⟨h1, h2, fun yz i => h3 yz i⟩
theorem resU_ids {s : Sig} {g : Cs} {pk : List Kd} {as : List A} {ns : List Prop} {ds : List D} {kl : List Nat} (h : callV P s g pk as = some (ns, ds, kl)) (ys : List D) (nb : Nat) (rk : List Kd) : ∀ p ∈ (resU s ys nb kl pk rk).2, ((∃ row, g p.1 = some row) ∧ mdWr s.md = true) ∨ (nb ≤ p.1 ∧ p.1 < nb + nRes s rk) := by
  intro p hp
  unfold resU at hp
  unfold callV at h
  cases hf : s.md with
  | fz =>
    rw [hf] at hp h
    exact .inl ⟨frzX_ids h _ (kill_mem hp), rfl⟩
  | own =>
    rw [hf] at hp
    refine .inr ?_
    unfold nRes
    rw [hf]
    exact resA_ids _ _ _ _ p hp
  | wr =>
    rw [hf] at hp h
    obtain ⟨h1, _, h3⟩ := wrA_ids h
    refine .inl ⟨?_, rfl⟩
    obtain ⟨row, h9⟩ := h1 p.1 (by rw [← h3 ys rk.length]; exact List.mem_map_of_mem hp)
    exact ⟨row, (nd_some h9).1⟩
  | rd z => rw [hf] at h; cases h
  | op => rw [hf] at h; cases h
  | ownD => rw [hf] at h; cases h
  | wrD => rw [hf] at h; cases h
theorem dOp_ids {op : Op} {e : Operand → AV} {g : Cs} {ns : List Prop} {av : AV} {us : Us} (h : dOp P op e g = some (ns, av, us)) : ∀ p ∈ us, (∃ row, g p.1 = some row) ∧ isWr op = true := by
  unfold dOp at h
  split at h <;> try (cases h; done)
  · have : us = [] := by
      unfold dLoad at h
      repeat' (split at h <;> try (cases h; done))
      all_goals exact noUs h
    intro p hp
    rw [this] at hp; simp at hp
  · unfold dStore at h
    split at h <;> try (cases h; done)
    split at h <;> try (cases h; done)
    rename_i hrow _
    split at h <;> try (cases h; done)
    rename_i habs
    split at h <;> try (cases h; done)
    injection h with h; injection h with e1 e2; injection e2 with e2 e3
    subst e3
    intro p hp
    rcases List.mem_append.mp hp with hp | hp
    · obtain ⟨row, h1⟩ := (absL_cells habs).2.1 _ (kill_mem hp)
      exact ⟨⟨row, (nd_some h1).1⟩, rfl⟩
    · simp at hp
      exact ⟨⟨_, by rw [hp]; exact hrow⟩, rfl⟩
theorem mOpX_ids {op : Op} {e : Operand → AV} {g : Cs} {nb : Nat} {ns : List Prop} {av : AV} {us : Us} (h : mOpX P op e g nb = some (ns, av, us)) : ∀ p ∈ us, (∃ row, g p.1 = some row) ∧ isWr op = true ∨ (p.1 = nb ∧ isNew op = true) := by
  unfold mOpX at h
  split at h
  · exact fun p hp => .inl (dOp_ids h p hp)
  · intro p hp
    rcases mOp_ids h p hp with ⟨⟨row, h1⟩, h2⟩ | h1
    · exact .inl ⟨⟨row, (nd_some h1).1⟩, h2⟩
    · exact .inr h1
/-- Which rows change, told finer. -/
theorem mOpX_opW {op : Op} {l : List Nat} {e : Operand → AV} {g : Cs} {nb : Nat} {ns : List Prop} {av : AV} {us : Us} (ha : opW P op e (nd g) = some l) (h : mOpX P op e g nb = some (ns, av, us)) : ∀ p ∈ us, p.1 ∈ l ∨ (p.1 = nb ∧ isNew op = true) := by
  unfold mOpX at h
  split at h
  · unfold dOp at h
    split at h <;> try (cases h; done)
    · have : us = [] := by
        unfold dLoad at h
        repeat' (split at h <;> try (cases h; done))
        all_goals exact noUs h
      intro p hp
      rw [this] at hp; simp at hp
    · cases ha
  · exact mOp_opW ha h
def ltypes : List Kd → List Nat
  | [] => []
  | .list t :: ks => t :: ltypes ks
  | _ :: ks => ltypes ks
/-- What arguments are that may be written. -/
theorem wrA_sound {g : Cs} (hi : Inv P w0 κ C w) (hg : ∀ id row, g id = some row → C id = some row) : ∀ {ks : List Kd} {as : List A} {ns : List Prop} {ds : List D} {ids : List Nat} {vs : List Value} (pre : List D), wrA P g ks as = some (ns, ds, ids) → all_ ns → gL P κ as vs →
    ∃ bs, resL P 0 w (pre ++ ds) pre.length ks vs bs ∧ (∀ b ∈ blocks bs, ∃ id ∈ ids, ∃ row o N, C id = some row ∧ κ.at_ id = some (b, o, N)) ∧ (blocks bs).Nodup ∧ bs.length = ids.length ∧
      ∀ (i id : Nat), ids[i]? = some id → (bs[i]? = some none ∧ ∃ row, C id = some row ∧ row.as = [] ∧ (ltypes ks)[i]? = some row.t) ∨ ∃ x, bs[i]? = some (some x) ∧ κ.at_ id = some x
  | [], [], ns, ds, ids, vs, pre, h, hn, hv => by
    unfold wrA at h
    injection h with h; injection h with e1 e2; injection e2 with e2 e3
    subst e2; subst e3
    have : vs = [] := List.eq_nil_of_length_eq_zero hv.len.symm
    subst this
    exact ⟨[], by unfold resL; exact ⟨rfl, rfl⟩, fun b hb => by simp [blocks] at hb, by simp [blocks], rfl, fun i id hi => by simp at hi⟩
  | .list t :: ks, .sl u id off len :: as, ns, ds, ids, v :: vs, pre, h, hn, ⟨hv1, hv2⟩ => by
    have hids := wrA_ids h
    unfold wrA at h
    split at h <;> try (cases h; done)
    rename_i row ns' ds' ids' hrow hrec
    split at h <;> try (cases h; done)
    rename_i l hl
    split at h <;> try (cases h; done)
    rename_i hc
    obtain ⟨rfl, hrt, hnc⟩ := hc
    injection h with h; injection h with e1 e2; injection e2 with e2 e3
    subst e1; subst e2; subst e3
    obtain ⟨⟨rfl, hlen, hsc⟩, hn2⟩ := hn
    obtain ⟨bs, b1, b2, b3, b4, b5⟩ := wrA_sound hi hg (pre ++ [.list u len l]) hrec hn2 hv2
    rw [List.append_assoc, List.length_append] at b1
    have hyj : (pre ++ .list u len l :: ds')[pre.length]? = some (.list u len l) := by simp
    have s1 : selN (pre ++ .list u len l :: ds') pre.length = len := by unfold selN; rw [hyj]
    have s2 : selL (pre ++ .list u len l :: ds') pre.length = l := by unfold selL; rw [hyj]
    have hCr := hg _ _ hrow
    have hnin : id ∉ ids' := (List.nodup_cons.mp hids.2.1).1
    obtain ⟨Ad, c, rfl, hcl, hv1⟩ := hv1
    have shift : ∀ (ob : Option (Nat × Nat × Nat)), ((ob = none ∧ ∃ row, C id = some row ∧ row.as = [] ∧ u = row.t) ∨ ∃ x, ob = some x ∧ κ.at_ id = some x) → ∀ (i k : Nat), (id :: ids')[i]? = some k → ((ob :: bs)[i]? = some none ∧ ∃ row, C k = some row ∧ row.as = [] ∧ (ltypes (.list u :: ks))[i]? = some row.t) ∨ ∃ x, (ob :: bs)[i]? = some (some x) ∧ κ.at_ k = some x := by
      intro ob hob i k hk
      cases i with
      | zero =>
        simp at hk
        subst hk
        rcases hob with ⟨rfl, r, h2, h3, h4⟩ | ⟨x, rfl, h2⟩
        · exact .inl ⟨rfl, r, h2, h3, by simp [ltypes, h4]⟩
        · exact .inr ⟨x, rfl, h2⟩
      | succ i => simpa [ltypes] using b5 i k (by simpa using hk)
    rcases hv1 with ⟨rfl, rfl⟩ | ⟨b, o, N, hat, rfl, hfit⟩
    · have hl0 : l = [] := List.eq_nil_of_length_eq_zero (by simpa using hlen)
      refine ⟨none :: bs, by unfold resL; rw [s1, s2]; exact ⟨⟨hl0, rfl, Ad, rfl⟩, b1⟩, fun b hb => ?_, by simpa [blocks] using b3, by simp [b4], shift none (.inl ⟨rfl, row, hCr, ?_, hrt.symm⟩)⟩
      · obtain ⟨k, q1, q2⟩ := b2 b (by simpa [blocks] using hb)
        exact ⟨k, List.mem_cons_of_mem _ q1, q2⟩
      · have := (rowD_at hl).1
        rw [hl0] at this
        exact List.eq_nil_of_length_eq_zero (by simpa using this)
    · rcases (hi.live id _ hCr).ds hl with ⟨g1, _⟩ | ⟨b2', o2, N2, arr, g1, g2, g3, g4, g5, g6⟩
      · rw [g1] at hat; cases hat
      rw [g1] at hat
      injection hat with hat; injection hat with e1 e2; injection e2 with e2 e3
      subst e1; subst e2; subst e3
      rw [hrt] at g3
      refine ⟨some (b2', o2, N2) :: bs, ?_, fun b hb => ?_, ?_, by simp [b4], shift (some (b2', o2, N2)) (.inr ⟨_, rfl, g1⟩)⟩
      · unfold resL
        rw [s1, s2]
        exact ⟨⟨c, arr, by simp, hcl, hlen, Nat.zero_le _, by simpa using hfit, g3, g4, fun j d hj => by
          obtain ⟨x, k1, k2⟩ := g6 j d hj
          refine ⟨x, k1, ?_⟩
          have hs := hsc d (List.mem_of_getElem? hj)
          cases d with
          | list => cases hs
          | _ => unfold gD at k2 ⊢; exact k2⟩, b1⟩
      · simp only [blocks, List.filterMap_cons, Option.map_some, List.mem_cons] at hb
        rcases hb with rfl | hb
        · exact ⟨id, by simp, row, _, _, hCr, g1⟩
        · obtain ⟨k, q1, q2⟩ := b2 b hb
          exact ⟨k, List.mem_cons_of_mem _ q1, q2⟩
      · simp only [blocks, List.filterMap_cons, Option.map_some, List.nodup_cons]
        refine ⟨fun hm => ?_, b3⟩
        obtain ⟨k, q1, row', o', N', q2, q3⟩ := b2 _ hm
        have := hi.apart id k row row' b2' o2 N2 o' N' hCr q2 g1 q3
        subst this
        exact hnin q1
  | .list t :: ks, .d d :: as, ns, ds, ids, v :: vs, pre, h, hn, ⟨hv1, hv2⟩ => by
    unfold wrA at h
    split at h <;> try (cases h; done)
    split at h <;> try (cases h; done)
    rename_i hfit
    cases d <;> simp [fitK, D.scalar] at hfit
  | .int k :: ks, .d d :: as, ns, ds, ids, v :: vs, pre, h, hn, ⟨hv1, hv2⟩ => by
    unfold wrA at h
    split at h <;> try (cases h; done)
    rename_i ns' ds' ids' hrec
    split at h <;> try (cases h; done)
    rename_i hfit
    injection h with h; injection h with e1 e2; injection e2 with e2 e3
    subst e1; subst e2; subst e3
    obtain ⟨bs, b1, b2⟩ := wrA_sound hi hg (pre ++ [d]) hrec hn hv2
    rw [List.append_assoc, List.length_append] at b1
    refine ⟨bs, ?_, b2⟩
    unfold resL
    refine ⟨?_, b1⟩
    rw [(fitK_sel (ds := pre ++ d :: ds') (j := pre.length) (by simp) hfit.1).2]
    have hv1' : gD P κ.z d v := hv1
    cases d with
    | list => exact absurd hfit.2 (by simp [D.scalar])
    | _ => unfold gD at hv1' ⊢; exact hv1'
  | .bool :: ks, .d d :: as, ns, ds, ids, v :: vs, pre, h, hn, ⟨hv1, hv2⟩ => by
    unfold wrA at h
    split at h <;> try (cases h; done)
    rename_i ns' ds' ids' hrec
    split at h <;> try (cases h; done)
    rename_i hfit
    injection h with h; injection h with e1 e2; injection e2 with e2 e3
    subst e1; subst e2; subst e3
    obtain ⟨bs, b1, b2⟩ := wrA_sound hi hg (pre ++ [d]) hrec hn hv2
    rw [List.append_assoc, List.length_append] at b1
    refine ⟨bs, ?_, b2⟩
    unfold resL
    refine ⟨?_, b1⟩
    rw [(fitK_sel (ds := pre ++ d :: ds') (j := pre.length) (by simp) hfit.1).2]
    have hv1' : gD P κ.z d v := hv1
    cases d with
    | list => exact absurd hfit.2 (by simp [D.scalar])
    | _ => unfold gD at hv1' ⊢; exact hv1'
  | .str :: ks, .d d :: as, ns, ds, ids, v :: vs, pre, h, hn, ⟨hv1, hv2⟩ => by
    unfold wrA at h
    split at h <;> try (cases h; done)
    rename_i ns' ds' ids' hrec
    split at h <;> try (cases h; done)
    rename_i hfit
    injection h with h; injection h with e1 e2; injection e2 with e2 e3
    subst e1; subst e2; subst e3
    obtain ⟨bs, b1, b2⟩ := wrA_sound hi hg (pre ++ [d]) hrec hn hv2
    rw [List.append_assoc, List.length_append] at b1
    refine ⟨bs, ?_, b2⟩
    unfold resL
    refine ⟨?_, b1⟩
    rw [(fitK_sel (ds := pre ++ d :: ds') (j := pre.length) (by simp) hfit.1).2]
    have hv1' : gD P κ.z d v := hv1
    cases d with
    | list => exact absurd hfit.2 (by simp [D.scalar])
    | _ => unfold gD at hv1' ⊢; exact hv1'
theorem upd_cases {C : Cs} {k : Nat} {row : Row} : ∀ {us : Us}, upd C us k = some row → (∃ p ∈ us, p.1 = k ∧ p.2 = some row) ∨ ((∀ p ∈ us, p.1 ≠ k) ∧ C k = some row) := by
  intro us
  induction us generalizing C with
  | nil => exact fun h => .inr ⟨fun p hp => by simp at hp, h⟩
  | cons q us ih =>
    intro h
    rcases ih (C := fun id => if id = q.1 then q.2 else C id) h with ⟨p, h1, h2⟩ | ⟨h1, h2⟩
    · exact .inl ⟨p, List.mem_cons_of_mem _ h1, h2⟩
    · by_cases e : k = q.1
      · rw [if_pos e] at h2
        exact .inl ⟨q, by simp, e.symm, h2⟩
      · rw [if_neg e] at h2
        refine .inr ⟨fun p hp => ?_, h2⟩
        rcases List.mem_cons.mp hp with rfl | hp
        · exact fun e' => e e'.symm
        · exact h1 p hp
/-- Some rows were written. -/
theorem Inv.wrote (h : Inv P w0 κ C w) {w' : World} {B : List Nat} (hw : Wrote w w' B) {ids : List Nat} {C' : Cs} (hB : ∀ b ∈ B, ∃ id ∈ ids, ∃ row o N, C id = some row ∧ κ.at_ id = some (b, o, N))
    (hC : ∀ id row, C' id = some row → (id ∉ ids ∧ C id = some row) ∨ (id ∈ ids ∧ (∃ r, C id = some r) ∧ RowIn P κ w' id row)) : Inv P w0 κ C' w' := by
  have hold : ∀ id row, C' id = some row → ∃ r, C id = some r := fun id row hr => by
    rcases hC id row hr with ⟨_, h1⟩ | ⟨_, h1, _⟩
    · exact ⟨row, h1⟩
    · exact h1
  refine ⟨hw.os.trans h.os, hw.tape.trans h.tape, hw.output.trans h.output, Nat.le_trans h.size hw.size, fun b hlt hW => ⟨(hw.block b (Nat.lt_of_lt_of_le hlt h.size) (fun hb => ?_)).trans (h.base b hlt hW).1, (h.base b hlt hW).2⟩, fun b x hx => (hw.block b (h.zlt hx) (fun hb => ?_)).trans (h.z b x hx), fun id row hr => ?_, fun id id' row row' b o N o' N' h1 h2 h3 h4 => ?_, fun id row b o N h1 h3 => ?_⟩
  · obtain ⟨id, _, row, o, N, g1, g2⟩ := hB b hb
    rcases h.own id row b o N g1 g2 with h9 | h9
    · omega
    · exact hW h9
  · obtain ⟨id, _, row, o, N, g1, g2⟩ := hB b hb
    rcases h.live id row g1 with ⟨h1, _⟩ | ⟨b', o', N', arr, h1, h2, _⟩
    · rw [h1] at g2; cases g2
    · rw [h1] at g2
      injection g2 with g2; injection g2 with g2 _
      subst g2
      rw [h2] at hx; cases hx
  · rcases hC id row hr with ⟨hn, h1⟩ | ⟨_, _, h1⟩
    · rcases h.live id row h1 with g | ⟨b, o, N, arr, g1, g2, g3, g4⟩
      · exact .inl g
      · refine .inr ⟨b, o, N, arr, g1, g2, (hw.block b (block_of g3) (fun hb => ?_)).trans g3, g4⟩
        obtain ⟨id', hid', row', o', N', k1, k2⟩ := hB b hb
        have := h.apart id id' row row' b o N o' N' h1 k1 g1 k2
        subst this
        exact hn hid'
    · exact h1
  · obtain ⟨r, q1⟩ := hold id row h1
    obtain ⟨r', q2⟩ := hold id' row' h2
    exact h.apart id id' r r' b o N o' N' q1 q2 h3 h4
  · obtain ⟨r, q1⟩ := hold id row h1
    exact h.own id r b o N q1 h3
/-- The rows that were written, as they are then. -/
theorem wrU_rows (h : Inv P w0 κ C w) {w' : World} {B : List Nat} (hw : Wrote w w' B) {yz zs : List D} {m : Nat} (hyz : ∀ i, selL yz (m + i) = selL zs i) {ids0 : List Nat} {bs0 : List (Option (Nat × Nat × Nat))} (hB : ∀ b ∈ B, b ∈ blocks bs0) (hnd : ids0.Nodup) (hlen : bs0.length = ids0.length)
    (hids0 : ∀ id ∈ ids0, ∃ row, C id = some row) {kt : List Nat} (hrel : ∀ (i id : Nat), ids0[i]? = some id → (bs0[i]? = some none ∧ ∃ row, C id = some row ∧ row.as = [] ∧ kt[i]? = some row.t) ∨ ∃ x, bs0[i]? = some (some x) ∧ κ.at_ id = some x) :
    ∀ {ks : List Kd} {vs : List Value} {bs : List (Option (Nat × Nat × Nat))} {ids : List Nat} {i : Nat}, wroteL P w' zs i ks vs bs → bs = bs0.drop i → ids = ids0.drop i → ltypes ks = kt.drop i → ∀ p ∈ wrU yz (m + i) ks ids, ∃ row, p.2 = some row ∧ p.1 ∈ ids0 ∧ RowIn P κ w' p.1 row
  | [], vs, bs, ids, i, hwl, hbs, hids, hkt, p, hp => by simp [wrU] at hp
  | .int k :: ks, v :: vs, bs, ids, i, hwl, hbs, hids, hkt, p, hp => by
    unfold wroteL at hwl
    exact wrU_rows h hw hyz hB hnd hlen hids0 hrel hwl hbs hids hkt p hp
  | .bool :: ks, v :: vs, bs, ids, i, hwl, hbs, hids, hkt, p, hp => by
    unfold wroteL at hwl
    exact wrU_rows h hw hyz hB hnd hlen hids0 hrel hwl hbs hids hkt p hp
  | .str :: ks, v :: vs, bs, ids, i, hwl, hbs, hids, hkt, p, hp => by
    unfold wroteL at hwl
    exact wrU_rows h hw hyz hB hnd hlen hids0 hrel hwl hbs hids hkt p hp
  | .list t :: ks, v :: vs, [], ids, i, hwl, hbs, hids, hkt, p, hp => by unfold wroteL at hwl; exact hwl.elim
  | .list t :: ks, v :: vs, ob :: bs, [], i, hwl, hbs, hids, hkt, p, hp => by
    exfalso
    have h1 : bs0[i]? = some ob := by rw [← List.head?_drop, ← hbs]; rfl
    have h2 : ids0.length ≤ i := by
      have := congrArg List.length hids
      simp at this; omega
    have h3 := (List.getElem?_eq_some_iff.mp h1).1
    omega
  | .list t :: ks, v :: vs, ob :: bs, id :: ids, i, hwl, hbs, hids, hkt, p, hp => by
    unfold wroteL at hwl
    obtain ⟨ho, hwl⟩ := hwl
    have hb1 : bs0[i]? = some ob := by rw [← List.head?_drop, ← hbs]; rfl
    have hi1 : ids0[i]? = some id := by rw [← List.head?_drop, ← hids]; rfl
    have hb2 : bs = bs0.drop (i + 1) := by rw [← List.drop_drop, ← hbs]; rfl
    have hi2 : ids = ids0.drop (i + 1) := by rw [← List.drop_drop, ← hids]; rfl
    simp only [wrU, List.mem_cons] at hp
    rcases hp with rfl | hp
    · refine ⟨_, rfl, List.mem_of_getElem? hi1, ?_⟩
      rw [hyz]
      obtain ⟨row0, hrow0⟩ := hids0 id (List.mem_of_getElem? hi1)
      rcases hrel i id hi1 with ⟨q1, r, q2, q3, q4⟩ | ⟨⟨b, o, N⟩, q1, q2⟩
      · rw [hb1] at q1
        injection q1 with q1
        subst q1
        obtain ⟨e1, e2, Ad, e3⟩ := ho
        rcases h.live id r q2 with ⟨g1, _⟩ | ⟨b, o, N, arr, g1, g2, g3, g4, g5, g6⟩
        · exact .inl ⟨g1, by simp [Row.as, e1]⟩
        · have hk1 : kt[i]? = some t := by rw [← List.head?_drop, ← hkt]; rfl
          rw [hk1] at q4
          injection q4 with q4
          rw [← q4] at g3
          refine .inr ⟨b, o, N, arr, g1, g2, ?_, g4, by simp [Row.as, e1]; rw [q3] at g5; simpa using g5, fun j a hj => by simp [Row.as, e1] at hj⟩
          refine (hw.block b (block_of g3) (fun hb => ?_)).trans g3
          have hb' := hB b hb
          unfold blocks at hb'
          obtain ⟨ox, m1, m2⟩ := List.mem_filterMap.mp hb'
          obtain ⟨i', m3⟩ := List.getElem?_of_mem m1
          obtain ⟨x, rfl, m4⟩ := Option.map_eq_some_iff.mp m2
          have hlt' : i' < ids0.length := by rw [← hlen]; exact (List.getElem?_eq_some_iff.mp m3).1
          rcases hrel i' ids0[i'] (List.getElem?_eq_getElem hlt') with ⟨n1, _⟩ | ⟨y, n1, n2⟩
          · rw [m3] at n1; cases n1
          · rw [m3] at n1
            injection n1 with n1; injection n1 with n1
            subst n1
            obtain ⟨b', o', N'⟩ := x
            obtain rfl : b' = b := m4
            obtain ⟨r', n3⟩ := hids0 ids0[i'] (List.getElem_mem hlt')
            have he := h.apart id ids0[i'] r r' b' o N o' N' q2 n3 g1 n2
            have hlt : i < ids0.length := (List.getElem?_eq_some_iff.mp hi1).1
            have he2 : ids0[i] = ids0[i'] := by rw [← he]; exact (List.getElem?_eq_some_iff.mp hi1).2
            have : i = i' := by
              have hp := List.pairwise_iff_getElem.mp hnd
              rcases Nat.lt_trichotomy i i' with hl | hl | hl
              · exact absurd he2 (hp i i' hlt hlt' hl)
              · exact hl
              · exact absurd he2.symm (hp i' i hlt' hlt hl)
            subst this
            rw [hb1] at m3
            cases m3
      · rw [hb1] at q1
        injection q1 with q1
        subst q1
        obtain ⟨c, arr, e0, e1, e2, _, e4, e5, e6, e7⟩ := ho
        have hzb : κ.z b = none := by
          rcases h.live id row0 hrow0 with ⟨g1, _⟩ | ⟨b', o', N', arr', g1, g2, _⟩
          · rw [g1] at q2; cases q2
          · rw [g1] at q2
            injection q2 with q2; injection q2 with q2 _
            subst q2; exact g2
        refine .inr ⟨b, o, N, arr, q2, hzb, e5, e6, ?_, fun j a hj => ?_⟩
        · have := Nat.mul_le_mul_right (sz P t) e1
          simp [Row.as]; omega
        · simp only [Row.as, List.getElem?_map] at hj
          obtain ⟨d, hd, rfl⟩ := Option.map_eq_some_iff.mp hj
          obtain ⟨x, k1, k2⟩ := e7 j d hd
          exact ⟨x, k1, gD.mono (fun b x hx => by cases hx) k2⟩
    · exact wrU_rows h hw hyz hB hnd hlen hids0 hrel hwl hb2 hi2 (by rw [← List.drop_drop, ← hkt]; rfl) p (by rw [show m + (i + 1) = m + i + 1 by omega]; exact hp)
theorem Kr.le_z {κ : Kr} : Kr.le ⟨fun _ => none, κ.z⟩ κ := ⟨fun _ _ h => (by cases h), fun _ _ h => h⟩
/-- Behind a call: what is new is known. -/
theorem Inv.after (h : Inv P w0 κ C w) {w' : World} (hb : Below w.heap.size w w') : κ.le ⟨κ.at_, zNew κ.z w w'⟩ ∧ Inv P w0 ⟨κ.at_, zNew κ.z w w'⟩ C w' := by
  have hz : ∀ b, b < w.heap.size → zNew κ.z w w' b = κ.z b := fun b hb => by unfold zNew; rw [if_pos hb]
  have hle : κ.le ⟨κ.at_, zNew κ.z w w'⟩ := ⟨fun _ _ h => h, fun b x hx => by show zNew κ.z w w' b = _; rw [hz b (h.zlt hx)]; exact hx⟩
  refine ⟨hle, hb.os.trans h.os, hb.tape.trans h.tape, hb.output.trans h.output, Nat.le_trans h.size hb.size, fun b hlt hW => ⟨(hb.block b (Nat.lt_of_lt_of_le hlt h.size)).trans (h.base b hlt hW).1, fun x hx => (h.base b hlt hW).2 x ?_⟩, fun b x hx => ?_, fun id row hr => ?_, h.apart, h.own⟩
  · rw [← hz b (Nat.lt_of_lt_of_le hlt h.size)]; exact hx
  · have hx' : zNew κ.z w w' b = some x := hx
    unfold zNew at hx'
    split at hx'
    · rename_i hlt
      exact (hb.block b hlt).trans (h.z b x hx')
    · exact hx'
  · rcases h.live id row hr with h1 | ⟨b, o, N, arr, h1, h2, h3, h4, h5, h6⟩
    · exact .inl h1
    · refine .inr ⟨b, o, N, arr, h1, ?_, (hb.block b (block_of h3)).trans h3, h4, h5, fun j a hj => ?_⟩
      · show zNew κ.z w w' b = none
        rw [hz b (block_of h3)]; exact h2
      · obtain ⟨x, g1, g2⟩ := h6 j a hj
        exact ⟨x, g1, g2.mono hle⟩
theorem wrA_nils {g : Cs} : ∀ {ks : List Kd} {as : List A} {ns : List Prop} {ds : List D} {ids : List Nat}, wrA P g ks as = some (ns, ds, ids) → nilsTo ds ks = ds
  | [], [], ns, ds, ids, h => by
    unfold wrA at h
    injection h with h; injection h with e1 e2; injection e2 with e2 e3
    subst e2; rfl
  | .list t :: ks, .sl u id off len :: as, ns, ds, ids, h => by
    unfold wrA at h
    split at h <;> try (cases h; done)
    rename_i row ns' ds' ids' hrow hrec
    split at h <;> try (cases h; done)
    rename_i l hl
    split at h <;> try (cases h; done)
    injection h with h; injection h with e1 e2; injection e2 with e2 e3
    subst e2
    show nilTo _ _ :: nilsTo ds' ks = _
    rw [wrA_nils hrec]
    unfold nilTo
    split
    · rename_i e1 e2; cases e1; cases e2; rfl
    · rfl
  | k :: ks, .d d :: as, ns, ds, ids, h => by
    have h' : (match wrA P g ks as with
      | some (ns, ds, ids) => if fitK d k = true ∧ d.scalar = true then some (ns, d :: ds, ids) else none
      | none => none) = some (ns, ds, ids) := by
      cases k <;> exact h
    split at h' <;> try (cases h'; done)
    rename_i ns' ds' ids' hrec
    split at h' <;> try (cases h'; done)
    rename_i hfit
    injection h' with h'; injection h' with e1 e2; injection e2 with e2 e3
    subst e2
    show nilTo _ _ :: nilsTo ds' ks = _
    rw [wrA_nils hrec]
    cases d with
    | list => exact absurd hfit.2 (by simp [D.scalar])
    | _ => rfl
theorem res_scalars {base : Nat} {w' : World} {ys zs : List D} : ∀ {ks : List Kd} {j : Nat} {vs : List Value} {bs : List (Option (Nat × Nat × Nat))}, lists ks = 0 → j + ks.length ≤ ys.length → resL P base w' ys j ks vs bs → gL P κ (sels (ys ++ zs) j ks) vs
  | [], j, vs, bs, _, _, h => by unfold resL at h; rw [h.1]; trivial
  | .list t :: ks, j, vs, bs, hl, _, h => by simp [lists] at hl
  | .int k :: ks, j, v :: vs, bs, hl, hj, h => by
    unfold resL at h
    simp at hj
    refine ⟨?_, res_scalars (by simpa [lists] using hl) (by omega) h.2⟩
    show gD P κ.z (sel (ys ++ zs) j (.int k)) v
    have : sel (ys ++ zs) j (.int k) = sel ys j (.int k) := by unfold sel selI; rw [List.getElem?_append_left (by omega)]
    rw [this]
    exact gD.mono (fun b x hx => by cases hx) h.1
  | .bool :: ks, j, v :: vs, bs, hl, hj, h => by
    unfold resL at h
    simp at hj
    refine ⟨?_, res_scalars (by simpa [lists] using hl) (by omega) h.2⟩
    show gD P κ.z (sel (ys ++ zs) j .bool) v
    have : sel (ys ++ zs) j .bool = sel ys j .bool := by unfold sel selB; rw [List.getElem?_append_left (by omega)]
    rw [this]
    exact gD.mono (fun b x hx => by cases hx) h.1
  | .str :: ks, j, v :: vs, bs, hl, hj, h => by
    unfold resL at h
    simp at hj
    refine ⟨?_, res_scalars (by simpa [lists] using hl) (by omega) h.2⟩
    show gD P κ.z (sel (ys ++ zs) j .str) v
    have : sel (ys ++ zs) j .str = sel ys j .str := by unfold sel selS; rw [List.getElem?_append_left (by omega)]
    rw [this]
    exact gD.mono (fun b x hx => by cases hx) h.1
  | .int k :: ks, j, [], bs, hl, hj, h => by cases bs <;> unfold resL at h <;> exact h.elim
  | .bool :: ks, j, [], bs, hl, hj, h => by cases bs <;> unfold resL at h <;> exact h.elim
  | .str :: ks, j, [], bs, hl, hj, h => by cases bs <;> unfold resL at h <;> exact h.elim
/-- What is known behind an operation. -/
def After (P : Program) (w0 : Bs) (F : Tb) (J : Nat → List D → Prop) (Q : List D → Prop) (κ : Kr) (C : Cs) (nb : Nat) (o : Oper) (σ : St) (K : St → Tree) (κ' : Kr) (v : Value) (w' : World) : Prop :=
  ∃ us av, κ.le κ' ∧ InvE P w0 κ' (upd C us) w' ∧ (∀ k, k < big → (∀ p ∈ us, p.1 ≠ k) → κ'.at_ k = κ.at_ k) ∧ FreeN w0 κ' (upd C us) ∧ gAV P κ' av v ∧ okU σ.H.length us = true ∧ (∀ p ∈ us, (∃ row, restr σ.H (touch o.op σ) p.1 = some row) ∨ (nb ≤ p.1 ∧ p.1 < nb + nNew P F o)) ∧
    (K ⟨putL σ.tmps o.dst av, setH σ.H us⟩).holds F J Q
/-- Plain rows changed. -/
theorem after_of {nb : Nat} {o : Oper} {σ : St} {K : St → Tree} {κ' : Kr} {w' : World} {us : Us} {av : AV} {v : Value} (hf : FreeN w0 κ C) (hlen : σ.H.length ≤ big) (hg : ∀ id row, restr σ.H (touch o.op σ) id = some row → C id = some row ∧ id < big) (hfresh : ∀ id, nb ≤ id → id < nb + nNew P F o → C id = none ∧ κ.at_ id = none)
    (hle : κ.le κ') (hi : Inv P w0 κ' (upd (expand C) us) w') (hk : ∀ k, (∀ p ∈ us, p.1 ≠ k) → κ'.at_ k = κ.at_ k) (hv : gAV P κ' av v) (hoku : okU σ.H.length us = true) (hp : ∀ p ∈ us, plainO p.2 = true)
    (hids : ∀ p ∈ us, (∃ row, nd (restr σ.H (touch o.op σ)) p.1 = some row) ∨ (nb ≤ p.1 ∧ p.1 < nb + nNew P F o)) (hK : (K ⟨putL σ.tmps o.dst av, setH σ.H us⟩).holds F J Q) : After P w0 F J Q κ C nb o σ K κ' v w' := by
  have hb : ∀ p ∈ us, p.1 < big := fun p h => by
    have := List.all_eq_true.mp hoku p h
    simp at this
    omega
  have hd : ∀ p ∈ us, isDeep (C p.1) = false := fun p h => by
    rcases hids p h with ⟨row, h1⟩ | ⟨h1, h2⟩
    · obtain ⟨q1, q2⟩ := nd_some h1
      rw [(hg _ _ q1).1]
      rw [q1] at q2; exact q2
    · rw [(hfresh _ h1 h2).1]; rfl
  have hz : ∀ p ∈ us, C p.1 ≠ none ∨ κ.at_ p.1 = none := fun p h => by
    rcases hids p h with ⟨row, h1⟩ | ⟨h1, h2⟩
    · exact .inl (by rw [(hg _ _ (nd_some h1).1).1]; simp)
    · exact .inr (hfresh _ h1 h2).2
  obtain ⟨a1, a2, a3⟩ := after_plain hf hle hz hi hk hb hp hd
  exact ⟨us, av, hle, a1, a2, a3, hv, hoku, fun p h => (hids p h).imp (fun ⟨row, h1⟩ => ⟨row, (nd_some h1).1⟩) id, hK⟩
/-- A call of a function of the table. -/
structure CallAt (F : Tb) (o : Oper) (f : Nat) (args : Array Operand) (s : Sig) : Prop where
  hcf : isCallF o.op = some (f, args)
  hop : ∃ ts, o.op = .call ⟨.value (.func f), args, ts⟩
  hs : F f = some s
theorem nNew_call {o : Oper} {f : Nat} {args : Array Operand} {s : Sig} {rk : List Kd} (hc : CallAt F o f args s) (hop : s.md ≠ .op) (hrk : ksAll P s.results = some rk) : nNew P F o = nRes s rk := by
  unfold nNew
  rw [hc.hcf]
  simp only
  rw [hc.hs]
  simp only
  cases hm : s.md with
  | op => exact absurd hm hop
  | _ => simp only [hrk]
theorem enter_ok {o : Oper} {f : Nat} {args : Array Operand} {fn : Func} {a : Act} {w : World} (hop : ∃ ts, o.op = .call ⟨.value (.func f), args, ts⟩) (f1 : P.funcs[f]? = some fn) (f2 : (fn.name == "runtime.NumGoroutine") = false) (f3 : fn.body.isNone = false) : (execOp a.eval o).run P w = .ok (.enter f (args.map a.eval)) w := by
  obtain ⟨ts, hop⟩ := hop
  have f2' : ¬ fn.name = "runtime.NumGoroutine" := by simpa using f2
  have f3' : ¬ fn.body = none := by intro e; rw [e] at f3; cases f3
  unfold execOp
  rw [hop]
  simp [resolve, Act.eval, Deferred.ofValue, invoke, callFunc, f1, f2', f3']
theorem args_vals {a : Act} {tmps : List AV} {op : Op} (he : ∀ x, gAV P κ (evalR (opTmps op) tmps x) (a.eval x)) (args : Array Operand) : ∀ (i : Nat) (av : AV), (args.toList.map fun x => unl (evalR (opTmps op) tmps x))[i]? = some av → ∃ v, (args.map a.eval).toList[i]? = some v ∧ gAV P κ av v := by
  intro i av hi
  rw [List.getElem?_map] at hi
  cases hx : args.toList[i]? with
  | none => rw [hx] at hi; cases hi
  | some x =>
    rw [hx] at hi
    injection hi with hi
    subst hi
    rw [Array.getElem?_toList] at hx
    exact ⟨a.eval x, by simp [hx], unl_sound (he x)⟩
theorem execC_sound (hF : FnsOk P F) {nb : Nat} {o : Oper} {σ : St} {K : St → Tree} {f : Nat} {args : Array Operand} {s : Sig} (hc : CallAt F o f args s) (h : (execC P nb o σ K f args s).holds F J Q) (hi : InvE P w0 κ C w) (hf : FreeN w0 κ C) (hlen : σ.H.length ≤ big) (he : ∀ x, gAV P κ (evalR (opTmps o.op) σ.tmps x) (a.eval x))
    (hg : ∀ id row, restr σ.H (touch o.op σ) id = some row → C id = some row ∧ id < big) (hfresh : ∀ id, nb ≤ id → id < nb + nNew P F o → C id = none ∧ κ.at_ id = none) {G : Act → World → Prop} {Qe : Exit → Act → World → Prop}
    (hG : ∀ κ' v w', After P w0 F J Q κ C nb o σ K κ' v w' → G (a.put o.dst v) w') : o.wp P a w G Qe := by
  obtain ⟨hcf, ⟨ts, hop⟩, hs⟩ := hc
  have hgn := nd_expand hg
  have hfresh0 := hfresh
  have hfreshE : ∀ id, nb ≤ id → id < nb + nNew P F o → id < big → expand C id = none ∧ κ.at_ id = none := fun id h1 h2 h3 => ⟨by rw [expand_ord h3, (hfresh id h1 h2).1]; rfl, (hfresh id h1 h2).2⟩
  unfold execC at h
  split at h <;> try (exact h.elim)
  rename_i as pk rk has hpk hrk
  split at h <;> try (exact h.elim)
  rename_i ns ds kl hv
  split at h <;> try (exact h.elim)
  rename_i hfit
  obtain ⟨hfit, hroom, hokk, hmdok⟩ := hfit
  obtain ⟨hn, h⟩ := Tree.holds_needs h
  unfold Tree.holds at h
  rw [hs] at h
  simp only at h
  obtain ⟨hpre, hpost⟩ := h
  obtain ⟨⟨fn, f1, f2, f3⟩, hcall⟩ := hF f s hs
  have hnop : s.md ≠ .op := fun e => by unfold callV at hv; rw [e] at hv; cases hv
  have hnn : nNew P F o = nRes s rk := nNew_call ⟨hcf, ⟨ts, hop⟩, hs⟩ hnop hrk
  rw [hnn] at hfresh
  have hids0 := resU_ids hv
  obtain ⟨cells, c1, c2⟩ := argCells_sound (P := P) (κ := κ) (vs := (args.map a.eval).toList) has (by simp) (fun i av hi => by
    rw [List.getElem?_map] at hi
    cases hx : args.toList[i]? with
    | none => rw [hx] at hi; cases hi
    | some x =>
      rw [hx] at hi
      injection hi with hi
      subst hi
      rw [Array.getElem?_toList] at hx
      exact ⟨a.eval x, by simp [hx], unl_sound (he x)⟩)
  have f2' : ¬ fn.name = "runtime.NumGoroutine" := by simpa using f2
  have f3' : ¬ fn.body = none := by intro e; rw [e] at f3; cases f3
  have hex : (execOp a.eval o).run P w = .ok (.enter f (args.map a.eval)) w := by
    unfold execOp
    rw [hop]
    simp [resolve, Act.eval, Deferred.ofValue, invoke, callFunc, f1, f2', f3']
  unfold Oper.wp
  rw [hex, Oper.upon_enter]
  cases hfz : s.md with
  | rd z => unfold callV at hv; rw [hfz] at hv; cases hv
  | ownD => unfold callV at hv; rw [hfz] at hv; cases hv
  | wrD => unfold callV at hv; rw [hfz] at hv; cases hv
  | op => exact absurd hfz hnop
  | fz =>
    rw [hfz] at hcall
    unfold callV at hv
    rw [hfz] at hv
    obtain ⟨κ1, q1, q2, q3', v1, v2⟩ := frzX_sound hv hn hi hg c2
    have q3 : Inv P w0 κ1 (expand (upd C (kill kl))) w := q3'
    obtain ⟨n1, n2⟩ := nilsTo_sound (ks := pk) v2
    obtain ⟨g1, g2, g3⟩ := fits_sels (P := P) (κ := ⟨fun _ => none, κ1.z⟩) [] (nilsTo ds pk) pk cells hfit (by rw [n1, v1]) n2
    refine (hcall w κ1.z (args.map a.eval) (nilsTo ds pk) pk cells q3.z hpk c1 hfit g3 hpre).mono ?_
    rintro e w' ⟨v, ys, rfl, hpo, hbel, hres⟩
    obtain ⟨ks', cells', vs', k1, k2, k3, k4, rfl⟩ := hres
    rw [hrk] at k1
    injection k1 with k1
    subst k1
    obtain ⟨a1, a2⟩ := q3.after hbel
    have hK := hpost ys hpo
    split at hK <;> try (exact hK.elim)
    rename_i l hl
    have hU : resU s ys nb kl pk rk = (sels ys 0 rk, kill kl) := by unfold resU; rw [hfz]
    rw [hU] at hl hK
    refine hG _ _ w' ⟨kill kl, wrapR l, q1.trans a1, a2, fun k hk _ => (by show κ1.at_ k = _; rw [q2]), free_kill hi hf (fun k hk => (frzX_ids hv k hk).elim fun row h9 => (hg _ _ h9).2) q2, ?_, hokk, fun p hp => .inl (frzX_ids hv _ (kill_mem hp)), hK⟩
    exact wrapR_sound (splitV_sound hl k3 (k4.mono (Kr.le_z (κ := ⟨κ1.at_, zNew κ1.z w w'⟩))))
  | wr =>
    rw [hfz] at hcall
    unfold callV at hv
    rw [hfz] at hv
    have hl0 : lists rk = 0 := by unfold mdOk at hmdok; rw [hfz] at hmdok; simpa using hmdok
    obtain ⟨i1, i2, i3⟩ := wrA_ids hv
    obtain ⟨bs, b1, b2, b3, b4, b5⟩ := wrA_sound (show Inv P w0 κ (expand C) w from hi) hgn [] hv hn c2
    have hnil := wrA_nils hv
    rw [hnil] at hpre hpost hfit
    refine (hcall w (args.map a.eval) ds pk cells bs hpk c1 hfit b1 b3 hpre).mono ?_
    rintro e w' ⟨v, ys, zs, rfl, hpo, ⟨rk', hrk', _, hyl⟩, hw, hwl, hres⟩
    rw [hrk] at hrk'
    injection hrk' with hrk'
    subst hrk'
    obtain ⟨ks', cells', vs', bs', k1, k2, k3, k4, k5, rfl⟩ := hres
    rw [hrk] at k1
    injection k1 with k1
    subst k1
    have hyz : ∀ i, selL (ys ++ zs) (rk.length + i) = selL zs i := fun i => by
      unfold selL
      rw [List.getElem?_append_right (by omega)]
      rw [hyl, Nat.add_sub_cancel_left]
    have hids : ∀ id ∈ kl, ∃ row, expand C id = some row := fun id hid => by obtain ⟨row, h9⟩ := i1 id hid; exact ⟨row, hgn id row h9⟩
    have hrows := wrU_rows (show Inv P w0 κ (expand C) w from hi) hw (m := rk.length) (yz := ys ++ zs) hyz (fun b hb => hb) i2 b4 hids b5 (i := 0) hwl rfl rfl rfl
    have hinv : Inv P w0 κ (upd (expand C) (wrU (ys ++ zs) rk.length pk kl)) w' := Inv.wrote (show Inv P w0 κ (expand C) w from hi) hw (ids := kl) b2 (fun id row hr => by
      rcases upd_cases hr with ⟨p, p1, p2, p3⟩ | ⟨p1, p2⟩
      · obtain ⟨row', q1, q2, q3⟩ := hrows p p1
        rw [p3] at q1
        injection q1 with q1
        subst q1; subst p2
        exact .inr ⟨q2, hids _ q2, q3⟩
      · refine .inl ⟨fun hm => ?_, p2⟩
        rw [← i3 (ys ++ zs) rk.length] at hm
        obtain ⟨p, p3, p4⟩ := List.mem_map.mp hm
        exact p1 p p3 p4)
    have hK := hpost (ys ++ zs) hpo
    split at hK <;> try (exact hK.elim)
    rename_i l hl
    have hU : resU s (ys ++ zs) nb kl pk rk = (sels (ys ++ zs) 0 rk, wrU (ys ++ zs) rk.length pk kl) := by unfold resU; rw [hfz]
    rw [hU] at hl hK
    refine hG κ _ w' (after_of hf hlen hg hfresh0 (us := wrU (ys ++ zs) rk.length pk kl) (av := wrapR l) (Kr.le.refl κ) hinv (fun k _ => rfl) ?_ ?_ (wrU_plain _ _ _ _) (fun p hp => .inl (i1 _ (by rw [← i3 (ys ++ zs) rk.length]; exact List.mem_map_of_mem hp))) hK)
    · exact wrapR_sound (splitV_sound hl k3 (res_scalars (κ := κ) (zs := zs) hl0 (by omega) k5))
    · refine List.all_eq_true.mpr (fun p hp => ?_)
      have hm : p.1 ∈ kl := by rw [← i3 (ys ++ zs) rk.length]; exact List.mem_map_of_mem hp
      exact List.all_eq_true.mp hokk (p.1, none) (List.mem_map.mpr ⟨p.1, hm, rfl⟩)
  | own =>
  rw [hfz] at hcall
  unfold callV at hv
  rw [hfz] at hv
  simp only at hv
  split at hv <;> try (cases hv; done)
  rename_i ns' ds' hv'
  injection hv with hv; injection hv with e1 e2; injection e2 with e2 e3
  subst e1; subst e2; subst e3
  have hnr : nRes s rk = lists rk := by unfold nRes; rw [hfz]
  rw [hnr] at hfresh hroom
  obtain ⟨v1, v2⟩ := viewX_sound hi hg hv' hn c2
  obtain ⟨n1, n2⟩ := nilsTo_sound (ks := pk) v2
  obtain ⟨g1, g2, g3⟩ := fits_sels (P := P) (κ := Kr.of w) [] (nilsTo ds' pk) pk cells hfit (by rw [n1, v1]) n2
  refine (hcall w (fun b => w.heap[b]?) (args.map a.eval) (nilsTo ds' pk) pk cells (fun _ _ h => h) hpk c1 hfit g3 hpre).mono ?_
  rintro e w' ⟨v, ys, rfl, hpo, hbel, hres⟩
  obtain ⟨ks', cells', vs', bs, k1, k2, k3, k4, k5, rfl⟩ := hres
  rw [hrk] at k1
  injection k1 with k1
  subst k1
  have hi' := Inv.below (show Inv P w0 κ (expand C) w from hi) hbel
  have hbk : ∀ (ks : List Kd) (j : Nat) (vs : List Value) (bs : List (Option (Nat × Nat × Nat))), resL P w.heap.size w' ys j ks vs bs → ∀ b ∈ blocks bs, w.heap.size ≤ b := by
    intro ks
    induction ks with
    | nil => intro j vs bs h b hb; unfold resL at h; rw [h.2] at hb; simp [blocks] at hb
    | cons k ks ih =>
      intro j vs bs h b hb
      cases k with
      | list t =>
        cases vs with
        | nil => cases bs <;> unfold resL at h <;> exact h.elim
        | cons v vs =>
          cases bs with
          | nil => unfold resL at h; exact h.elim
          | cons ob bs =>
            unfold resL at h
            cases ob with
            | none => exact ih _ _ _ h.2 b (by simpa [blocks] using hb)
            | some x =>
              obtain ⟨b', o, N⟩ := x
              simp [blocks] at hb
              rcases hb with rfl | hb
              · exact h.1.choose_spec.choose_spec.2.2.2.1
              · exact ih _ _ _ h.2 b (by simpa [blocks] using hb)
      | int k' => cases vs <;> unfold resL at h <;> first | exact h.elim | exact ih _ _ _ h.2 b hb
      | bool => cases vs <;> unfold resL at h <;> first | exact h.elim | exact ih _ _ _ h.2 b hb
      | str => cases vs <;> unfold resL at h <;> first | exact h.elim | exact ih _ _ _ h.2 b hb
  rw [hnn, hnr] at hfreshE
  obtain ⟨κ', a1, a2, a3, a4, _⟩ := res_sound (nb := nb) hi' k5 k4 (fun id h1 h2 => hfreshE id h1 h2 (by omega)) (fun id row b o N hr ha hb => by
    have h1 := hbk _ _ _ _ k5 b hb
    have := hi.atlt hr ha
    omega) (fun b hb => by
    have h1 := hbk _ _ _ _ k5 b hb
    refine ⟨?_, .inl (Nat.le_trans hi.size h1)⟩
    cases hz : κ.z b with
    | none => rfl
    | some x => have := hi.zlt hz; omega)
  have hK := hpost ys hpo
  split at hK <;> try (exact hK.elim)
  rename_i l hl
  have hU : resU s ys nb [] pk rk = resA ys nb 0 rk := by unfold resU; rw [hfz]
  rw [hU] at hl hK
  refine hG κ' _ w' (after_of hf hlen hg hfresh0 (us := (resA ys nb 0 rk).2) (av := wrapR l) a1 a2 a4 ?_ (List.all_eq_true.mpr (fun p hp => decide_eq_true (by have := resA_ids _ _ _ _ p hp; omega))) (resA_plain _ _ _ _) (fun p hp => .inr ?_) hK)
  · exact wrapR_sound (splitV_sound hl k3 a3)
  · rw [hnn, hnr]; exact resA_ids _ _ _ _ p hp
end
end Go.Proofs.Ytjleempapphlhab.Mini
end
