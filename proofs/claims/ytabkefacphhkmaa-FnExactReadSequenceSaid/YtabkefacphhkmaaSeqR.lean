/- The contracts of the functions of chapter 5: reading sequences. -/
import Derived.Test.YtabkefacphhkmaaSeq
import Derived.Test.YtabkefacphhkmaaPlace
import Derived.Test.YtabkefacphhkmaaTyp3
namespace Go.Proofs.Ytabkefacphhkmaa
open Go.RowKit
set_option linter.unusedVariables false
set_option maxRecDepth 20000

/-- What is read of a text: the word behind the first space, the number ahead of it. -/
def seqA (s : ByteArray) : ByteArray := bytesOf (s.data.toList.drop (spL s.data.toList + 1))
def seqN (s : ByteArray) : Int := readN (s.data.toList.take (spL s.data.toList))
def rseqB (s : ByteArray) : Bool := decide (spL s.data.toList < s.size) && seqB (seqA s) (seqN s)
/-- The answer. -/
def rseqV (v : Bool) (s : ByteArray) : Value := if v = true then .tuple #[.agg #[.string (seqA s), .int .i64 (seqN s)], .bool true] else .tuple #[.agg #[.string ⟨#[]⟩, .int .i64 0], .bool false]
theorem seqA_list (s : ByteArray) : (seqA s).data.toList = s.data.toList.drop (spL s.data.toList + 1) := by simp [seqA, bytesOf]
theorem seqA_max (s : ByteArray) (h : s.size ≤ maxLen) : (seqA s).size ≤ maxLen := by
  have e : (seqA s).data.toList.length = (seqA s).size := by simp
  have e2 : s.data.toList.length = s.size := by simp
  rw [← e, seqA_list, List.length_drop]; omega
theorem ext_take (s : ByteArray) (k : Nat) : (s.extract 0 k).data.toList = s.data.toList.take k := by
  simp only [ByteArray.data_extract, Array.toList_extract, List.extract_eq_take_drop]
  simp
theorem ext_drop (s : ByteArray) (k : Nat) : s.extract k s.size = bytesOf (s.data.toList.drop k) := by
  apply str_of
  simp only [ByteArray.data_extract, Array.toList_extract, List.extract_eq_take_drop]
  exact List.take_of_length_le (by simp)
theorem word_no32 {l : List UInt8} (h : wordB l = true) : ∀ c ∈ l, c ≠ 32 := by
  unfold wordB at h
  simp only [Bool.and_eq_true] at h
  intro c hc e
  have := List.all_eq_true.mp h.2 c hc
  subst e
  revert this
  decide
theorem irq_f1 (s : ByteArray) (w : World) (hs : s.size ≤ maxLen) (h : ¬ spL s.data.toList < s.size) :
    Calls Try.prog 18 #[.string s] w fun e w' => e = .returned (rseqV false s) ∧ Below w.heap.size w w' := by
  have HS := Lib.hid hs
  have HN := Lib.hid h
  unfold maxLen at hs
  clear h
  go_enter Try.func18, Try.ntmps18
  go_wp2_with fail
  refine (isp_no _ _ HS.out HN.out).mono ?_
  rintro e w' ⟨rfl, rfl⟩
  go_wp2
  exact bodyPost_ret (v := .tuple #[.agg #[.string ⟨#[]⟩, .int .i64 0], .bool false]) (by simp [results, Try.results18, go_sem]) rfl ⟨rfl, (Below.refl _ _).alloc (Nat.le_refl _) _⟩

set_option maxHeartbeats 1000000 in
theorem irq_v (s : ByteArray) (v : Bool) (w : World) (hs : s.size ≤ maxLen) (h2 : spL s.data.toList < s.size) (hv : seqB (seqA s) (seqN s) = v) :
    Calls Try.prog 18 #[.string s] w fun e w' => e = .returned (rseqV v s) ∧ Below w.heap.size w w' := by
  have HS := Lib.hid hs
  unfold maxLen at hs
  obtain ⟨k, hk⟩ : ∃ k, spL s.data.toList = k := ⟨_, rfl⟩
  rw [hk] at h2
  have HK := Lib.hid hk
  have HM : Hid ((s.extract 0 k).size ≤ maxLen) := Lib.hid (by have := HS.out; simp; omega)
  have HR : Hid (readN (s.extract 0 k).data.toList = seqN s) := Lib.hid (by unfold seqN; rw [ext_take, HK.out])
  have HA : Hid (s.extract (k + 1) s.size = seqA s) := Lib.hid (by unfold seqA; rw [ext_drop, HK.out])
  have HAM := Lib.hid (seqA_max s HS.out)
  have HV := Lib.hid hv
  have hq : ¬ (k : Int) < 0 := by omega
  have wj : IntKind.i64.wrap ((k : Int) + 1) = (k : Int) + 1 := IntWalk.i64_in _ (by omega)
  have tj : ((k : Int) + 1).toNat = k + 1 := by omega
  have b3 : (0 : Int) ≤ (k : Int) + 1 := by omega
  have b4 : (k : Int) + 1 ≤ (s.size : Int) := by omega
  have b5 : (0 : Int) ≤ (k : Int) := by omega
  have b6 : (k : Int) ≤ (s.size : Int) := by omega
  have HCR : Hid (∀ W : World, Calls Try.prog 35 #[.string (s.extract 0 k)] W fun e w' => e = .returned (.int .i64 (seqN s)) ∧ W = w') := Lib.hid (fun W => by
    have := iread_any _ W HM.out
    rw [HR.out] at this
    exact this)
  clear hk hv
  go_enter Try.func18, Try.ntmps18
  go_wp2_with fail
  refine (isp_yes _ k _ HS.out HK.out h2).mono ?_
  rintro e w' ⟨rfl, rfl⟩
  go_wp2
  go_region_with (go_at_call 35; refine (HCR.out _).mono ?_; rintro e w' ⟨rfl, rfl⟩)
  all_goals
    clear wj tj
    go_wp2_with fail
    rw [HA.out]
    refine (isq_is v _ _ _ HAM.out HV.out).mono ?_
    rintro e w1 ⟨rfl, hb⟩
    obtain ⟨hcl, hfr⟩ := bcell hb
    have HB := Lib.hid (((bdrew (((Below.refl w.heap.size w).alloc (Nat.le_refl _) (.cells #[.string ⟨#[]⟩, .int .i64 0] 24)).alloc (by simp) (.cells #[.string (seqA s), .int .i64 (seqN s)] 24)))).trans (hb.mono (by simp; omega)))
    have HZ := Lib.hid hb.size
    clear hb
    have hsz : w.heap.size + 1 < w1.heap.size := by have := HZ.out; simp at this; omega
    have hc0 : w1.cell? ⟨w.heap.size, 0, none⟩ = some (.string ⟨#[]⟩) := by rw [hcl _ _ (by simp; omega)]; simp [go_sem]
    have hc1 : w1.cell? ⟨w.heap.size, 1, none⟩ = some (.int .i64 0) := by rw [hcl _ _ (by simp; omega)]; simp [go_sem]
    have HT := Lib.hid (set_two hc0 hc1)
    clear hc0 hc1
    cases v
    · go_wp2
      have hT := HT.out (.string ⟨#[]⟩) (.int .i64 0)
      refine bodyPost_ret (v := .tuple #[.agg #[.string ⟨#[]⟩, .int .i64 0], .bool false]) (by simp [results, Try.results18, go_sem, hT.1, hT.2]) rfl ⟨rfl, ?_⟩
      repeat (first | exact HB.out | refine Below.setCell ?_ (by simp) _)
    · go_wp2
      have hT := HT.out (.string (seqA s)) (.int .i64 (seqN s))
      refine bodyPost_ret (v := .tuple #[.agg #[.string (seqA s), .int .i64 (seqN s)], .bool true]) (by simp [results, Try.results18, go_sem, hT.1, hT.2]) rfl ⟨rfl, ?_⟩
      repeat (first | exact HB.out | refine Below.setCell ?_ (by simp) _)
theorem irq_any (s : ByteArray) (w : World) (hs : s.size ≤ maxLen) :
    Calls Try.prog 18 #[.string s] w fun e w' => e = .returned (rseqV (rseqB s) s) ∧ Below w.heap.size w w' := by
  by_cases h : spL s.data.toList < s.size
  · rw [show rseqB s = seqB (seqA s) (seqN s) by unfold rseqB; rw [decide_eq_true h]; rfl]
    exact irq_v s _ w hs h rfl
  · rw [show rseqB s = false by unfold rseqB; rw [decide_eq_false h]; rfl]
    exact irq_f1 s w hs h

/-- The model reads words: two of them. -/
theorem words_rseq (s : ByteArray) (h : (wordsS s).length ≠ 2) : rseqB s = false := by
  unfold rseqB
  rw [Bool.and_eq_false_iff]
  by_cases h1 : spL s.data.toList < s.size
  · refine .inr ?_
    rw [Bool.eq_false_iff]
    intro h2
    apply h
    have h3 := word_no32 (seq_word h2).1
    rw [seqA_list] at h3
    unfold wordsS
    rw [List.length_map]
    exact (words_two _).mpr ⟨by simpa using h1, h3⟩
  · exact .inl (decide_eq_false h1)
theorem words_seq (s : ByteArray) (h : (wordsS s).length = 2) : wordsS s = [bytesOf (s.data.toList.take (spL s.data.toList)), seqA s] ∧ spL s.data.toList < s.size := by
  unfold wordsS at h ⊢
  rw [List.length_map] at h
  rw [words_are h]
  exact ⟨rfl, by simpa using ((words_two _).mp h).1⟩
set_option maxHeartbeats 1000000 in
theorem srq_any (s : ByteArray) (w : World) (hs : s.size ≤ 1048576) :
    Calls Try.prog 20 #[.string s] w fun e w' => e = .returned (rseqV (rseqB s) s) ∧ Below w.heap.size w w' := by
  have HS := Lib.hid hs
  have HB0 := Lib.hid (bnew w (.cells #[.string ⟨#[]⟩, .int .i64 0] 24))
  have BX0 := Lib.hid (Holds.new w 24 #[.string ⟨#[]⟩, .int .i64 0])
  go_enter Try.func20, Try.ntmps20
  go_wp2_with fail
  refine (swords_any _ _ HS.out).mono ?_
  rintro e w1 ⟨A, c, n, rfl, hn, hn2, hown, hb1⟩
  have HN := Lib.hid hn
  have HO := Lib.hid hown
  have HB1 := Lib.hid (btrans HB0.out hb1)
  have BX1 := Lib.hid (BX0.out.call hb1)
  clear hn hown hb1
  by_cases h2 : n = 2
  · subst h2
    obtain ⟨hw, hsp⟩ := words_seq s HN.out.symm
    have HSP := Lib.hid hsp
    obtain ⟨v, hv⟩ : ∃ v, rseqB s = v := ⟨_, rfl⟩
    have hv2 : seqB (seqA s) (seqN s) = v := by rw [← hv]; unfold rseqB; rw [decide_eq_true hsp]; rfl
    have HVV := Lib.hid hv
    have HV := Lib.hid hv2
    have HAM := Lib.hid (seqA_max s (by unfold maxLen; omega))
    obtain ⟨g, hA, hgb, hgl⟩ := own_form HO.out (by omega)
    subst hA
    have hown := HO.out
    rw [hw] at hown
    have d0 := (own_at hown (j := 0) (u := .string (bytesOf (s.data.toList.take (spL s.data.toList)))) rfl).1
    have d1 := (own_at hown (j := 1) (u := .string (seqA s)) rfl).1
    have HCR : Hid (∀ W : World, Calls Try.prog 39 #[.string (bytesOf (s.data.toList.take (spL s.data.toList)))] W fun e w' => e = .returned (.int .i64 (seqN s)) ∧ Below W.heap.size W w') := Lib.hid (fun W => by
      have h1 : (bytesOf (s.data.toList.take (spL s.data.toList))).size ≤ maxLen := by
        show (s.data.toList.take (spL s.data.toList)).toArray.size ≤ maxLen
        have h2 : s.data.toList.length = s.size := by simp
        have h3 := HS.out
        rw [List.size_toArray, List.length_take, h2]
        unfold maxLen
        omega
      have := sread_any (bytesOf (s.data.toList.take (spL s.data.toList))) W h1
      rw [show (bytesOf (s.data.toList.take (spL s.data.toList))).data.toList = s.data.toList.take (spL s.data.toList) by simp [bytesOf]] at this
      exact this)
    have e0 : w1.cell? ⟨g, 0, none⟩ = some (.string (bytesOf (s.data.toList.take (spL s.data.toList)))) := d0
    have e1 : w1.cell? ⟨g, 1, none⟩ = some (.string (seqA s)) := d1
    have HO2 := Lib.hid hown
    clear hown hw hsp hv hv2 d0 d1
    go_wp2
    go_region_law (first | (go_simp; go_at_call 39; refine (HCR.out _).mono ?_; rintro e w2 ⟨rfl, hb2⟩; (first
      | (have BQ1 : Hid (Holds w2 w1.heap.size 24 #[.string ⟨#[]⟩, .int .i64 0]) := Lib.hid (Holds.call (Holds.new w1 24 #[.string ⟨#[]⟩, .int .i64 0]).drew hb2)
         have BR1 : Hid (Holds w2 w.heap.size 24 #[.string ⟨#[]⟩, .int .i64 0]) := Lib.hid (Holds.call (BX1.out.alloc (.cells #[.string ⟨#[]⟩, .int .i64 0] 24)).drew hb2)
         have HB2 : Hid (Below w.heap.size w w2) := Lib.hid (btrans (bdrew (balloc HB1.out (.cells #[.string ⟨#[]⟩, .int .i64 0] 24))) hb2)
         have f1 : w2.cell? ⟨g, 1, none⟩ = some (.string (seqA s)) := ((bcell hb2).1 _ _ (by show g < (w1.alloc _).heap.size; rw [World.size_alloc]; exact Nat.lt_succ_of_lt hgl)).trans ((Typ.cell_same (Below.heap_alloc w1 _ g hgl)).trans e1)
         have q0 := BQ1.out.cell 0 _ rfl
         have q1 := BQ1.out.cell 1 _ rfl
         have j0 := BQ1.out.free 0
         have j1 := BQ1.out.free 1
         clear hb2)
      | (have BR2 : Hid (Holds w2 w.heap.size 24 #[.string ⟨#[]⟩, .int .i64 0]) := Lib.hid (Holds.call BX1.out.drew hb2)
         have HB2' := Lib.hid (btrans (bdrew HB1.out) hb2)
         have f1 : w2.cell? ⟨g, 1, none⟩ = some (.string (seqA s)) := ((bcell hb2).1 _ _ hgl).trans e1
         have f2 : (w2.alloc (.cells #[.string ⟨#[]⟩, .int .i64 0] 24)).cell? ⟨g, 1, none⟩ = some (.string (seqA s)) := (Typ.cell_same (Below.heap_alloc w2 _ g (Nat.lt_of_lt_of_le hgl hb2.size))).trans f1
         clear hb2))))
    all_goals
      clear e0 e1 f1
      try clear f2
      first
        | (have BQ2 := Lib.hid ((BQ1.out.set 0 (.string (seqA s))).set 1 (.int .i64 (seqN s)))
           have BR2 := Lib.hid ((BR1.out.far (p := ⟨w1.heap.size, 0, none⟩) (by have := BX1.out.lt; simp; omega) (.string (seqA s))).far (p := ⟨w1.heap.size, 1, none⟩) (by have := BX1.out.lt; simp; omega) (.int .i64 (seqN s)))
           have HB3 : Hid (Below w.heap.size w ((w2.setCell ⟨w1.heap.size, 0, none⟩ (.string (seqA s))).setCell ⟨w1.heap.size, 1, none⟩ (.int .i64 (seqN s)))) := Lib.hid (by
             have := BX1.out.lt
             repeat (refine Below.setCell ?_ (by simp; omega) _)
             exact HB2.out)
           clear q0 q1 j0 j1)
        | (have BQ2 := Lib.hid (Holds.new w2 24 #[.string (seqA s), .int .i64 (seqN s)])
           have BR2 := Lib.hid (BR2.out.alloc (.cells #[.string (seqA s), .int .i64 (seqN s)] 24))
           have HB3 := Lib.hid (balloc HB2'.out (.cells #[.string (seqA s), .int .i64 (seqN s)] 24)))
      have q0 := BQ2.out.cell 0 (.string (seqA s)) rfl
      have q1 := BQ2.out.cell 1 (.int .i64 (seqN s)) rfl
      go_wp2_with fail
      refine (ssq_is v _ _ _ HAM.out HV.out).mono ?_
      rintro e w3 ⟨rfl, hb3⟩
      have BQ3 := Lib.hid (BQ2.out.call hb3)
      have BR3 := Lib.hid (BR2.out.call hb3)
      have HB4 := Lib.hid (btrans HB3.out hb3)
      clear q0 q1 hb3
      have q0 := BQ3.out.cell 0 (.string (seqA s)) rfl
      have q1 := BQ3.out.cell 1 (.int .i64 (seqN s)) rfl
      have r0 := BR3.out.cell 0 (.string ⟨#[]⟩) rfl
      have r1 := BR3.out.cell 1 (.int .i64 0) rfl
      have j0 := BR3.out.free 0
      have j1 := BR3.out.free 1
      cases v
      · go_wp2
        have hT := set_two r0 r1 (.string ⟨#[]⟩) (.int .i64 0)
        refine bodyPost_ret (v := .tuple #[.agg #[.string ⟨#[]⟩, .int .i64 0], .bool false]) (by simp [results, Try.results20, go_sem, hT.1, hT.2]) rfl ⟨by rw [HVV.out]; rfl, ?_⟩
        repeat (first | exact HB4.out | refine Below.setCell ?_ (by simp) _)
      · go_wp2
        have hT := set_two r0 r1 (.string (seqA s)) (.int .i64 (seqN s))
        refine bodyPost_ret (v := .tuple #[.agg #[.string (seqA s), .int .i64 (seqN s)], .bool true]) (by simp [results, Try.results20, go_sem, hT.1, hT.2]) rfl ⟨by rw [HVV.out]; rfl, ?_⟩
        repeat (first | exact HB4.out | refine Below.setCell ?_ (by simp) _)
  · have HR := Lib.hid (words_rseq s (by rw [← HN.out]; exact h2))
    have h2b : ¬ (n : Int) = 2 := by omega
    have h2c : ((n : Int) == 2) = false := by rw [beq_eq_false_iff_ne]; exact h2b
    have r0 := BX1.out.cell 0 _ rfl
    have r1 := BX1.out.cell 1 _ rfl
    have j0 := BX1.out.free 0
    have j1 := BX1.out.free 1
    have hT := Lib.hid (set_two r0 r1 (.string ⟨#[]⟩) (.int .i64 0))
    clear h2
    go_wp2
    have hT := hT.out
    refine bodyPost_ret (v := .tuple #[.agg #[.string ⟨#[]⟩, .int .i64 0], .bool false]) (by simp [results, Try.results20, go_sem, hT.1, hT.2]) rfl ⟨by rw [HR.out]; rfl, ?_⟩
    repeat (first | exact HB1.out | refine Below.setCell ?_ (by simp) _)
end Go.Proofs.Ytabkefacphhkmaa
