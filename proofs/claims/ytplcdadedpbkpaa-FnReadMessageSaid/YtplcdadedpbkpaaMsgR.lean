/- The contracts of the model's functions of chapter 4: reading messages. -/
import Derived.Test.YtplcdadedpbkpaaMsgL
import Derived.Test.YtplcdadedpbkpaaSplit
namespace Go.Proofs.Ytplcdadedpbkpaa
open Go.RowKit
set_option linter.unusedVariables false
set_option maxRecDepth 20000

def zeroM : MsgM := ⟨⟨#[]⟩, ⟨#[]⟩, ⟨#[]⟩, 0, [], []⟩
/-- The place of the first empty line; the number of lines, if there is none. -/
def emI (ls : List ByteArray) : Nat := ls.findIdx (fun s => s.toList == [])
def wordA (s : ByteArray) : ByteArray := s.extract 0 (spL s.data.toList)
def wordZ (s : ByteArray) : ByteArray := s.extract (spL s.data.toList + 1) s.size
/-- What some lines say: their first line s, the lines of heads, the body. -/
def saidM (s : ByteArray) (hs : List ByteArray) (bs : List ByteArray) : MsgM :=
  if ((wordA s).toList == ansL) = true then ⟨⟨#[]⟩, ⟨#[]⟩, ⟨#[]⟩, readN (wordZ s).data.toList, readR hs, bs⟩ else ⟨wordA s, readU (wordZ s), readH (wordZ s), 0, readR hs, bs⟩
def saidB (s : ByteArray) (hs : List ByteArray) (bs : List ByteArray) : Bool :=
  decide (spL s.data.toList < s.size) && readB hs && (((wordA s).toList == ansL) || addrB (wordZ s).data.toList) && msgB (saidM s hs bs)
def rmB (ls : List ByteArray) : Bool := decide (0 < emI ls) && decide (emI ls < ls.length) && saidB (ls.headD ⟨#[]⟩) ((ls.take (emI ls)).drop 1) (ls.drop (emI ls + 1))
def rmM (ls : List ByteArray) : MsgM := if rmB ls = true then saidM (ls.headD ⟨#[]⟩) ((ls.take (emI ls)).drop 1) (ls.drop (emI ls + 1)) else zeroM
/-- A message as an answer, its rows new. -/
def MsgRes (w : World) (r : MsgM) (v : Bool) (e : Ending) (w' : World) : Prop :=
  ∃ A4 c4 A5 c5, e = .returned (.tuple #[.agg #[.string r.x0, .string r.x1, .string r.x2, .int .i64 r.x3, .slice A4 r.h.length c4, .slice A5 r.b.length c5], .bool v]) ∧
    w'.ownsRow w.heap.size 68 2 (.slice A4 r.h.length c4) r.h.length (flat headC r.h) ∧ w'.ownsRow w.heap.size 9 1 (.slice A5 r.b.length c5) r.b.length (flat strC r.b) ∧
    (∀ k, (Value.slice A4 r.h.length c4).ownBlock = some k → (Value.slice A5 r.b.length c5).ownBlock ≠ some k) ∧ Below w.heap.size w w'
theorem MsgRes.zero {w w' : World} (hb : Below w.heap.size w w') : MsgRes w zeroM false (.returned (.tuple #[.agg #[.string ⟨#[]⟩, .string ⟨#[]⟩, .string ⟨#[]⟩, .int .i64 0, .slice none 0 0, .slice none 0 0], .bool false])) w' :=
  ⟨none, 0, none, 0, rfl, ⟨rfl, .inl ⟨rfl, rfl⟩⟩, ⟨rfl, .inl ⟨rfl, rfl⟩⟩, fun k h => by simp [Value.ownBlock] at h, hb⟩

theorem wordA_list (s : ByteArray) : (wordA s).data.toList = s.data.toList.take (spL s.data.toList) := by
  unfold wordA; simp only [ByteArray.data_extract, Array.toList_extract, List.extract_eq_take_drop]; simp
theorem wordZ_list (s : ByteArray) : (wordZ s).data.toList = s.data.toList.drop (spL s.data.toList + 1) := by
  unfold wordZ; simp only [ByteArray.data_extract, Array.toList_extract, List.extract_eq_take_drop]; exact List.take_of_length_le (by simp)
theorem word_no_sp {l : List UInt8} (h : wordB l = true) : ∀ c ∈ l, c ≠ 32 := by
  intro c hc e
  unfold wordB at h
  rw [Bool.and_eq_true] at h
  have := List.all_eq_true.mp h.2 c hc
  rw [e] at this
  exact absurd this (by decide)
theorem addr_no_sp {l : List UInt8} (h : addrB l = true) : ∀ c ∈ l, c ≠ 32 := by
  unfold addrB at h
  simp only [Bool.and_eq_true, decide_eq_true_eq] at h
  obtain ⟨⟨⟨h1, h2⟩, h3⟩, h4⟩ := h
  rw [← addrT_of h1 h2]
  unfold addrT
  intro c hc
  simp only [List.mem_append, List.mem_cons, List.not_mem_nil, or_false] at hc
  rcases hc with ((hc | hc) | hc) | hc
  · rcases hc with rfl | rfl | rfl | rfl <;> decide
  · exact word_no_sp h3 c hc
  · subst hc; decide
  · exact word_no_sp h4 c hc
theorem num_no_sp {l : List UInt8} (h : 0 ≤ readN l) : ∀ c ∈ l, c ≠ 32 := by
  intro c hc e
  have h1 := textN_readN l h
  unfold textN at h1
  split at h1
  · have h2 := numT_all (readN l).toNat
    rw [h1] at h2
    have := List.all_eq_true.mp h2 c hc
    rw [e] at this
    exact absurd this (by decide)
  · rw [← h1] at hc; simp at hc
theorem said_words {s : ByteArray} {hs bs : List ByteArray} (h : saidB s hs bs = true) : (wordsL s.data.toList).length = 2 := by
  unfold saidB at h
  simp only [Bool.and_eq_true, decide_eq_true_eq] at h
  obtain ⟨⟨⟨h1, _⟩, h3⟩, h4⟩ := h
  refine (words_two _).mpr ⟨by simpa using h1, ?_⟩
  rw [← wordZ_list]
  by_cases ha : ((wordA s).toList == ansL) = true
  · unfold saidM at h4
    rw [if_pos ha] at h4
    have h5 := (msgB_parts h4).1
    rw [Bool.or_eq_true] at h5
    rcases h5 with h5 | h5
    · exact absurd h5 (by unfold reqB; simp [wordB_nil])
    · unfold ansB at h5
      simp only [Bool.and_eq_true, decide_eq_true_eq] at h5
      exact num_no_sp (by have := h5.1.2.1; show 0 ≤ readN _; omega)
  · rw [Bool.or_eq_true] at h3
    exact addr_no_sp (h3.resolve_left ha)
theorem said_two (s : ByteArray) (h : (wordsS s).length = 2) : wordsS s = [wordA s, wordZ s] ∧ spL s.data.toList < s.size := by
  unfold wordsS at h ⊢
  rw [List.length_map] at h
  have h1 := words_are h
  have h2 := (words_two _).mp h
  refine ⟨?_, by simpa using h2.1⟩
  rw [h1, ← wordA_list, ← wordZ_list]
  rfl
theorem headsB_read {hs : List ByteArray} (h : readB hs = true) : headsB (readR hs) = true := by
  unfold readR
  rw [if_pos h]
  unfold readB at h
  rw [Bool.and_eq_true] at h
  exact h.2
theorem heads_valid_max {hs : List HeadM} (h : headsB hs = true) : headMax hs := by
  intro p hp
  obtain ⟨k, hk, he⟩ := List.getElem_of_mem hp
  have h1 := headB_size (headsB_at h (by rw [List.getElem?_eq_getElem hk, he]))
  exact ⟨by show (p.x0.size : Int) ≤ (maxLen : Int); unfold maxLen; omega, by show (p.x1.size : Int) ≤ (maxLen : Int); unfold maxLen; omega⟩
theorem readU_max (s : ByteArray) (h : s.size ≤ maxLen) : (readU s).size ≤ maxLen ∧ (readH s).size ≤ maxLen := by
  unfold readU readH
  split
  · exact ⟨userS_max s h, hostS_max s h⟩
  · exact ⟨Nat.zero_le _, Nat.zero_le _⟩

set_option maxHeartbeats 8000000 in
theorem srm_any (A : Option Addr) (n c : Nat) (ls : List ByteArray) (w : World) (hn : n = ls.length) (hc : n ≤ 1048576) (hcap : n ≤ c) (hr : Sees w w.heap.size 1 A n (flat strC ls)) (hm : ∀ s ∈ ls, s.size ≤ 1048576) (r : MsgM) (v : Bool) (hrr : r = rmM ls) (hv : v = rmB ls) :
    Calls Try.prog 6 #[.slice A n c] w (MsgRes w r v) := by
  have HR := Lib.hid hr
  have HN := Lib.hid hn
  have HM := Lib.hid hm
  have HRR := Lib.hid hrr
  have HV := Lib.hid hv
  have HR0 := Lib.hid (hr.alloc (Nat.le_refl _) (.cells #[.string ⟨#[]⟩, .string ⟨#[]⟩, .string ⟨#[]⟩, .int .i64 0, .slice none 0 0, .slice none 0 0] 29))
  have BR0 := Lib.hid (Holds.new w 29 #[.string ⟨#[]⟩, .string ⟨#[]⟩, .string ⟨#[]⟩, .int .i64 0, .slice none 0 0, .slice none 0 0])
  have HB0 := Lib.hid (bnew w (.cells #[.string ⟨#[]⟩, .string ⟨#[]⟩, .string ⟨#[]⟩, .int .i64 0, .slice none 0 0, .slice none 0 0] 29))
  obtain ⟨i0, hi0, hz0, hz1, hz2⟩ := info_parts info_string
  have hno : ∀ w' : World, Below w.heap.size w w' → rmB ls = false → MsgRes w r v (.returned (.tuple #[.agg #[.string ⟨#[]⟩, .string ⟨#[]⟩, .string ⟨#[]⟩, .int .i64 0, .slice none 0 0, .slice none 0 0], .bool false])) w' := by
    intro w' hb hf
    have h1 := HRR.out
    unfold rmM at h1
    rw [hf, if_neg (by simp)] at h1
    have h2 := HV.out
    rw [hf] at h2
    subst h1; subst h2
    exact MsgRes.zero hb
  have HNO := Lib.hid hno
  clear hr hn hm hrr hv hno
  go_enter Try.func6, Try.ntmps6
  go_wp2
  go_loop [4] (fun a => ∃ k : Nat, k ≤ n ∧ a = .int .i64 k ∧ ∀ s ∈ ls.take k, (s.toList == []) = false) (fun a => n - (intOf a).toNat)
  case atStart => exact ⟨0, Nat.zero_le _, rfl, fun p hp => by simp at hp⟩
  case round =>
    obtain ⟨k, hk, rfl, hall⟩ := hrel
    have HA := Lib.hid hall
    clear hall
    by_cases hcont : ∃ s, ls[k]? = some s ∧ (s.toList == []) = false
    · obtain ⟨s, hp, he⟩ := hcont
      have hlt : k < n := by rw [HN.out]; exact (List.getElem?_eq_some_iff.mp hp).1
      obtain ⟨b, off, rfl, hb, hcell⟩ := HR0.out.2 (by omega)
      have c0 := str_cell hcell hp
      have HP := Lib.hid hp
      have HE := Lib.hid he
      clear hcell hb hp
      go_wp2
      go_round
      case rel => exact ⟨k + 1, by omega, by go_num, mem_more HP.out HA.out HE.out⟩
      case measure => simp [intOf]; omega
    · by_cases hkn : k = n
      · have hem : emI ls = ls.length := by
          unfold emI
          rw [List.findIdx_eq_length]
          intro x hx
          have := HA.out
          rw [take_all HN.out (by omega)] at this
          exact this x hx
        have hf : rmB ls = false := by unfold rmB; rw [hem, decide_eq_false (p := ls.length < ls.length) (by omega), Bool.and_false, Bool.false_and]
        have HF := Lib.hid hf
        have hk0 : ((k : Int) == (n : Int)) = true := by rw [beq_iff_eq]; omega
        have hnl : ¬ k < n := by omega
        clear hcont hem hf hkn
        go_wp2
        all_goals
          refine bodyPost_ret (v := .tuple #[.agg #[.string ⟨#[]⟩, .string ⟨#[]⟩, .string ⟨#[]⟩, .int .i64 0, .slice none 0 0, .slice none 0 0], .bool false]) ?_ rfl ?_
          · simp [results, Try.results6, go_sem]
          · exact HNO.out _ HB0.out HF.out
      · have hlt : k < n := by omega
        obtain ⟨s, hp⟩ := get_of HN.out hlt
        have he : (s.toList == []) = true := by
          by_cases h : (s.toList == []) = true
          · exact h
          · exact absurd ⟨s, hp, by simpa using h⟩ hcont
        have hem : emI ls = k := by
          unfold emI
          obtain ⟨h1, h2⟩ := List.getElem?_eq_some_iff.mp hp
          rw [List.findIdx_eq h1, h2]
          refine ⟨he, fun j hj => ?_⟩
          have := HA.out (ls[j]'(by omega)) (List.mem_of_getElem? (i := j) (by rw [List.getElem?_take, if_pos hj]; exact List.getElem?_eq_getElem (by omega)))
          simpa using this
        obtain ⟨b, off, rfl, hb, hcell⟩ := HR0.out.2 (by omega)
        have c0 := str_cell hcell hp
        have HEM := Lib.hid hem
        have hkn2 : ((k : Int) == (n : Int)) = false := beq_eq_false_iff_ne.mpr (by omega)
        obtain ⟨s0, hp0⟩ := get_of HN.out (show 0 < n by omega)
        have c1 := str_cell hcell hp0
        rw [Nat.add_zero] at c1
        have HP0 := Lib.hid hp0
        by_cases hk0 : k = 0
        · have hf : rmB ls = false := by unfold rmB; rw [hem, decide_eq_false (p := 0 < k) (by omega), Bool.false_and, Bool.false_and]
          have HF := Lib.hid hf
          subst hk0
          rw [Nat.add_zero] at c0
          clear hcont hem hf hkn hb hcell hp hp0 c1 hkn2
          have hn0 : (0 : Int) < (n : Int) := by omega
          go_wp2
          refine bodyPost_ret (v := .tuple #[.agg #[.string ⟨#[]⟩, .string ⟨#[]⟩, .string ⟨#[]⟩, .int .i64 0, .slice none 0 0, .slice none 0 0], .bool false]) ?_ rfl ?_
          · simp [results, Try.results6, go_sem]
          · exact HNO.out _ HB0.out HF.out
        · have hk0 : ((k : Int) == 0) = false := beq_eq_false_iff_ne.mpr (by omega)
          have hk1 : (1 : Int) ≤ (k : Int) := by omega
          have hkc : (k : Int) ≤ (c : Int) := by omega
          clear hcont hem hkn hb hcell hp hp0
          go_wp2_with fail
          refine (swords_any s0 _ (HM.out s0 (List.mem_of_getElem? HP0.out))).mono ?_
          rintro e w1 ⟨Aw, cw, nw, rfl, hnw, hnw2, hown1, hb1⟩
          have HNW := Lib.hid hnw
          have BR1 := Lib.hid (BR0.out.call hb1)
          have HB1 := Lib.hid (btrans HB0.out hb1)
          have HW1 := Lib.hid (own_more (base' := w.heap.size + 1) hown1 (by simp))
          clear hnw hb1 hown1
          have hsl : Sees w w.heap.size 1 (some ⟨b, off + 1, none⟩) (k - 1) (flat strC ((ls.take k).drop 1)) := by
            have := (HR.out.upto (k := k) (by omega)).cut (k := 1) (by omega)
            rw [← flat_take strC_len, Nat.mul_one] at this
            have e := flat_drop strC_len (ls.take k) 1
            rw [Nat.mul_one] at e
            rw [e]; exact this
          obtain ⟨hl, hhl⟩ : ∃ hl, hl = (ls.take k).drop 1 := ⟨_, rfl⟩
          rw [← hhl] at hsl
          have HHL := Lib.hid hhl
          have hlm : ∀ x ∈ hl, x.size ≤ 1048576 := fun x hx => HM.out x (List.mem_of_mem_take (List.mem_of_mem_drop (by rw [← hhl]; exact hx)))
          have hll : k - 1 = hl.length := by rw [hhl, List.length_drop, List.length_take, ← HN.out]; omega
          have HLM := Lib.hid hlm
          have HLL := Lib.hid hll
          have HSL := Lib.hid hsl
          obtain ⟨rh, hrh⟩ : ∃ rh, rh = readR hl := ⟨_, rfl⟩
          obtain ⟨vh, hvh⟩ : ∃ vh, vh = readB hl := ⟨_, rfl⟩
          have HRH := Lib.hid hrh
          have HVH := Lib.hid hvh
          clear hhl hlm hll hsl hrh hvh
          go_wp2_with fail
          refine (srd_any _ (k - 1) (c - 1) hl _ HLL.out (by unfold maxLen; omega) ((HSL.out.below HB1.out (Nat.le_refl _)).more HB1.out.size) HLM.out rh vh HRH.out HVH.out).mono ?_
          rintro e w2 ⟨Ah, ch, rfl, hown2, hb2⟩
          have BR2 := Lib.hid (BR1.out.call hb2)
          have HB2 := Lib.hid (btrans HB1.out hb2)
          have HW2 := Lib.hid (own_call HW1.out hb2)
          have hzz1 := BR1.out.lt
          have hzz2 := hb2.size
          have HH2 := Lib.hid (own_more (base' := w.heap.size + 1) hown2 (by omega))
          clear hb2 hown2
          have hbad : saidB s0 hl (ls.drop (k + 1)) = false → rmB ls = false := by
            intro h
            unfold rmB
            rw [HEM.out, ← HHL.out, show ls.headD ⟨#[]⟩ = s0 by
              have := HP0.out
              cases ls with
              | nil => simp at this
              | cons x y => simpa using this, h, Bool.and_false]
          have HBAD := Lib.hid hbad
          clear hbad
          cases vh
          · have HF : Hid (rmB ls = false) := Lib.hid (HBAD.out (by unfold saidB; rw [← HVH.out]; simp))
            obtain ⟨r0, r1, r2, r3, r4, r5⟩ := six_cells BR2.out
            obtain ⟨k0, k1, k2, k3, k4, k5⟩ := six_free BR2.out
            go_wp2
            have hq := six_put BR2.out (.string ⟨#[]⟩) (.string ⟨#[]⟩) (.string ⟨#[]⟩) (.int .i64 0) (.slice none 0 0) (.slice none 0 0)
            refine bodyPost_ret (v := .tuple #[.agg #[.string ⟨#[]⟩, .string ⟨#[]⟩, .string ⟨#[]⟩, .int .i64 0, .slice none 0 0, .slice none 0 0], .bool false]) ?_ rfl ?_
            · simp [results, Try.results6, go_sem, hq.1, hq.2.1, hq.2.2.1, hq.2.2.2.1, hq.2.2.2.2.1, hq.2.2.2.2.2]
            · refine HNO.out _ ?_ HF.out
              repeat (refine Below.setCell ?_ (by simp) _)
              exact HB2.out

          · by_cases hn2 : nw = 2
            · have hws : (wordsS s0).length = 2 := by rw [← HNW.out]; exact hn2
              obtain ⟨hw1, hw2⟩ := said_two s0 hws
              subst hn2
              have hown := HW2.out
              rw [hw1] at hown
              have HW2 := Lib.hid hown
              have HSP := Lib.hid hw2
              have HHB : Hid (headsB rh = true) := Lib.hid (by rw [HRH.out]; exact headsB_read HVH.out.symm)
              have HHLT : Hid (∀ k, (Value.slice Ah rh.length ch).ownBlock = some k → k < w2.heap.size) := Lib.hid (fun k hk => (HH2.out.lt k hk).2)
              obtain ⟨gw, hA, hgw1, hgw2⟩ := own_form HW2.out (by omega)
              subst hA
              obtain ⟨bs, hbs⟩ : ∃ bs, bs = ls.drop (k + 1) := ⟨_, rfl⟩
              have HBL : Hid (n - (k + 1) = bs.length) := Lib.hid (by rw [hbs, List.length_drop, ← HN.out])
              have HBM : Hid (∀ s ∈ bs, s.size ≤ maxLen) := Lib.hid (by intro x hx; rw [hbs] at hx; have := HM.out x (List.mem_of_mem_drop hx); unfold maxLen; omega)
              have hsb : Sees w w.heap.size 1 (some ⟨b, off + (k + 1), none⟩) (n - (k + 1)) (flat strC bs) := by
                have := HR.out.cut (k := k + 1) (by omega)
                have e := flat_drop strC_len ls (k + 1)
                rw [Nat.mul_one] at e this
                rw [hbs, e]; exact this
              have HSB := Lib.hid hsb
              have hs0 : ls.headD ⟨#[]⟩ = s0 := by
                have := HP0.out
                cases ls with
                | nil => simp at this
                | cons x y => simpa using this
              have HRB : Hid (rmB ls = saidB s0 hl bs) := Lib.hid (by
                unfold rmB
                rw [HEM.out, ← HHL.out, ← hbs, hs0, decide_eq_true (p := 0 < k) (by omega), decide_eq_true (p := k < ls.length) (by rw [← HN.out]; exact hlt)]
                rfl)
              have HSD : Hid (saidM (ls.headD ⟨#[]⟩) ((ls.take (emI ls)).drop 1) (ls.drop (emI ls + 1)) = saidM s0 hl bs) := Lib.hid (by rw [HEM.out, ← HHL.out, ← hbs, hs0])
              rw [← hbs] at HBAD
              have HBS := Lib.hid hbs
              clear hws hw1 hw2 hown hbs hsb hs0
              have HLE := Lib.hid (World.ownsRow_lit (base := w2.heap.size) (e := 9) (size := 1) w2 #[] 0 (Nat.le_refl _) (Nat.zero_le _) rfl)
              have hkw : IntKind.i64.wrap ((k : Int) + 1) = (k : Int) + 1 := IntWalk.i64_in _ (by omega)
              have hkt : ((k : Int) + 1).toNat = k + 1 := by omega
              have hkl : (k : Int) + 1 ≤ (n : Int) := by omega
              have hk0' : (0 : Int) ≤ (k : Int) + 1 := by omega
              have hw0 := HM.out s0 (List.mem_of_getElem? HP0.out)
              have HWZ : Hid ((wordZ s0).size ≤ maxLen) := Lib.hid (by unfold wordZ maxLen; simp; omega)
              have HWA : Hid ((wordA s0).size ≤ maxLen) := Lib.hid (by unfold wordA maxLen; simp; omega)
              clear hw0
              by_cases ha : ((wordA s0).toList == ansL) = true
              · by_cases hck : c = k + 1
                · have hn0 : n - (k + 1) = 0 := by omega
                  have HBS0 : Hid (bs = []) := Lib.hid (List.eq_nil_of_length_eq_zero (by rw [← HBL.out, hn0]))
                  have HBL : Hid (0 = bs.length) := Lib.hid (by rw [HBS0.out]; rfl)
                  have HA2 := Lib.hid ha
                  have HSM : Hid (saidM s0 hl bs = ⟨⟨#[]⟩, ⟨#[]⟩, ⟨#[]⟩, readN (wordZ s0).data.toList, rh, bs⟩) := Lib.hid (by unfold saidM; rw [if_pos ha, HRH.out])
                  unfold ansL at ha
                  go_wp2_with (at_builtin; refine wpList_append_list rfl _ _ 23 rfl w2.heap.size 9 1 16 0 0 0 w2.heap.size i0 _ (.slice (some ⟨w2.heap.size, 0, none⟩) 0 0) [] [] (some ⟨b, off, none⟩) Try.underlying23 hi0 hz0 hz1 hz2 rfl (by omega) rfl rfl HLE.out ⟨rfl, fun h => absurd h (by omega)⟩ (fun u hu => by simp at hu) (by unfold maxLen; omega) (by omega) (by simp) ?_; intro v3 w3 hown3 hg3 hat3; obtain ⟨Ab, cb, hv3⟩ := own_slice hown3; subst hv3; have HBo3 := Lib.hid hown3; have HG3 := Lib.hid hg3; clear hown3 hg3 hat3; have e0 := (own_at (((HW2.out.alloc (.cells #[] 9)).kept HG3.out (.inr (by simp [Value.ownBlock]; omega))).alloc (.cells #[.string ⟨#[]⟩, .string ⟨#[]⟩, .string ⟨#[]⟩, .int .i64 0, .slice Ah rh.length ch, .slice Ab 0 cb] 29)) (j := 0) (u := .string (wordA s0)) rfl).1; have e1 := (own_at (((HW2.out.alloc (.cells #[] 9)).kept HG3.out (.inr (by simp [Value.ownBlock]; omega))).alloc (.cells #[.string ⟨#[]⟩, .string ⟨#[]⟩, .string ⟨#[]⟩, .int .i64 0, .slice Ah rh.length ch, .slice Ab 0 cb] 29)) (j := 1) (u := .string (wordZ s0)) rfl).1)
                  have hh : w3.ownsRow w2.heap.size 9 1 (.slice Ab 0 cb) 0 (flat strC bs) := by rw [HBS0.out]; exact HBo3.out
                  have HBo3 := Lib.hid hh
                  have HBLT : Hid (∀ j, (Value.slice Ab 0 cb).ownBlock = some j → j < w3.heap.size) := Lib.hid (fun j hj => (HBo3.out.lt j hj).2)
                  clear hh
                  have BR3 := Lib.hid ((BR2.out.alloc (.cells #[] 9)).grown HG3.out (show w.heap.size ≠ w2.heap.size by omega))
                  have HB3 := Lib.hid ((HB2.out.alloc (by omega) (.cells #[] 9)).grown HG3.out (by simp; omega) (fun g hg => by simp [Value.ownBlock] at hg; omega))
                  have HW3 := Lib.hid ((HW2.out.alloc (.cells #[] 9)).kept HG3.out (.inr (by simp [Value.ownBlock]; omega)))
                  have HH3 := Lib.hid (own_gr (HH2.out.alloc (.cells #[] 9)) (Gr.of_grown HG3.out) (fun j hj e => by have h0 := HHLT.out j hj; simp [Value.ownBlock] at e; omega))
                  have BM4 := Lib.hid (Holds.new w3 29 #[.string ⟨#[]⟩, .string ⟨#[]⟩, .string ⟨#[]⟩, .int .i64 0, .slice Ah rh.length ch, .slice Ab 0 cb])
                  have BR4 := Lib.hid (BR3.out.alloc (.cells #[.string ⟨#[]⟩, .string ⟨#[]⟩, .string ⟨#[]⟩, .int .i64 0, .slice Ah rh.length ch, .slice Ab 0 cb] 29))
                  have hz3 := HB3.out.size
                  have hz3b := HG3.out.size
                  simp at hz3b
                  have hl3 := BR3.out.lt
                  have HB4 := Lib.hid (HB3.out.alloc hz3 (.cells #[.string ⟨#[]⟩, .string ⟨#[]⟩, .string ⟨#[]⟩, .int .i64 0, .slice Ah rh.length ch, .slice Ab 0 cb] 29))
                  have HW4 := Lib.hid (HW3.out.alloc (.cells #[.string ⟨#[]⟩, .string ⟨#[]⟩, .string ⟨#[]⟩, .int .i64 0, .slice Ah rh.length ch, .slice Ab 0 cb] 29))
                  have HH4 := Lib.hid (HH3.out.alloc (.cells #[.string ⟨#[]⟩, .string ⟨#[]⟩, .string ⟨#[]⟩, .int .i64 0, .slice Ah rh.length ch, .slice Ab 0 cb] 29))
                  have HBo4 := Lib.hid (HBo3.out.alloc (.cells #[.string ⟨#[]⟩, .string ⟨#[]⟩, .string ⟨#[]⟩, .int .i64 0, .slice Ah rh.length ch, .slice Ab 0 cb] 29))
                  refine (sread_any _ _ (by have := HM.out s0 (List.mem_of_getElem? HP0.out); unfold wordZ maxLen; simp; omega)).mono ?_
                  rintro e w5 ⟨rfl, hb5⟩
                  have BM5 := Lib.hid (BM4.out.call hb5)
                  have BR5 := Lib.hid (BR4.out.call hb5)
                  have HB5 := Lib.hid (HB4.out.trans (hb5.mono (by simp; omega)))
                  have HH5 := Lib.hid (own_call HH4.out hb5)
                  have HBo5 := Lib.hid (own_call HBo4.out hb5)
                  have hz5 := hb5.size
                  simp at hz5
                  clear hb5 e0 e1
                  have BM6 : Hid (Holds (w5.setCell ⟨w3.heap.size, 3, none⟩ (.int .i64 (readN (wordZ s0).data.toList))) w3.heap.size 29 #[.string ⟨#[]⟩, .string ⟨#[]⟩, .string ⟨#[]⟩, .int .i64 (readN (wordZ s0).data.toList), .slice Ah rh.length ch, .slice Ab 0 cb]) := Lib.hid (BM5.out.set 3 _)
                  have BR6 := Lib.hid (BR5.out.far (p := ⟨w3.heap.size, 3, none⟩) (by simp; omega) (.int .i64 (readN (wordZ s0).data.toList)))
                  have HB6 := Lib.hid (HB5.out.setCell (p := ⟨w3.heap.size, 3, none⟩) (by simp; omega) (.int .i64 (readN (wordZ s0).data.toList)))
                  have R6H := Lib.hid (own_far HH5.out (p := ⟨w3.heap.size, 3, none⟩) (fun j hj => by have h0 := HHLT.out j hj; simp; omega) (.int .i64 (readN (wordZ s0).data.toList)))
                  have R6B := Lib.hid (own_far HBo5.out (p := ⟨w3.heap.size, 3, none⟩) (fun j hj => by have h0 := HBLT.out j hj; simp; omega) (.int .i64 (readN (wordZ s0).data.toList)))
                  have n3 := BM5.out.cell 3 _ rfl
                  have nf3 := BM5.out.free 3
                  obtain ⟨m0, m1, m2, m3, m4, m5⟩ := six_cells BM6.out
                  obtain ⟨vm, hvm⟩ : ∃ vm, msgB ⟨⟨#[]⟩, ⟨#[]⟩, ⟨#[]⟩, readN (wordZ s0).data.toList, rh, bs⟩ = vm := ⟨_, rfl⟩
                  have HVM := Lib.hid hvm
                  have hcv := smv_any (⟨#[]⟩) (⟨#[]⟩) (⟨#[]⟩) (readN (wordZ s0).data.toList) Ah rh.length ch rh Ab 0 cb bs (w5.setCell ⟨w3.heap.size, 3, none⟩ (.int .i64 (readN (wordZ s0).data.toList))) (Nat.zero_le _) (Nat.zero_le _) (Nat.zero_le _) rfl (by have := headsB_len HHB.out; unfold maxLen; omega) (heads_valid_max HHB.out) HBL.out (by unfold maxLen; omega) HBM.out (Sees.of_own R6H.out) (Sees.of_own R6B.out)
                  rw [hvm] at hcv
                  have HCV := Lib.hid hcv
                  clear hvm hcv
                  go_wp2_with fail
                  refine HCV.out.mono ?_
                  rintro e w9 ⟨rfl, hb9⟩
                  have BR9 := Lib.hid (BR6.out.call hb9)
                  have BM9 := Lib.hid (BM6.out.call hb9)
                  have HB9 := Lib.hid (HB6.out.trans (hb9.mono (by have := HB6.out.size; omega)))
                  have HH9 := Lib.hid (own_call R6H.out hb9)
                  have HBo9 := Lib.hid (own_call R6B.out hb9)
                  clear hb9 m0 m1 m2 m3 m4 m5
                  cases vm
                  · have HF : Hid (rmB ls = false) := Lib.hid (HBAD.out (by unfold saidB; rw [HSM.out, HVM.out, Bool.and_false]))
                    obtain ⟨r0, r1, r2, r3, r4, r5⟩ := six_cells BR9.out
                    obtain ⟨k0, k1, k2, k3, k4, k5⟩ := six_free BR9.out
                    go_wp2
                    have hq := six_put BR9.out (.string ⟨#[]⟩) (.string ⟨#[]⟩) (.string ⟨#[]⟩) (.int .i64 0) (.slice none 0 0) (.slice none 0 0)
                    refine bodyPost_ret (v := .tuple #[.agg #[.string ⟨#[]⟩, .string ⟨#[]⟩, .string ⟨#[]⟩, .int .i64 0, .slice none 0 0, .slice none 0 0], .bool false]) ?_ rfl ?_
                    · simp [results, Try.results6, go_sem, hq.1, hq.2.1, hq.2.2.1, hq.2.2.2.1, hq.2.2.2.2.1, hq.2.2.2.2.2]
                    · refine HNO.out _ ?_ HF.out
                      repeat (refine Below.setCell ?_ (by simp) _)
                      exact HB9.out

                  · have hrt : rmB ls = true := by
                      rw [HRB.out]; unfold saidB; rw [HSM.out, HVM.out, decide_eq_true HSP.out, ← HVH.out, HA2.out]; rfl
                    obtain rfl : r = ⟨⟨#[]⟩, ⟨#[]⟩, ⟨#[]⟩, readN (wordZ s0).data.toList, rh, bs⟩ := by rw [HRR.out]; unfold rmM; rw [if_pos hrt, HSD.out, HSM.out]
                    obtain rfl : v = true := by rw [HV.out, hrt]
                    obtain ⟨r0, r1, r2, r3, r4, r5⟩ := six_cells BR9.out
                    obtain ⟨k0, k1, k2, k3, k4, k5⟩ := six_free BR9.out
                    obtain ⟨m0, m1, m2, m3, m4, m5⟩ := six_cells BM9.out
                    clear hrt
                    go_wp2
                    have hq := six_put BR9.out (.string (⟨#[]⟩)) (.string (⟨#[]⟩)) (.string (⟨#[]⟩)) (.int .i64 (readN (wordZ s0).data.toList)) (.slice Ah rh.length ch) (.slice Ab 0 cb)
                    refine bodyPost_ret (v := .tuple #[.agg #[.string (⟨#[]⟩), .string (⟨#[]⟩), .string (⟨#[]⟩), .int .i64 (readN (wordZ s0).data.toList), .slice Ah rh.length ch, .slice Ab 0 cb], .bool true]) ?_ rfl ?_
                    · simp [results, Try.results6, go_sem, hq.1, hq.2.1, hq.2.2.1, hq.2.2.2.1, hq.2.2.2.2.1, hq.2.2.2.2.2]
                    · refine ⟨Ah, ch, Ab, cb, by rw [← HBL.out], ?_, ?_, ?_, ?_⟩
                      · show World.ownsRow _ w.heap.size 68 2 (.slice Ah rh.length ch) rh.length (flat headC rh)
                        repeat (refine own_far ?_ (fun k hk => by have := HH9.out.lt k hk; simp; omega) _)
                        exact own_more HH9.out (by omega)
                      · show World.ownsRow _ w.heap.size 9 1 (.slice Ab bs.length cb) bs.length (flat strC bs)
                        rw [← HBL.out]
                        repeat (refine own_far ?_ (fun k hk => by have := HBo9.out.lt k hk; simp; omega) _)
                        exact own_more HBo9.out (by omega)
                      · intro j h1 h2
                        have h3 := HHLT.out j h1
                        have h4 : (Value.slice Ab 0 cb).ownBlock = some j := by rw [HBL.out]; exact h2
                        have h5 := (HBo9.out.lt j h4).1
                        omega
                      · repeat (refine Below.setCell ?_ (by simp) _)
                        exact HB9.out

                · have hck1 : k + 1 < c := by omega
                  have HA2 := Lib.hid ha
                  have HSM : Hid (saidM s0 hl bs = ⟨⟨#[]⟩, ⟨#[]⟩, ⟨#[]⟩, readN (wordZ s0).data.toList, rh, bs⟩) := Lib.hid (by unfold saidM; rw [if_pos ha, HRH.out])
                  unfold ansL at ha
                  go_wp2_with (at_builtin; refine wpList_append_list rfl _ _ 23 rfl w2.heap.size 9 1 16 0 (n - (k + 1)) (c - (k + 1)) w.heap.size i0 _ (.slice (some ⟨w2.heap.size, 0, none⟩) 0 0) [] (flat strC bs) (some ⟨b, off + (k + 1), none⟩) Try.underlying23 hi0 hz0 hz1 hz2 rfl (by omega) rfl rfl HLE.out ((HSB.out.below HB2.out (Nat.le_refl _)).alloc (by omega) _) (str_ones' _) (by unfold maxLen; omega) (by omega) (by simp) ?_; intro v3 w3 hown3 hg3 hat3; simp only [Nat.zero_add, List.nil_append] at hown3; obtain ⟨Ab, cb, hv3⟩ := own_slice hown3; subst hv3; have HBo3 := Lib.hid hown3; have HG3 := Lib.hid hg3; clear hown3 hg3 hat3; have e0 := (own_at (((HW2.out.alloc (.cells #[] 9)).kept HG3.out (.inr (by simp [Value.ownBlock]; omega))).alloc (.cells #[.string ⟨#[]⟩, .string ⟨#[]⟩, .string ⟨#[]⟩, .int .i64 0, .slice Ah rh.length ch, .slice Ab (n - (k + 1)) cb] 29)) (j := 0) (u := .string (wordA s0)) rfl).1; have e1 := (own_at (((HW2.out.alloc (.cells #[] 9)).kept HG3.out (.inr (by simp [Value.ownBlock]; omega))).alloc (.cells #[.string ⟨#[]⟩, .string ⟨#[]⟩, .string ⟨#[]⟩, .int .i64 0, .slice Ah rh.length ch, .slice Ab (n - (k + 1)) cb] 29)) (j := 1) (u := .string (wordZ s0)) rfl).1)
                  have HBLT : Hid (∀ j, (Value.slice Ab (n - (k + 1)) cb).ownBlock = some j → j < w3.heap.size) := Lib.hid (fun j hj => (HBo3.out.lt j hj).2)
                  have BR3 := Lib.hid ((BR2.out.alloc (.cells #[] 9)).grown HG3.out (show w.heap.size ≠ w2.heap.size by omega))
                  have HB3 := Lib.hid ((HB2.out.alloc (by omega) (.cells #[] 9)).grown HG3.out (by simp; omega) (fun g hg => by simp [Value.ownBlock] at hg; omega))
                  have HW3 := Lib.hid ((HW2.out.alloc (.cells #[] 9)).kept HG3.out (.inr (by simp [Value.ownBlock]; omega)))
                  have HH3 := Lib.hid (own_gr (HH2.out.alloc (.cells #[] 9)) (Gr.of_grown HG3.out) (fun j hj e => by have h0 := HHLT.out j hj; simp [Value.ownBlock] at e; omega))
                  have BM4 := Lib.hid (Holds.new w3 29 #[.string ⟨#[]⟩, .string ⟨#[]⟩, .string ⟨#[]⟩, .int .i64 0, .slice Ah rh.length ch, .slice Ab (n - (k + 1)) cb])
                  have BR4 := Lib.hid (BR3.out.alloc (.cells #[.string ⟨#[]⟩, .string ⟨#[]⟩, .string ⟨#[]⟩, .int .i64 0, .slice Ah rh.length ch, .slice Ab (n - (k + 1)) cb] 29))
                  have hz3 := HB3.out.size
                  have hz3b := HG3.out.size
                  simp at hz3b
                  have hl3 := BR3.out.lt
                  have HB4 := Lib.hid (HB3.out.alloc hz3 (.cells #[.string ⟨#[]⟩, .string ⟨#[]⟩, .string ⟨#[]⟩, .int .i64 0, .slice Ah rh.length ch, .slice Ab (n - (k + 1)) cb] 29))
                  have HW4 := Lib.hid (HW3.out.alloc (.cells #[.string ⟨#[]⟩, .string ⟨#[]⟩, .string ⟨#[]⟩, .int .i64 0, .slice Ah rh.length ch, .slice Ab (n - (k + 1)) cb] 29))
                  have HH4 := Lib.hid (HH3.out.alloc (.cells #[.string ⟨#[]⟩, .string ⟨#[]⟩, .string ⟨#[]⟩, .int .i64 0, .slice Ah rh.length ch, .slice Ab (n - (k + 1)) cb] 29))
                  have HBo4 := Lib.hid (HBo3.out.alloc (.cells #[.string ⟨#[]⟩, .string ⟨#[]⟩, .string ⟨#[]⟩, .int .i64 0, .slice Ah rh.length ch, .slice Ab (n - (k + 1)) cb] 29))
                  refine (sread_any _ _ (by have := HM.out s0 (List.mem_of_getElem? HP0.out); unfold wordZ maxLen; simp; omega)).mono ?_
                  rintro e w5 ⟨rfl, hb5⟩
                  have BM5 := Lib.hid (BM4.out.call hb5)
                  have BR5 := Lib.hid (BR4.out.call hb5)
                  have HB5 := Lib.hid (HB4.out.trans (hb5.mono (by simp; omega)))
                  have HH5 := Lib.hid (own_call HH4.out hb5)
                  have HBo5 := Lib.hid (own_call HBo4.out hb5)
                  have hz5 := hb5.size
                  simp at hz5
                  clear hb5 e0 e1
                  have BM6 : Hid (Holds (w5.setCell ⟨w3.heap.size, 3, none⟩ (.int .i64 (readN (wordZ s0).data.toList))) w3.heap.size 29 #[.string ⟨#[]⟩, .string ⟨#[]⟩, .string ⟨#[]⟩, .int .i64 (readN (wordZ s0).data.toList), .slice Ah rh.length ch, .slice Ab (n - (k + 1)) cb]) := Lib.hid (BM5.out.set 3 _)
                  have BR6 := Lib.hid (BR5.out.far (p := ⟨w3.heap.size, 3, none⟩) (by simp; omega) (.int .i64 (readN (wordZ s0).data.toList)))
                  have HB6 := Lib.hid (HB5.out.setCell (p := ⟨w3.heap.size, 3, none⟩) (by simp; omega) (.int .i64 (readN (wordZ s0).data.toList)))
                  have R6H := Lib.hid (own_far HH5.out (p := ⟨w3.heap.size, 3, none⟩) (fun j hj => by have h0 := HHLT.out j hj; simp; omega) (.int .i64 (readN (wordZ s0).data.toList)))
                  have R6B := Lib.hid (own_far HBo5.out (p := ⟨w3.heap.size, 3, none⟩) (fun j hj => by have h0 := HBLT.out j hj; simp; omega) (.int .i64 (readN (wordZ s0).data.toList)))
                  have n3 := BM5.out.cell 3 _ rfl
                  have nf3 := BM5.out.free 3
                  obtain ⟨m0, m1, m2, m3, m4, m5⟩ := six_cells BM6.out
                  obtain ⟨vm, hvm⟩ : ∃ vm, msgB ⟨⟨#[]⟩, ⟨#[]⟩, ⟨#[]⟩, readN (wordZ s0).data.toList, rh, bs⟩ = vm := ⟨_, rfl⟩
                  have HVM := Lib.hid hvm
                  have hcv := smv_any (⟨#[]⟩) (⟨#[]⟩) (⟨#[]⟩) (readN (wordZ s0).data.toList) Ah rh.length ch rh Ab (n - (k + 1)) cb bs (w5.setCell ⟨w3.heap.size, 3, none⟩ (.int .i64 (readN (wordZ s0).data.toList))) (Nat.zero_le _) (Nat.zero_le _) (Nat.zero_le _) rfl (by have := headsB_len HHB.out; unfold maxLen; omega) (heads_valid_max HHB.out) HBL.out (by unfold maxLen; omega) HBM.out (Sees.of_own R6H.out) (Sees.of_own R6B.out)
                  rw [hvm] at hcv
                  have HCV := Lib.hid hcv
                  clear hvm hcv
                  go_wp2_with fail
                  refine HCV.out.mono ?_
                  rintro e w9 ⟨rfl, hb9⟩
                  have BR9 := Lib.hid (BR6.out.call hb9)
                  have BM9 := Lib.hid (BM6.out.call hb9)
                  have HB9 := Lib.hid (HB6.out.trans (hb9.mono (by have := HB6.out.size; omega)))
                  have HH9 := Lib.hid (own_call R6H.out hb9)
                  have HBo9 := Lib.hid (own_call R6B.out hb9)
                  clear hb9 m0 m1 m2 m3 m4 m5
                  cases vm
                  · have HF : Hid (rmB ls = false) := Lib.hid (HBAD.out (by unfold saidB; rw [HSM.out, HVM.out, Bool.and_false]))
                    obtain ⟨r0, r1, r2, r3, r4, r5⟩ := six_cells BR9.out
                    obtain ⟨k0, k1, k2, k3, k4, k5⟩ := six_free BR9.out
                    go_wp2
                    have hq := six_put BR9.out (.string ⟨#[]⟩) (.string ⟨#[]⟩) (.string ⟨#[]⟩) (.int .i64 0) (.slice none 0 0) (.slice none 0 0)
                    refine bodyPost_ret (v := .tuple #[.agg #[.string ⟨#[]⟩, .string ⟨#[]⟩, .string ⟨#[]⟩, .int .i64 0, .slice none 0 0, .slice none 0 0], .bool false]) ?_ rfl ?_
                    · simp [results, Try.results6, go_sem, hq.1, hq.2.1, hq.2.2.1, hq.2.2.2.1, hq.2.2.2.2.1, hq.2.2.2.2.2]
                    · refine HNO.out _ ?_ HF.out
                      repeat (refine Below.setCell ?_ (by simp) _)
                      exact HB9.out

                  · have hrt : rmB ls = true := by
                      rw [HRB.out]; unfold saidB; rw [HSM.out, HVM.out, decide_eq_true HSP.out, ← HVH.out, HA2.out]; rfl
                    obtain rfl : r = ⟨⟨#[]⟩, ⟨#[]⟩, ⟨#[]⟩, readN (wordZ s0).data.toList, rh, bs⟩ := by rw [HRR.out]; unfold rmM; rw [if_pos hrt, HSD.out, HSM.out]
                    obtain rfl : v = true := by rw [HV.out, hrt]
                    obtain ⟨r0, r1, r2, r3, r4, r5⟩ := six_cells BR9.out
                    obtain ⟨k0, k1, k2, k3, k4, k5⟩ := six_free BR9.out
                    obtain ⟨m0, m1, m2, m3, m4, m5⟩ := six_cells BM9.out
                    clear hrt
                    go_wp2
                    have hq := six_put BR9.out (.string (⟨#[]⟩)) (.string (⟨#[]⟩)) (.string (⟨#[]⟩)) (.int .i64 (readN (wordZ s0).data.toList)) (.slice Ah rh.length ch) (.slice Ab (n - (k + 1)) cb)
                    refine bodyPost_ret (v := .tuple #[.agg #[.string (⟨#[]⟩), .string (⟨#[]⟩), .string (⟨#[]⟩), .int .i64 (readN (wordZ s0).data.toList), .slice Ah rh.length ch, .slice Ab (n - (k + 1)) cb], .bool true]) ?_ rfl ?_
                    · simp [results, Try.results6, go_sem, hq.1, hq.2.1, hq.2.2.1, hq.2.2.2.1, hq.2.2.2.2.1, hq.2.2.2.2.2]
                    · refine ⟨Ah, ch, Ab, cb, by rw [← HBL.out], ?_, ?_, ?_, ?_⟩
                      · show World.ownsRow _ w.heap.size 68 2 (.slice Ah rh.length ch) rh.length (flat headC rh)
                        repeat (refine own_far ?_ (fun k hk => by have := HH9.out.lt k hk; simp; omega) _)
                        exact own_more HH9.out (by omega)
                      · show World.ownsRow _ w.heap.size 9 1 (.slice Ab bs.length cb) bs.length (flat strC bs)
                        rw [← HBL.out]
                        repeat (refine own_far ?_ (fun k hk => by have := HBo9.out.lt k hk; simp; omega) _)
                        exact own_more HBo9.out (by omega)
                      · intro j h1 h2
                        have h3 := HHLT.out j h1
                        have h4 : (Value.slice Ab (n - (k + 1)) cb).ownBlock = some j := by rw [HBL.out]; exact h2
                        have h5 := (HBo9.out.lt j h4).1
                        omega
                      · repeat (refine Below.setCell ?_ (by simp) _)
                        exact HB9.out

              · by_cases hck : c = k + 1
                · have hn0 : n - (k + 1) = 0 := by omega
                  have HBS0 : Hid (bs = []) := Lib.hid (List.eq_nil_of_length_eq_zero (by rw [← HBL.out, hn0]))
                  have HBL : Hid (0 = bs.length) := Lib.hid (by rw [HBS0.out]; rfl)
                  have ha : ((wordA s0).toList == ansL) = false := by simpa using ha
                  have HA2 := Lib.hid ha
                  have HSM : Hid (saidM s0 hl bs = ⟨wordA s0, readU (wordZ s0), readH (wordZ s0), 0, rh, bs⟩) := Lib.hid (by unfold saidM; rw [if_neg (by rw [ha]; simp), HRH.out])
                  have hwz : (wordZ s0).size ≤ maxLen := by have := HM.out s0 (List.mem_of_getElem? HP0.out); unfold wordZ maxLen; simp; omega
                  have hwa : (wordA s0).size ≤ maxLen := by have := HM.out s0 (List.mem_of_getElem? HP0.out); unfold wordA maxLen; simp; omega
                  have HWZ := Lib.hid hwz
                  have HWA := Lib.hid hwa
                  clear hwz hwa
                  unfold ansL at ha
                  obtain ⟨va, hva⟩ : ∃ va, addrB (wordZ s0).data.toList = va := ⟨_, rfl⟩
                  have HVA := Lib.hid hva
                  clear hva
                  go_wp2_with (at_builtin; refine wpList_append_list rfl _ _ 23 rfl w2.heap.size 9 1 16 0 0 0 w2.heap.size i0 _ (.slice (some ⟨w2.heap.size, 0, none⟩) 0 0) [] [] (some ⟨b, off, none⟩) Try.underlying23 hi0 hz0 hz1 hz2 rfl (by omega) rfl rfl HLE.out ⟨rfl, fun h => absurd h (by omega)⟩ (fun u hu => by simp at hu) (by unfold maxLen; omega) (by omega) (by simp) ?_; intro v3 w3 hown3 hg3 hat3; obtain ⟨Ab, cb, hv3⟩ := own_slice hown3; subst hv3; have HBo3 := Lib.hid hown3; have HG3 := Lib.hid hg3; clear hown3 hg3 hat3; have e0 := (own_at (((HW2.out.alloc (.cells #[] 9)).kept HG3.out (.inr (by simp [Value.ownBlock]; omega))).alloc (.cells #[.string ⟨#[]⟩, .string ⟨#[]⟩, .string ⟨#[]⟩, .int .i64 0, .slice Ah rh.length ch, .slice Ab 0 cb] 29)) (j := 0) (u := .string (wordA s0)) rfl).1; have e1 := (own_at (((HW2.out.alloc (.cells #[] 9)).kept HG3.out (.inr (by simp [Value.ownBlock]; omega))).alloc (.cells #[.string ⟨#[]⟩, .string ⟨#[]⟩, .string ⟨#[]⟩, .int .i64 0, .slice Ah rh.length ch, .slice Ab 0 cb] 29)) (j := 1) (u := .string (wordZ s0)) rfl).1)
                  have hh : w3.ownsRow w2.heap.size 9 1 (.slice Ab 0 cb) 0 (flat strC bs) := by rw [HBS0.out]; exact HBo3.out
                  have HBo3 := Lib.hid hh
                  have HBLT : Hid (∀ j, (Value.slice Ab 0 cb).ownBlock = some j → j < w3.heap.size) := Lib.hid (fun j hj => (HBo3.out.lt j hj).2)
                  clear hh
                  have BR3 := Lib.hid ((BR2.out.alloc (.cells #[] 9)).grown HG3.out (show w.heap.size ≠ w2.heap.size by omega))
                  have HB3 := Lib.hid ((HB2.out.alloc (by omega) (.cells #[] 9)).grown HG3.out (by simp; omega) (fun g hg => by simp [Value.ownBlock] at hg; omega))
                  have HW3 := Lib.hid ((HW2.out.alloc (.cells #[] 9)).kept HG3.out (.inr (by simp [Value.ownBlock]; omega)))
                  have HH3 := Lib.hid (own_gr (HH2.out.alloc (.cells #[] 9)) (Gr.of_grown HG3.out) (fun j hj e => by have h0 := HHLT.out j hj; simp [Value.ownBlock] at e; omega))
                  have BM4 := Lib.hid (Holds.new w3 29 #[.string ⟨#[]⟩, .string ⟨#[]⟩, .string ⟨#[]⟩, .int .i64 0, .slice Ah rh.length ch, .slice Ab 0 cb])
                  have BR4 := Lib.hid (BR3.out.alloc (.cells #[.string ⟨#[]⟩, .string ⟨#[]⟩, .string ⟨#[]⟩, .int .i64 0, .slice Ah rh.length ch, .slice Ab 0 cb] 29))
                  have hz3 := HB3.out.size
                  have hz3b := HG3.out.size
                  simp at hz3b
                  have hl3 := BR3.out.lt
                  have HB4 := Lib.hid (HB3.out.alloc hz3 (.cells #[.string ⟨#[]⟩, .string ⟨#[]⟩, .string ⟨#[]⟩, .int .i64 0, .slice Ah rh.length ch, .slice Ab 0 cb] 29))
                  have HW4 := Lib.hid (HW3.out.alloc (.cells #[.string ⟨#[]⟩, .string ⟨#[]⟩, .string ⟨#[]⟩, .int .i64 0, .slice Ah rh.length ch, .slice Ab 0 cb] 29))
                  have HH4 := Lib.hid (HH3.out.alloc (.cells #[.string ⟨#[]⟩, .string ⟨#[]⟩, .string ⟨#[]⟩, .int .i64 0, .slice Ah rh.length ch, .slice Ab 0 cb] 29))
                  have HBo4 := Lib.hid (HBo3.out.alloc (.cells #[.string ⟨#[]⟩, .string ⟨#[]⟩, .string ⟨#[]⟩, .int .i64 0, .slice Ah rh.length ch, .slice Ab 0 cb] 29))
                  refine (sra_any _ _ HWZ.out).mono ?_
                  rintro e w5 ⟨rfl, hb5⟩
                  rw [HVA.out]
                  have hz5 := hb5.size
                  simp at hz5
                  have BT6 := Lib.hid (Holds.new w5 26 #[.string (readU (wordZ s0)), .string (readH (wordZ s0))])
                  have BM6 := Lib.hid ((BM4.out.call hb5).alloc (.cells #[.string (readU (wordZ s0)), .string (readH (wordZ s0))] 26))
                  have BR6 := Lib.hid ((BR4.out.call hb5).alloc (.cells #[.string (readU (wordZ s0)), .string (readH (wordZ s0))] 26))
                  have HB6 := Lib.hid ((HB4.out.trans (hb5.mono (by simp; omega))).alloc (by omega) (.cells #[.string (readU (wordZ s0)), .string (readH (wordZ s0))] 26))
                  have HW6 := Lib.hid ((own_call HW4.out hb5).alloc (.cells #[.string (readU (wordZ s0)), .string (readH (wordZ s0))] 26))
                  have HH6 := Lib.hid ((own_call HH4.out hb5).alloc (.cells #[.string (readU (wordZ s0)), .string (readH (wordZ s0))] 26))
                  have HBo6 := Lib.hid ((own_call HBo4.out hb5).alloc (.cells #[.string (readU (wordZ s0)), .string (readH (wordZ s0))] 26))
                  clear hb5 e0 e1
                  cases va
                  · have HF : Hid (rmB ls = false) := Lib.hid (HBAD.out (by unfold saidB; rw [HA2.out, HVA.out]; simp))
                    obtain ⟨r0, r1, r2, r3, r4, r5⟩ := six_cells BR6.out
                    obtain ⟨k0, k1, k2, k3, k4, k5⟩ := six_free BR6.out
                    go_wp2
                    have hq := six_put BR6.out (.string ⟨#[]⟩) (.string ⟨#[]⟩) (.string ⟨#[]⟩) (.int .i64 0) (.slice none 0 0) (.slice none 0 0)
                    refine bodyPost_ret (v := .tuple #[.agg #[.string ⟨#[]⟩, .string ⟨#[]⟩, .string ⟨#[]⟩, .int .i64 0, .slice none 0 0, .slice none 0 0], .bool false]) ?_ rfl ?_
                    · simp [results, Try.results6, go_sem, hq.1, hq.2.1, hq.2.2.1, hq.2.2.2.1, hq.2.2.2.2.1, hq.2.2.2.2.2]
                    · refine HNO.out _ ?_ HF.out
                      repeat (refine Below.setCell ?_ (by simp) _)
                      exact HB6.out

                  · have e0 := (own_at HW6.out (j := 0) (u := .string (wordA s0)) rfl).1
                    obtain ⟨n0, n1, n2, n3, n4, n5⟩ := six_cells BM6.out
                    obtain ⟨nf0, nf1, nf2, nf3, nf4, nf5⟩ := six_free BM6.out
                    have BM7 : Hid (Holds ((w5.alloc (.cells #[.string (readU (wordZ s0)), .string (readH (wordZ s0))] 26)).setCell ⟨w3.heap.size, 0, none⟩ (.string (wordA s0))) w3.heap.size 29 #[.string (wordA s0), .string ⟨#[]⟩, .string ⟨#[]⟩, .int .i64 0, .slice Ah rh.length ch, .slice Ab 0 cb]) := Lib.hid (BM6.out.set 0 _)
                    have BM8 : Hid (Holds (((w5.alloc (.cells #[.string (readU (wordZ s0)), .string (readH (wordZ s0))] 26)).setCell ⟨w3.heap.size, 0, none⟩ (.string (wordA s0))).setCell ⟨w3.heap.size, 1, none⟩ (.string (readU (wordZ s0)))) w3.heap.size 29 #[.string (wordA s0), .string (readU (wordZ s0)), .string ⟨#[]⟩, .int .i64 0, .slice Ah rh.length ch, .slice Ab 0 cb]) := Lib.hid (BM7.out.set 1 _)
                    have BM10 : Hid (Holds ((((w5.alloc (.cells #[.string (readU (wordZ s0)), .string (readH (wordZ s0))] 26)).setCell ⟨w3.heap.size, 0, none⟩ (.string (wordA s0))).setCell ⟨w3.heap.size, 1, none⟩ (.string (readU (wordZ s0)))).setCell ⟨w3.heap.size, 2, none⟩ (.string (readH (wordZ s0)))) w3.heap.size 29 #[.string (wordA s0), .string (readU (wordZ s0)), .string (readH (wordZ s0)), .int .i64 0, .slice Ah rh.length ch, .slice Ab 0 cb]) := Lib.hid (BM8.out.set 2 _)
                    have hne : w5.heap.size ≠ w3.heap.size := by omega
                    have t0 := (BT6.out.far (p := ⟨w3.heap.size, 0, none⟩) hne (.string (wordA s0))).cell 0 _ rfl
                    have t1 := (BT6.out.far (p := ⟨w3.heap.size, 0, none⟩) hne (.string (wordA s0))).cell 1 _ rfl
                    have p1 := BM7.out.cell 1 _ rfl
                    have p2 := BM8.out.cell 2 _ rfl
                    have BR10 := Lib.hid (((BR6.out.far (p := ⟨w3.heap.size, 0, none⟩) (by simp; omega) (.string (wordA s0))).far (p := ⟨w3.heap.size, 1, none⟩) (by simp; omega) (.string (readU (wordZ s0)))).far (p := ⟨w3.heap.size, 2, none⟩) (by simp; omega) (.string (readH (wordZ s0))))
                    have HB10 := Lib.hid (((HB6.out.setCell (p := ⟨w3.heap.size, 0, none⟩) (by simp; omega) (.string (wordA s0))).setCell (p := ⟨w3.heap.size, 1, none⟩) (by simp; omega) (.string (readU (wordZ s0)))).setCell (p := ⟨w3.heap.size, 2, none⟩) (by simp; omega) (.string (readH (wordZ s0))))
                    have R10H := Lib.hid (own_far (own_far (own_far HH6.out (p := ⟨w3.heap.size, 0, none⟩) (fun j hj => by have h0 := HHLT.out j hj; simp; omega) (.string (wordA s0))) (p := ⟨w3.heap.size, 1, none⟩) (fun j hj => by have h0 := HHLT.out j hj; simp; omega) (.string (readU (wordZ s0)))) (p := ⟨w3.heap.size, 2, none⟩) (fun j hj => by have h0 := HHLT.out j hj; simp; omega) (.string (readH (wordZ s0))))
                    have R10B := Lib.hid (own_far (own_far (own_far HBo6.out (p := ⟨w3.heap.size, 0, none⟩) (fun j hj => by have h0 := HBLT.out j hj; simp; omega) (.string (wordA s0))) (p := ⟨w3.heap.size, 1, none⟩) (fun j hj => by have h0 := HBLT.out j hj; simp; omega) (.string (readU (wordZ s0)))) (p := ⟨w3.heap.size, 2, none⟩) (fun j hj => by have h0 := HBLT.out j hj; simp; omega) (.string (readH (wordZ s0))))
                    obtain ⟨m0, m1, m2, m3, m4, m5⟩ := six_cells BM10.out
                    obtain ⟨vm, hvm⟩ : ∃ vm, msgB ⟨wordA s0, readU (wordZ s0), readH (wordZ s0), 0, rh, bs⟩ = vm := ⟨_, rfl⟩
                    have HVM := Lib.hid hvm
                    have hcv := smv_any (wordA s0) (readU (wordZ s0)) (readH (wordZ s0)) (0) Ah rh.length ch rh Ab 0 cb bs _ HWA.out (readU_max _ HWZ.out).1 (readU_max _ HWZ.out).2 rfl (by have := headsB_len HHB.out; unfold maxLen; omega) (heads_valid_max HHB.out) HBL.out (by unfold maxLen; omega) HBM.out (Sees.of_own R10H.out) (Sees.of_own R10B.out)
                    rw [hvm] at hcv
                    have HCV := Lib.hid hcv
                    clear hvm hcv
                    go_wp2_with fail
                    refine HCV.out.mono ?_
                    rintro e w9 ⟨rfl, hb9⟩
                    have BR9 := Lib.hid (BR10.out.call hb9)
                    have BM9 := Lib.hid (BM10.out.call hb9)
                    have HB9 := Lib.hid (HB10.out.trans (hb9.mono (by have := HB10.out.size; omega)))
                    have HH9 := Lib.hid (own_call R10H.out hb9)
                    have HBo9 := Lib.hid (own_call R10B.out hb9)
                    clear hb9 m0 m1 m2 m3 m4 m5
                    cases vm
                    · have HF : Hid (rmB ls = false) := Lib.hid (HBAD.out (by unfold saidB; rw [HSM.out, HVM.out, Bool.and_false]))
                      obtain ⟨r0, r1, r2, r3, r4, r5⟩ := six_cells BR9.out
                      obtain ⟨k0, k1, k2, k3, k4, k5⟩ := six_free BR9.out
                      go_wp2
                      have hq := six_put BR9.out (.string ⟨#[]⟩) (.string ⟨#[]⟩) (.string ⟨#[]⟩) (.int .i64 0) (.slice none 0 0) (.slice none 0 0)
                      refine bodyPost_ret (v := .tuple #[.agg #[.string ⟨#[]⟩, .string ⟨#[]⟩, .string ⟨#[]⟩, .int .i64 0, .slice none 0 0, .slice none 0 0], .bool false]) ?_ rfl ?_
                      · simp [results, Try.results6, go_sem, hq.1, hq.2.1, hq.2.2.1, hq.2.2.2.1, hq.2.2.2.2.1, hq.2.2.2.2.2]
                      · refine HNO.out _ ?_ HF.out
                        repeat (refine Below.setCell ?_ (by simp) _)
                        exact HB9.out

                    · have hrt : rmB ls = true := by
                        rw [HRB.out]; unfold saidB; rw [HSM.out, HVM.out, decide_eq_true HSP.out, ← HVH.out, HA2.out, HVA.out]; rfl
                      obtain rfl : r = ⟨wordA s0, readU (wordZ s0), readH (wordZ s0), 0, rh, bs⟩ := by rw [HRR.out]; unfold rmM; rw [if_pos hrt, HSD.out, HSM.out]
                      obtain rfl : v = true := by rw [HV.out, hrt]
                      obtain ⟨r0, r1, r2, r3, r4, r5⟩ := six_cells BR9.out
                      obtain ⟨k0, k1, k2, k3, k4, k5⟩ := six_free BR9.out
                      obtain ⟨m0, m1, m2, m3, m4, m5⟩ := six_cells BM9.out
                      clear hrt
                      go_wp2
                      have hq := six_put BR9.out (.string (wordA s0)) (.string (readU (wordZ s0))) (.string (readH (wordZ s0))) (.int .i64 (0)) (.slice Ah rh.length ch) (.slice Ab 0 cb)
                      refine bodyPost_ret (v := .tuple #[.agg #[.string (wordA s0), .string (readU (wordZ s0)), .string (readH (wordZ s0)), .int .i64 (0), .slice Ah rh.length ch, .slice Ab 0 cb], .bool true]) ?_ rfl ?_
                      · simp [results, Try.results6, go_sem, hq.1, hq.2.1, hq.2.2.1, hq.2.2.2.1, hq.2.2.2.2.1, hq.2.2.2.2.2]
                      · refine ⟨Ah, ch, Ab, cb, by rw [← HBL.out], ?_, ?_, ?_, ?_⟩
                        · show World.ownsRow _ w.heap.size 68 2 (.slice Ah rh.length ch) rh.length (flat headC rh)
                          repeat (refine own_far ?_ (fun k hk => by have := HH9.out.lt k hk; simp; omega) _)
                          exact own_more HH9.out (by omega)
                        · show World.ownsRow _ w.heap.size 9 1 (.slice Ab bs.length cb) bs.length (flat strC bs)
                          rw [← HBL.out]
                          repeat (refine own_far ?_ (fun k hk => by have := HBo9.out.lt k hk; simp; omega) _)
                          exact own_more HBo9.out (by omega)
                        · intro j h1 h2
                          have h3 := HHLT.out j h1
                          have h4 : (Value.slice Ab 0 cb).ownBlock = some j := by rw [HBL.out]; exact h2
                          have h5 := (HBo9.out.lt j h4).1
                          omega
                        · repeat (refine Below.setCell ?_ (by simp) _)
                          exact HB9.out


                · have hck1 : k + 1 < c := by omega
                  have ha : ((wordA s0).toList == ansL) = false := by simpa using ha
                  have HA2 := Lib.hid ha
                  have HSM : Hid (saidM s0 hl bs = ⟨wordA s0, readU (wordZ s0), readH (wordZ s0), 0, rh, bs⟩) := Lib.hid (by unfold saidM; rw [if_neg (by rw [ha]; simp), HRH.out])
                  have hwz : (wordZ s0).size ≤ maxLen := by have := HM.out s0 (List.mem_of_getElem? HP0.out); unfold wordZ maxLen; simp; omega
                  have hwa : (wordA s0).size ≤ maxLen := by have := HM.out s0 (List.mem_of_getElem? HP0.out); unfold wordA maxLen; simp; omega
                  have HWZ := Lib.hid hwz
                  have HWA := Lib.hid hwa
                  clear hwz hwa
                  unfold ansL at ha
                  obtain ⟨va, hva⟩ : ∃ va, addrB (wordZ s0).data.toList = va := ⟨_, rfl⟩
                  have HVA := Lib.hid hva
                  clear hva
                  go_wp2_with (at_builtin; refine wpList_append_list rfl _ _ 23 rfl w2.heap.size 9 1 16 0 (n - (k + 1)) (c - (k + 1)) w.heap.size i0 _ (.slice (some ⟨w2.heap.size, 0, none⟩) 0 0) [] (flat strC bs) (some ⟨b, off + (k + 1), none⟩) Try.underlying23 hi0 hz0 hz1 hz2 rfl (by omega) rfl rfl HLE.out ((HSB.out.below HB2.out (Nat.le_refl _)).alloc (by omega) _) (str_ones' _) (by unfold maxLen; omega) (by omega) (by simp) ?_; intro v3 w3 hown3 hg3 hat3; simp only [Nat.zero_add, List.nil_append] at hown3; obtain ⟨Ab, cb, hv3⟩ := own_slice hown3; subst hv3; have HBo3 := Lib.hid hown3; have HG3 := Lib.hid hg3; clear hown3 hg3 hat3; have e0 := (own_at (((HW2.out.alloc (.cells #[] 9)).kept HG3.out (.inr (by simp [Value.ownBlock]; omega))).alloc (.cells #[.string ⟨#[]⟩, .string ⟨#[]⟩, .string ⟨#[]⟩, .int .i64 0, .slice Ah rh.length ch, .slice Ab (n - (k + 1)) cb] 29)) (j := 0) (u := .string (wordA s0)) rfl).1; have e1 := (own_at (((HW2.out.alloc (.cells #[] 9)).kept HG3.out (.inr (by simp [Value.ownBlock]; omega))).alloc (.cells #[.string ⟨#[]⟩, .string ⟨#[]⟩, .string ⟨#[]⟩, .int .i64 0, .slice Ah rh.length ch, .slice Ab (n - (k + 1)) cb] 29)) (j := 1) (u := .string (wordZ s0)) rfl).1)
                  have HBLT : Hid (∀ j, (Value.slice Ab (n - (k + 1)) cb).ownBlock = some j → j < w3.heap.size) := Lib.hid (fun j hj => (HBo3.out.lt j hj).2)
                  have BR3 := Lib.hid ((BR2.out.alloc (.cells #[] 9)).grown HG3.out (show w.heap.size ≠ w2.heap.size by omega))
                  have HB3 := Lib.hid ((HB2.out.alloc (by omega) (.cells #[] 9)).grown HG3.out (by simp; omega) (fun g hg => by simp [Value.ownBlock] at hg; omega))
                  have HW3 := Lib.hid ((HW2.out.alloc (.cells #[] 9)).kept HG3.out (.inr (by simp [Value.ownBlock]; omega)))
                  have HH3 := Lib.hid (own_gr (HH2.out.alloc (.cells #[] 9)) (Gr.of_grown HG3.out) (fun j hj e => by have h0 := HHLT.out j hj; simp [Value.ownBlock] at e; omega))
                  have BM4 := Lib.hid (Holds.new w3 29 #[.string ⟨#[]⟩, .string ⟨#[]⟩, .string ⟨#[]⟩, .int .i64 0, .slice Ah rh.length ch, .slice Ab (n - (k + 1)) cb])
                  have BR4 := Lib.hid (BR3.out.alloc (.cells #[.string ⟨#[]⟩, .string ⟨#[]⟩, .string ⟨#[]⟩, .int .i64 0, .slice Ah rh.length ch, .slice Ab (n - (k + 1)) cb] 29))
                  have hz3 := HB3.out.size
                  have hz3b := HG3.out.size
                  simp at hz3b
                  have hl3 := BR3.out.lt
                  have HB4 := Lib.hid (HB3.out.alloc hz3 (.cells #[.string ⟨#[]⟩, .string ⟨#[]⟩, .string ⟨#[]⟩, .int .i64 0, .slice Ah rh.length ch, .slice Ab (n - (k + 1)) cb] 29))
                  have HW4 := Lib.hid (HW3.out.alloc (.cells #[.string ⟨#[]⟩, .string ⟨#[]⟩, .string ⟨#[]⟩, .int .i64 0, .slice Ah rh.length ch, .slice Ab (n - (k + 1)) cb] 29))
                  have HH4 := Lib.hid (HH3.out.alloc (.cells #[.string ⟨#[]⟩, .string ⟨#[]⟩, .string ⟨#[]⟩, .int .i64 0, .slice Ah rh.length ch, .slice Ab (n - (k + 1)) cb] 29))
                  have HBo4 := Lib.hid (HBo3.out.alloc (.cells #[.string ⟨#[]⟩, .string ⟨#[]⟩, .string ⟨#[]⟩, .int .i64 0, .slice Ah rh.length ch, .slice Ab (n - (k + 1)) cb] 29))
                  refine (sra_any _ _ HWZ.out).mono ?_
                  rintro e w5 ⟨rfl, hb5⟩
                  rw [HVA.out]
                  have hz5 := hb5.size
                  simp at hz5
                  have BT6 := Lib.hid (Holds.new w5 26 #[.string (readU (wordZ s0)), .string (readH (wordZ s0))])
                  have BM6 := Lib.hid ((BM4.out.call hb5).alloc (.cells #[.string (readU (wordZ s0)), .string (readH (wordZ s0))] 26))
                  have BR6 := Lib.hid ((BR4.out.call hb5).alloc (.cells #[.string (readU (wordZ s0)), .string (readH (wordZ s0))] 26))
                  have HB6 := Lib.hid ((HB4.out.trans (hb5.mono (by simp; omega))).alloc (by omega) (.cells #[.string (readU (wordZ s0)), .string (readH (wordZ s0))] 26))
                  have HW6 := Lib.hid ((own_call HW4.out hb5).alloc (.cells #[.string (readU (wordZ s0)), .string (readH (wordZ s0))] 26))
                  have HH6 := Lib.hid ((own_call HH4.out hb5).alloc (.cells #[.string (readU (wordZ s0)), .string (readH (wordZ s0))] 26))
                  have HBo6 := Lib.hid ((own_call HBo4.out hb5).alloc (.cells #[.string (readU (wordZ s0)), .string (readH (wordZ s0))] 26))
                  clear hb5 e0 e1
                  cases va
                  · have HF : Hid (rmB ls = false) := Lib.hid (HBAD.out (by unfold saidB; rw [HA2.out, HVA.out]; simp))
                    obtain ⟨r0, r1, r2, r3, r4, r5⟩ := six_cells BR6.out
                    obtain ⟨k0, k1, k2, k3, k4, k5⟩ := six_free BR6.out
                    go_wp2
                    have hq := six_put BR6.out (.string ⟨#[]⟩) (.string ⟨#[]⟩) (.string ⟨#[]⟩) (.int .i64 0) (.slice none 0 0) (.slice none 0 0)
                    refine bodyPost_ret (v := .tuple #[.agg #[.string ⟨#[]⟩, .string ⟨#[]⟩, .string ⟨#[]⟩, .int .i64 0, .slice none 0 0, .slice none 0 0], .bool false]) ?_ rfl ?_
                    · simp [results, Try.results6, go_sem, hq.1, hq.2.1, hq.2.2.1, hq.2.2.2.1, hq.2.2.2.2.1, hq.2.2.2.2.2]
                    · refine HNO.out _ ?_ HF.out
                      repeat (refine Below.setCell ?_ (by simp) _)
                      exact HB6.out

                  · have e0 := (own_at HW6.out (j := 0) (u := .string (wordA s0)) rfl).1
                    obtain ⟨n0, n1, n2, n3, n4, n5⟩ := six_cells BM6.out
                    obtain ⟨nf0, nf1, nf2, nf3, nf4, nf5⟩ := six_free BM6.out
                    have BM7 : Hid (Holds ((w5.alloc (.cells #[.string (readU (wordZ s0)), .string (readH (wordZ s0))] 26)).setCell ⟨w3.heap.size, 0, none⟩ (.string (wordA s0))) w3.heap.size 29 #[.string (wordA s0), .string ⟨#[]⟩, .string ⟨#[]⟩, .int .i64 0, .slice Ah rh.length ch, .slice Ab (n - (k + 1)) cb]) := Lib.hid (BM6.out.set 0 _)
                    have BM8 : Hid (Holds (((w5.alloc (.cells #[.string (readU (wordZ s0)), .string (readH (wordZ s0))] 26)).setCell ⟨w3.heap.size, 0, none⟩ (.string (wordA s0))).setCell ⟨w3.heap.size, 1, none⟩ (.string (readU (wordZ s0)))) w3.heap.size 29 #[.string (wordA s0), .string (readU (wordZ s0)), .string ⟨#[]⟩, .int .i64 0, .slice Ah rh.length ch, .slice Ab (n - (k + 1)) cb]) := Lib.hid (BM7.out.set 1 _)
                    have BM10 : Hid (Holds ((((w5.alloc (.cells #[.string (readU (wordZ s0)), .string (readH (wordZ s0))] 26)).setCell ⟨w3.heap.size, 0, none⟩ (.string (wordA s0))).setCell ⟨w3.heap.size, 1, none⟩ (.string (readU (wordZ s0)))).setCell ⟨w3.heap.size, 2, none⟩ (.string (readH (wordZ s0)))) w3.heap.size 29 #[.string (wordA s0), .string (readU (wordZ s0)), .string (readH (wordZ s0)), .int .i64 0, .slice Ah rh.length ch, .slice Ab (n - (k + 1)) cb]) := Lib.hid (BM8.out.set 2 _)
                    have hne : w5.heap.size ≠ w3.heap.size := by omega
                    have t0 := (BT6.out.far (p := ⟨w3.heap.size, 0, none⟩) hne (.string (wordA s0))).cell 0 _ rfl
                    have t1 := (BT6.out.far (p := ⟨w3.heap.size, 0, none⟩) hne (.string (wordA s0))).cell 1 _ rfl
                    have p1 := BM7.out.cell 1 _ rfl
                    have p2 := BM8.out.cell 2 _ rfl
                    have BR10 := Lib.hid (((BR6.out.far (p := ⟨w3.heap.size, 0, none⟩) (by simp; omega) (.string (wordA s0))).far (p := ⟨w3.heap.size, 1, none⟩) (by simp; omega) (.string (readU (wordZ s0)))).far (p := ⟨w3.heap.size, 2, none⟩) (by simp; omega) (.string (readH (wordZ s0))))
                    have HB10 := Lib.hid (((HB6.out.setCell (p := ⟨w3.heap.size, 0, none⟩) (by simp; omega) (.string (wordA s0))).setCell (p := ⟨w3.heap.size, 1, none⟩) (by simp; omega) (.string (readU (wordZ s0)))).setCell (p := ⟨w3.heap.size, 2, none⟩) (by simp; omega) (.string (readH (wordZ s0))))
                    have R10H := Lib.hid (own_far (own_far (own_far HH6.out (p := ⟨w3.heap.size, 0, none⟩) (fun j hj => by have h0 := HHLT.out j hj; simp; omega) (.string (wordA s0))) (p := ⟨w3.heap.size, 1, none⟩) (fun j hj => by have h0 := HHLT.out j hj; simp; omega) (.string (readU (wordZ s0)))) (p := ⟨w3.heap.size, 2, none⟩) (fun j hj => by have h0 := HHLT.out j hj; simp; omega) (.string (readH (wordZ s0))))
                    have R10B := Lib.hid (own_far (own_far (own_far HBo6.out (p := ⟨w3.heap.size, 0, none⟩) (fun j hj => by have h0 := HBLT.out j hj; simp; omega) (.string (wordA s0))) (p := ⟨w3.heap.size, 1, none⟩) (fun j hj => by have h0 := HBLT.out j hj; simp; omega) (.string (readU (wordZ s0)))) (p := ⟨w3.heap.size, 2, none⟩) (fun j hj => by have h0 := HBLT.out j hj; simp; omega) (.string (readH (wordZ s0))))
                    obtain ⟨m0, m1, m2, m3, m4, m5⟩ := six_cells BM10.out
                    obtain ⟨vm, hvm⟩ : ∃ vm, msgB ⟨wordA s0, readU (wordZ s0), readH (wordZ s0), 0, rh, bs⟩ = vm := ⟨_, rfl⟩
                    have HVM := Lib.hid hvm
                    have hcv := smv_any (wordA s0) (readU (wordZ s0)) (readH (wordZ s0)) (0) Ah rh.length ch rh Ab (n - (k + 1)) cb bs _ HWA.out (readU_max _ HWZ.out).1 (readU_max _ HWZ.out).2 rfl (by have := headsB_len HHB.out; unfold maxLen; omega) (heads_valid_max HHB.out) HBL.out (by unfold maxLen; omega) HBM.out (Sees.of_own R10H.out) (Sees.of_own R10B.out)
                    rw [hvm] at hcv
                    have HCV := Lib.hid hcv
                    clear hvm hcv
                    go_wp2_with fail
                    refine HCV.out.mono ?_
                    rintro e w9 ⟨rfl, hb9⟩
                    have BR9 := Lib.hid (BR10.out.call hb9)
                    have BM9 := Lib.hid (BM10.out.call hb9)
                    have HB9 := Lib.hid (HB10.out.trans (hb9.mono (by have := HB10.out.size; omega)))
                    have HH9 := Lib.hid (own_call R10H.out hb9)
                    have HBo9 := Lib.hid (own_call R10B.out hb9)
                    clear hb9 m0 m1 m2 m3 m4 m5
                    cases vm
                    · have HF : Hid (rmB ls = false) := Lib.hid (HBAD.out (by unfold saidB; rw [HSM.out, HVM.out, Bool.and_false]))
                      obtain ⟨r0, r1, r2, r3, r4, r5⟩ := six_cells BR9.out
                      obtain ⟨k0, k1, k2, k3, k4, k5⟩ := six_free BR9.out
                      go_wp2
                      have hq := six_put BR9.out (.string ⟨#[]⟩) (.string ⟨#[]⟩) (.string ⟨#[]⟩) (.int .i64 0) (.slice none 0 0) (.slice none 0 0)
                      refine bodyPost_ret (v := .tuple #[.agg #[.string ⟨#[]⟩, .string ⟨#[]⟩, .string ⟨#[]⟩, .int .i64 0, .slice none 0 0, .slice none 0 0], .bool false]) ?_ rfl ?_
                      · simp [results, Try.results6, go_sem, hq.1, hq.2.1, hq.2.2.1, hq.2.2.2.1, hq.2.2.2.2.1, hq.2.2.2.2.2]
                      · refine HNO.out _ ?_ HF.out
                        repeat (refine Below.setCell ?_ (by simp) _)
                        exact HB9.out

                    · have hrt : rmB ls = true := by
                        rw [HRB.out]; unfold saidB; rw [HSM.out, HVM.out, decide_eq_true HSP.out, ← HVH.out, HA2.out, HVA.out]; rfl
                      obtain rfl : r = ⟨wordA s0, readU (wordZ s0), readH (wordZ s0), 0, rh, bs⟩ := by rw [HRR.out]; unfold rmM; rw [if_pos hrt, HSD.out, HSM.out]
                      obtain rfl : v = true := by rw [HV.out, hrt]
                      obtain ⟨r0, r1, r2, r3, r4, r5⟩ := six_cells BR9.out
                      obtain ⟨k0, k1, k2, k3, k4, k5⟩ := six_free BR9.out
                      obtain ⟨m0, m1, m2, m3, m4, m5⟩ := six_cells BM9.out
                      clear hrt
                      go_wp2
                      have hq := six_put BR9.out (.string (wordA s0)) (.string (readU (wordZ s0))) (.string (readH (wordZ s0))) (.int .i64 (0)) (.slice Ah rh.length ch) (.slice Ab (n - (k + 1)) cb)
                      refine bodyPost_ret (v := .tuple #[.agg #[.string (wordA s0), .string (readU (wordZ s0)), .string (readH (wordZ s0)), .int .i64 (0), .slice Ah rh.length ch, .slice Ab (n - (k + 1)) cb], .bool true]) ?_ rfl ?_
                      · simp [results, Try.results6, go_sem, hq.1, hq.2.1, hq.2.2.1, hq.2.2.2.1, hq.2.2.2.2.1, hq.2.2.2.2.2]
                      · refine ⟨Ah, ch, Ab, cb, by rw [← HBL.out], ?_, ?_, ?_, ?_⟩
                        · show World.ownsRow _ w.heap.size 68 2 (.slice Ah rh.length ch) rh.length (flat headC rh)
                          repeat (refine own_far ?_ (fun k hk => by have := HH9.out.lt k hk; simp; omega) _)
                          exact own_more HH9.out (by omega)
                        · show World.ownsRow _ w.heap.size 9 1 (.slice Ab bs.length cb) bs.length (flat strC bs)
                          rw [← HBL.out]
                          repeat (refine own_far ?_ (fun k hk => by have := HBo9.out.lt k hk; simp; omega) _)
                          exact own_more HBo9.out (by omega)
                        · intro j h1 h2
                          have h3 := HHLT.out j h1
                          have h4 : (Value.slice Ab (n - (k + 1)) cb).ownBlock = some j := by rw [HBL.out]; exact h2
                          have h5 := (HBo9.out.lt j h4).1
                          omega
                        · repeat (refine Below.setCell ?_ (by simp) _)
                          exact HB9.out



            · have hbadw : saidB s0 hl (ls.drop (k + 1)) = false := by
                rw [Bool.eq_false_iff]; intro h
                have := said_words h
                have h2 := HNW.out
                unfold wordsS at h2
                rw [List.length_map, this] at h2
                exact hn2 h2
              have HF : Hid (rmB ls = false) := Lib.hid (HBAD.out hbadw)
              have hn2b : ((nw : Int) == 2) = false := beq_eq_false_iff_ne.mpr (by omega)
              have hn2c : ((nw : Int) != 2) = true := bne_iff_ne.mpr (by omega)
              have hn2d : ¬ (nw : Int) = 2 := by omega
              clear hbadw hn2
              obtain ⟨r0, r1, r2, r3, r4, r5⟩ := six_cells BR2.out
              obtain ⟨k0, k1, k2, k3, k4, k5⟩ := six_free BR2.out
              go_wp2
              have hq := six_put BR2.out (.string ⟨#[]⟩) (.string ⟨#[]⟩) (.string ⟨#[]⟩) (.int .i64 0) (.slice none 0 0) (.slice none 0 0)
              refine bodyPost_ret (v := .tuple #[.agg #[.string ⟨#[]⟩, .string ⟨#[]⟩, .string ⟨#[]⟩, .int .i64 0, .slice none 0 0, .slice none 0 0], .bool false]) ?_ rfl ?_
              · simp [results, Try.results6, go_sem, hq.1, hq.2.1, hq.2.2.1, hq.2.2.2.1, hq.2.2.2.2.1, hq.2.2.2.2.2]
              · refine HNO.out _ ?_ HF.out
                repeat (refine Below.setCell ?_ (by simp) _)
                exact HB2.out

end Go.Proofs.Ytplcdadedpbkpaa
