/- The contract of the function that draws a word. -/
import Derived.Test.YtnhbhopiioclmaaDrawT
namespace Go.Proofs.Ytnhbhopiioclmaa
open Go.RowKit
set_option linter.unusedVariables false

set_option maxHeartbeats 1000000 in
theorem word_any (w : World) (g q : Nat) (n : Int) (hr : Rd w g q) (hq : q ≤ 999999) (hn : 0 ≤ n) (hn2 : n ≤ 2147483647) :
    Calls Try.prog 58 #[.pointer (some ⟨g, 0, none⟩), .int .i64 n] w fun e w' => ∃ s : ByteArray, s.size ≤ 11 ∧ e = .returned (.string s) ∧ Rd w' g (q + 2) ∧ w.grownBy w' (some g) := by
  have HR := Lib.hid hr
  clear hr
  go_enter Try.func58, Try.ntmps58
  go_wp2_with fail
  refine (odd_any _ g q n HR.out (by omega) hn hn2).mono ?_
  rintro e w1 ⟨x, rfl, hr1, hg1⟩
  have HR1 := Lib.hid hr1
  have HG1 := Lib.hid hg1
  clear hr1 hg1
  cases x
  · go_wp2_with (go_at_call 49; refine (pick_pos _ g (q + 1) 6 (HR1.out.alloc _) (by omega) (by omega) (by omega)).mono ?_; rintro e w2 ⟨y, hy0, hy1, rfl, hr2, hg2⟩; obtain ⟨s, hs, hc⟩ := pick_str hg2 HR1.out.lt 11 rfl y hy0 hy1; have HR2 := Lib.hid hr2; have HG2 := Lib.hid hg2; clear hr2 hg2)
    go_ret
    exact ⟨s, hs, rfl, HR2.out, grown_step (grown_alloc HG1.out _) HG2.out⟩
  · go_wp2_with (go_at_call 49; refine (pick_pos _ g (q + 1) 5 (HR1.out.alloc _) (by omega) (by omega) (by omega)).mono ?_; rintro e w2 ⟨y, hy0, hy1, rfl, hr2, hg2⟩; obtain ⟨s, hs, hc⟩ := pick_str hg2 HR1.out.lt 11 rfl y hy0 hy1; have HR2 := Lib.hid hr2; have HG2 := Lib.hid hg2; clear hr2 hg2)
    go_ret
    exact ⟨s, hs, rfl, HR2.out, grown_step (grown_alloc HG1.out _) HG2.out⟩

end Go.Proofs.Ytnhbhopiioclmaa
