/- The reference's CutOf. -/
import Derived.Test.YtcgpgflnihjpiaaLevel
import Derived.Test.YtcgpgflnihjpiaaRefCut
import Derived.Test.YtcgpgflnihjpiaaCBegun
namespace Go.Proofs.Ytcgpgflnihjpiaa
open Go.RowKit

set_option maxHeartbeats 2000000 in
theorem cutOf_any (a : Option Addr) (n cap : Nat) (l : List (Int × Int)) (level : Int) (w : World) (h : Sl w a n cap l) :
    Calls Try.prog 18 #[.slice a n cap, .int .i64 level] w fun e w' => HandsL w w' (M.cutV l level) (M.cutE l level) e := by
  have H := error_any a n cap l w h.1 h.len
  by_cases h0 : M.chk l = 0
  · rw [h0] at H
    have HH : Hid (Calls Try.prog 13 #[.slice a n cap] w fun e w' => e = .returned (.int .i64 0) ∧ Below w.heap.size w w') := H
    clear H
    by_cases hl : level < 0 ∨ 9 < level
    · have e1 := M.cutE_range h0 hl
      rw [M.cutV_no (by omega), e1]
      have HL : Hid (level < 0 ∨ 9 < level) := hl
      clear hl e1 h0 h
      go_enter Try.func18, Try.ntmps18
      go_wp2_with (first | (go_at_call 13; refine HH.out.mono ?_; rintro e w' ⟨rfl, hb1⟩) | (go_at_call 31; refine (within_no _ _ _ _ HL.out).mono ?_; rintro e w' ⟨rfl, rfl⟩))
      go_ret2
      exact HandsL.none 3 hb1
    · have l0 : 0 ≤ level := by omega
      have l1 : level ≤ 9 := by omega
      have e1 := M.cutE_ok h0 l0 l1
      rw [M.cutV_ok e1, e1]
      have HS : Hid (Sl w a n cap l) := h
      have HZ : Hid (M.chk l = 0) := h0
      clear hl e1 h0 h
      go_enter Try.func18, Try.ntmps18
      go_wp2_with fail
      refine HH.out.mono ?_
      rintro e w1 ⟨rfl, b1⟩
      go_wp2_with fail
      refine (within_yes _ _ _ _ l0 l1).mono ?_
      rintro e w1' ⟨rfl, rfl⟩
      go_wp2_with fail
      refine (rcut_any a n cap l level w1' (HS.out.below b1) HZ.out).mono ?_
      rintro e w2 ⟨v, rfl, ho, b2⟩
      obtain ⟨a', n', c', rfl, r1, r2, r3, r4⟩ := ho.lv
      have F : Hid (HandsL w w2 (M.cut level l) 0 (.returned (.tuple #[.slice a' n' c', .int .i64 0]))) := ⟨a', n', c', rfl, r1, r2, r3, r4, below2 b1 b2⟩
      clear ho r1 r2 r3 r4 b2
      go_wp2
      go_ret2
      exact F.out
  · have e1 := M.cutE_bad (level := level) h0
    rw [M.cutV_no (by omega), e1]
    obtain ⟨c, hc⟩ : ∃ c, c = M.chk l := ⟨_, rfl⟩
    rw [← hc] at H h0 ⊢
    have hne : (c != 0) = true := by simp [h0]
    clear hc h h0 e1
    have HH : Hid (Calls Try.prog 13 #[.slice a n cap] w fun e w' => e = .returned (.int .i64 c) ∧ Below w.heap.size w w') := H
    clear H
    go_enter Try.func18, Try.ntmps18
    go_wp2_with (go_at_call 13; refine HH.out.mono ?_; rintro e w' ⟨rfl, hb1⟩)
    go_ret2
    exact HandsL.none _ hb1

end Go.Proofs.Ytcgpgflnihjpiaa
