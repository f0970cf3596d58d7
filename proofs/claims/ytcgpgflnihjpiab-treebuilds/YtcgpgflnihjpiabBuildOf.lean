/- The BuildOf of the reference. -/
import Derived.Test.YtcgpgflnihjpiabRBuild
namespace Go.Proofs.Ytcgpgflnihjpiab
open Go.RowKit

theorem buildOf_any (a : Option Addr) (n cap : Nat) (l : List (Int × Int)) (w : World) (h : Sl w a n cap l) :
    Calls Try.prog 10 #[.slice a n cap] w fun e w' => ∃ v, e = .returned (.tuple #[v, .int .i64 (M.chk l)]) ∧ OwnT w' w.heap.size v (if M.chk l = 0 then M.build l else []) ∧ Below w.heap.size w w' := by
  have H := error_any a n cap l w h.1 h.len
  obtain ⟨c, hc⟩ : ∃ c, c = M.chk l := ⟨_, rfl⟩
  by_cases h0 : M.chk l = 0
  · rw [if_pos h0, h0]
    rw [h0] at H
    have HS : Aside (Sl w a n cap l) := h
    have H0 : Aside (M.chk l = 0) := h0
    have HH : Aside (Calls Try.prog 31 #[.slice a n cap] w fun e w' => e = .returned (.int .i64 0) ∧ Below w.heap.size w w') := H
    clear H h h0 hc
    go_enter Try.func10, Try.ntmps10
    go_wp2_with (go_at_call 31; refine HH.out.mono ?_; rintro e w1 ⟨rfl, b1⟩)
    refine (rbuild_any a n cap l w1 (HS.out.below b1) H0.out).mono ?_
    rintro e w2 ⟨v, rfl, ho, b2⟩
    have HO : Aside (OwnT w2 w.heap.size v (M.build l)) := ho.mono b1.size
    have hb2 := below2 b1 b2
    clear ho
    go_wp2
    go_ret2
    exact ⟨_, rfl, HO.out, hb2⟩
  · rw [if_neg h0, ← hc]
    rw [← hc] at H h0
    have hne : (c != 0) = true := by simp [h0]
    have HH : Aside (Calls Try.prog 31 #[.slice a n cap] w fun e w' => e = .returned (.int .i64 c) ∧ Below w.heap.size w w') := H
    clear H h h0 hc
    go_enter Try.func10, Try.ntmps10
    go_wp2_with (go_at_call 31; refine HH.out.mono ?_; rintro e w1 ⟨rfl, b1⟩)
    go_ret2
    exact ⟨_, rfl, OwnT.nil _ _, b1⟩
end Go.Proofs.Ytcgpgflnihjpiab
