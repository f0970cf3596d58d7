/- The reference's SumOf. -/
import Derived.Test.YtcgpgflnihjpiaaRSum
namespace Go.Proofs.Ytcgpgflnihjpiaa
open Go.RowKit

theorem sumOf_any (a : Option Addr) (n cap : Nat) (l : List (Int × Int)) (w : World) (h : Rd w a n l) (hm : n ≤ 9223372036854775807) :
    Calls Try.prog 22 #[.slice a n cap] w fun e w' => e = .returned (.tuple #[.int .i64 (M.sumV l), .int .i64 (M.chk l)]) ∧ Below w.heap.size w w' := by
  have H := error_any a n cap l w h hm
  obtain ⟨c, hc⟩ : ∃ c, c = M.chk l := ⟨_, rfl⟩
  by_cases h0 : M.chk l = 0
  · rw [M.sumV, if_pos h0]
    obtain ⟨s, hs⟩ : ∃ s, s = M.sum l := ⟨_, rfl⟩
    rw [← hs, h0]
    rw [h0] at H
    have HH : Hid (Calls Try.prog 13 #[.slice a n cap] w fun e w' => e = .returned (.int .i64 0) ∧ Below w.heap.size w w') := H
    have HS : Hid (∀ W, Below w.heap.size w W → Calls Try.prog 40 #[.slice a n cap] W fun e w' => e = .returned (.int .i64 s) ∧ Below W.heap.size W w') := fun W hb => by rw [hs]; exact rsum_any a n cap l W (h.below hb (Nat.le_refl _)) h0
    clear H hs h0 h hc
    go_enter Try.func22, Try.ntmps22
    go_wp2_with fail
    refine HH.out.mono ?_
    rintro e w1 ⟨rfl, b1⟩
    go_wp2_with fail
    refine (HS.out _ b1).mono ?_
    rintro e w2 ⟨rfl, b2⟩
    have b3 := b1.trans (b2.mono b1.size)
    go_wp2
    go_ret2
    exact ⟨rfl, b3⟩
  · rw [M.sumV, if_neg h0]
    rw [← hc] at H h0 ⊢
    have hne : (c != 0) = true := by simp [h0]
    clear hc h h0
    have HH : Hid (Calls Try.prog 13 #[.slice a n cap] w fun e w' => e = .returned (.int .i64 c) ∧ Below w.heap.size w w') := H
    clear H
    go_enter Try.func22, Try.ntmps22
    go_wp2_with (go_at_call 13; refine HH.out.mono ?_; rintro e w' ⟨rfl, hb1⟩)
    go_ret2
    exact ⟨rfl, hb1⟩

end Go.Proofs.Ytcgpgflnihjpiaa
