/- The reference on commits: CommitError. -/
import Derived.Test.YtcgpgflnihjpiadDagR
namespace Go.Proofs.Ytcgpgflnihjpiad
open Go.RowKit
theorem cone_any (a : Option Addr) (n cap : Nat) (L : List M.Com) (x : Int) (w : World) (h : Cm w a n L) (hm : n ≤ 9223372036854775807) :
    Calls Try.prog 24 #[.slice a n cap, .int .i64 x] w fun e w' => e = .returned (.int .i64 (M.dask L x)) ∧ Below w.heap.size w w' := by
  have H := cerror_any a n cap L w h hm
  have hl := h.1
  by_cases hb : M.dchk L = 0
  · have hn14 : n ≤ 14 := by rw [← hl]; exact (M.dchk_zero hb).1
    rw [hb] at H
    have HH : Hid (Calls Try.prog 28 #[.slice a n cap] w fun e w' => e = .returned (.int .i64 0) ∧ Below w.heap.size w w') := H
    clear H h
    by_cases hx : x < 0 ∨ (n : Int) ≤ x
    · have e : M.dask L x = 5 := by unfold M.dask; rw [if_neg (by omega), hl, if_pos hx]
      rw [e]
      have HW : Hid (∀ W, Calls Try.prog 50 #[.int .i64 x, .int .i64 0, .int .i64 ((n : Int) - 1)] W fun e w' => e = .returned (.bool false) ∧ w' = W) := fun W => within_no x 0 ((n : Int) - 1) W (by omega)
      clear hx e hb hl
      go_enter Try.func24, Try.ntmps24
      go_wp2_with (first | (go_at_call 28; refine HH.out.mono ?_; rintro e w' ⟨rfl, hb1⟩) | (go_at_call 50; refine (HW.out _).mono ?_; rintro e w2 ⟨rfl, rfl⟩))
      go_ret
      exact ⟨rfl, hb1⟩
    · have e : M.dask L x = 0 := by unfold M.dask; rw [if_neg (by omega), hl, if_neg hx]
      rw [e]
      have HW : Hid (∀ W, Calls Try.prog 50 #[.int .i64 x, .int .i64 0, .int .i64 ((n : Int) - 1)] W fun e w' => e = .returned (.bool true) ∧ w' = W) := fun W => within_yes x 0 ((n : Int) - 1) W (by omega) (by omega)
      clear hx e hb hl
      go_enter Try.func24, Try.ntmps24
      go_wp2_with (first | (go_at_call 28; refine HH.out.mono ?_; rintro e w' ⟨rfl, hb1⟩) | (go_at_call 50; refine (HW.out _).mono ?_; rintro e w2 ⟨rfl, rfl⟩))
      go_ret
      exact ⟨rfl, hb1⟩
  · have e : M.dask L x = M.dchk L := by unfold M.dask; rw [if_pos hb]
    rw [e]
    obtain ⟨c, hc⟩ : ∃ c, c = M.dchk L := ⟨_, rfl⟩
    rw [← hc] at H hb ⊢
    have hne : (c != 0) = true := by simp [hb]
    have HH : Hid (Calls Try.prog 28 #[.slice a n cap] w fun e w' => e = .returned (.int .i64 c) ∧ Below w.heap.size w w') := H
    clear H h hb hc e hl
    go_enter Try.func24, Try.ntmps24
    go_wp2_with (go_at_call 28; refine HH.out.mono ?_; rintro e w' ⟨rfl, hb1⟩)
    go_ret
    exact ⟨rfl, hb1⟩
end Go.Proofs.Ytcgpgflnihjpiad
