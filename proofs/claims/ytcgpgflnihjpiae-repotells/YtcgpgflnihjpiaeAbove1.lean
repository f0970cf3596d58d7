/- dag.Above of one of right commits. -/
import Derived.Test.YtcgpgflnihjpiaeDag4
namespace Go.Proofs.Ytcgpgflnihjpiae
open Go.RowKit

theorem dabove_in (a : Option Addr) (n cap : Nat) (C : List M.Com) (x : Nat) (w : World) (h : Cm w a n C) (hz : M.dchk C = 0) (hx : x < n) :
    Calls Try.prog 13 #[.slice a n cap, .int .i64 x] w fun e w' => ∃ g, e = .returned (.tuple #[.slice (some ⟨g, 0, none⟩) n n, .int .i64 0]) ∧ w.heap.size ≤ g ∧ Bo w' g (M.above C x) ∧ Below w.heap.size w w' := by
  have hl := h.1
  refine (dabove_good a n cap C x w h hz).mono ?_
  rintro e w1 ⟨hb1, hor⟩
  rcases hor with ⟨hr, rfl⟩ | ⟨hr, g, hg, rfl, hbo⟩
  · obtain ⟨z, hz, hr⟩ := hr
    simp at hz
    omega
  · rw [M.range_above C n x hl _ (fun i _ => M.all_one C x i)] at hbo
    exact ⟨g, rfl, hg, hbo, hb1⟩

end Go.Proofs.Ytcgpgflnihjpiae
