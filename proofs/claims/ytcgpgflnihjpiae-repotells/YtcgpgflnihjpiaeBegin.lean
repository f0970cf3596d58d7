/- repo.Begin, the reference's BeginOf. -/
import Derived.Test.YtcgpgflnihjpiaeShop
namespace Go.Proofs.Ytcgpgflnihjpiae
open Go.RowKit

def beginH : List M.Hd := [(sMain, 0)]
/-- The world in which a repo as it begins has been made. -/
def BeginW (w : World) : World := ((w.alloc (.cells #[.slice (some ⟨w.heap.size + 1, 0, none⟩) 1 1, .slice (some ⟨w.heap.size + 1 + 1, 0, none⟩) 1 1] 40)).alloc (.cells #[.slice none 0 0, .slice none 0 0] 49)).alloc (.cells #[.string ⟨#[109, 97, 105, 110]⟩, .int .i64 0] 59)
theorem beginW_facts (w : World) : Cm (BeginW w) (some ⟨w.heap.size + 1, 0, none⟩) 1 [([], [])] ∧ Hs (BeginW w) (some ⟨w.heap.size + 1 + 1, 0, none⟩) 1 beginH ∧ Below w.heap.size w (BeginW w) := by
  unfold BeginW
  refine ⟨⟨rfl, Or.inr ⟨_, 0, rfl, by simp, fun i hi => ?_⟩⟩, ⟨rfl, Or.inr ⟨_, 0, rfl, by simp, fun i hi => ?_⟩⟩, (((Below.refl _ _).alloc (Nat.le_refl _) _).alloc (by simp) _).alloc (by simp; omega) _⟩
  · obtain rfl : i = 0 := by omega
    exact ⟨none, 0, 0, none, 0, 0, by simp [go_sem], by simp [go_sem], rd_nil _ _, ri_nil _ _, by omega, by omega⟩
  · obtain rfl : i = 0 := by omega
    exact ⟨by simp [go_sem, beginH, sMain], by simp [go_sem, beginH], by decide⟩
theorem begin_any (w : World) : Calls Try.prog 35 #[] w fun e w' => ∃ g h, e = .returned (.agg #[.slice (some ⟨g, 0, none⟩) 1 1, .slice (some ⟨h, 0, none⟩) 1 1]) ∧ Cm w' (some ⟨g, 0, none⟩) 1 [([], [])] ∧ Hs w' (some ⟨h, 0, none⟩) 1 beginH ∧ Below w.heap.size w w' := by
  go_enter Try.func35, Try.ntmps35
  go_wp2
  refine bodyPost_ret (v := .agg #[.slice (some ⟨w.heap.size + 1, 0, none⟩) 1 1, .slice (some ⟨w.heap.size + 1 + 1, 0, none⟩) 1 1]) (by simp [results, Try.results35, go_sem]) rfl ?_
  exact ⟨_, _, rfl, beginW_facts w⟩
theorem beginOf_any (w : World) : Calls Try.prog 37 #[] w fun e w' => ∃ g h, e = .returned (.agg #[.slice (some ⟨g, 0, none⟩) 1 1, .slice (some ⟨h, 0, none⟩) 1 1]) ∧ Cm w' (some ⟨g, 0, none⟩) 1 [([], [])] ∧ Hs w' (some ⟨h, 0, none⟩) 1 beginH ∧ Below w.heap.size w w' := by
  go_enter Try.func37, Try.ntmps37
  go_wp2
  refine bodyPost_ret (v := .agg #[.slice (some ⟨w.heap.size + 1, 0, none⟩) 1 1, .slice (some ⟨w.heap.size + 1 + 1, 0, none⟩) 1 1]) (by simp [results, Try.results37, go_sem]) rfl ?_
  exact ⟨_, _, rfl, beginW_facts w⟩
end Go.Proofs.Ytcgpgflnihjpiae
