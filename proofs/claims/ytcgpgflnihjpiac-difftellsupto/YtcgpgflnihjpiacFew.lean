/- The law's few rows. -/
import Derived.Test.YtcgpgflnihjpiacBase
namespace Go.Proofs.Ytcgpgflnihjpiac
open Go.RowKit

def fewL : List (Int × Int) := [(2, 5), (7, 0), (9, 30)]
theorem fewL_any (w : World) : Calls Try.prog 48 #[] w fun e w' => e = .returned (.slice (some ⟨w.heap.size, 0, none⟩) 3 3) ∧ Rd w' (some ⟨w.heap.size, 0, none⟩) 3 fewL ∧ Below w.heap.size w w' := by
  go_enter Try.func48, Try.ntmps48
  go_wp2
  go_ret
  refine ⟨rfl, ⟨rfl, Or.inr ⟨w.heap.size, 0, rfl, by simp, fun i hi => ?_⟩⟩, (Below.refl _ _).alloc (Nat.le_refl _) _⟩
  match i, hi with
  | 0, _ => constructor <;> simp [go_sem, fewL]
  | 1, _ => constructor <;> simp [go_sem, fewL]
  | 2, _ => constructor <;> simp [go_sem, fewL]
theorem rd_three (w : World) (a b c d e f : Int) : Rd (w.alloc (.cells #[.int .i64 a, .int .i64 b, .int .i64 c, .int .i64 d, .int .i64 e, .int .i64 f] 56)) (some ⟨w.heap.size, 0, none⟩) 3 [(a, b), (c, d), (e, f)] := by
  refine ⟨rfl, Or.inr ⟨w.heap.size, 0, rfl, by simp, fun i hi => ?_⟩⟩
  match i, hi with
  | 0, _ => constructor <;> simp [go_sem]
  | 1, _ => constructor <;> simp [go_sem]
  | 2, _ => constructor <;> simp [go_sem]
end Go.Proofs.Ytcgpgflnihjpiac
