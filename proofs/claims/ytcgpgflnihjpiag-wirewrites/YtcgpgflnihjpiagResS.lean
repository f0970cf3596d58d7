/- A result of two cells that is set. -/
import Derived.Test.YtcgpgflnihjpiagOwn2
namespace Go.Proofs.Ytcgpgflnihjpiag
open Go.RowKit

/-- A repo that is the call's own, when a result's block has been set. -/
theorem repoOwn_set {w : World} {base R : Nat} {c0 c1 x y : Value} {C : List M.Com} {H : List M.Hd} (h : w.heap[R]? = some (.cells #[c0, c1] 25 (0, 0))) (hx : OwnK w base x C) (hy : OwnH w base y H) :
    RepoOwn ((w.setCell ⟨R, 0, none⟩ x).setCell ⟨R, 1, none⟩ y) base (.agg #[x, y]) C H := by
  have h1 := heap_setCell_same w R 0 _ _ x h
  have k1 := hx.elsewhere (grownBy_set w ⟨R, 0, none⟩ x) h (by decide) (by decide) (by decide)
  have k2 := hy.elsewhere (grownBy_set w ⟨R, 0, none⟩ x) h (by decide)
  exact ⟨x, y, rfl, k1.elsewhere (grownBy_set _ ⟨R, 1, none⟩ y) h1 (by decide) (by decide) (by decide), k2.elsewhere (grownBy_set _ ⟨R, 1, none⟩ y) h1 (by decide)⟩

/-- A result of two cells that is set. -/
theorem res_set {w : World} {R : Nat} {c0 c1 : Value} {t : TypeId} (h : w.heap[R]? = some (.cells #[c0, c1] t (0, 0))) (u v : Value) :
    ((w.setCell ⟨R, 0, none⟩ u).setCell ⟨R, 1, none⟩ v).heap[R]? = some (.cells #[u, v] t (0, 0)) ∧ (∀ k, k ≠ R → ((w.setCell ⟨R, 0, none⟩ u).setCell ⟨R, 1, none⟩ v).heap[k]? = w.heap[k]?) ∧ ((w.setCell ⟨R, 0, none⟩ u).setCell ⟨R, 1, none⟩ v).heap.size = w.heap.size := by
  refine ⟨?_, fun k hk => ?_, by simp [World.setCell]⟩
  · rw [heap_setCell_same _ _ _ _ _ _ (heap_setCell_same _ _ _ _ _ _ h)]; rfl
  · rw [heap_setCell_other _ _ _ _ (by exact hk), heap_setCell_other _ _ _ _ (by exact hk)]
end Go.Proofs.Ytcgpgflnihjpiag
