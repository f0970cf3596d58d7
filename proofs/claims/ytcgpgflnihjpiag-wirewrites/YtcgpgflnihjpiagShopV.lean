/- The shop, as a repo. -/
import Derived.Test.YtcgpgflnihjpiagShop
import Derived.Test.YtcgpgflnihjpiagOwn2
namespace Go.Proofs.Ytcgpgflnihjpiag
open Go.RowKit

theorem ShopAt.v2 {w : World} {lo g h : Nat} (S : ShopAt w lo g h) : RepoV w (some ⟨g, 0, none⟩) 6 6 crossL (some ⟨h, 0, none⟩) 2 2 shopH := by
  refine ⟨S.cm, ?_, by omega, S.hs, by omega, fun h => by cases h⟩
  intro b off e i hi x m c hor hx
  cases e
  obtain ⟨f, b1, b2, b3, b4, h1, _⟩ := S.cr
  subst hx
  rw [cell_of_row _ _ _ _ _ _ h1, cell_of_row _ _ _ _ _ _ h1] at hor
  match i, hi with
  | 0, _ => simpa [crossC, eq_comm] using hor
  | 1, _ => simp [crossC] at hor
  | 2, _ => simpa [crossC, eq_comm] using hor
  | 3, _ => simpa [crossC, eq_comm] using hor
  | 4, _ => simpa [crossC, eq_comm] using hor
  | 5, _ => simpa [crossC, eq_comm] using hor
end Go.Proofs.Ytcgpgflnihjpiag
