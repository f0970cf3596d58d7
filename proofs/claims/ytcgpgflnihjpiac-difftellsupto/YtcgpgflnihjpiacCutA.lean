/- Plain facts on cutting, and rows of the call's own. -/
import Derived.Test.YtcgpgflnihjpiacCut2
import Derived.Test.YtcgpgflnihjpiacSame
import Derived.Test.YtcgpgflnihjpiacQuiet
namespace Go.Proofs.Ytcgpgflnihjpiac
open Go.RowKit

namespace M
theorem cut_at {level : Int} {l : List (Int × Int)} {fr k : Nat} (hfk : fr ≤ k) (hk : k < l.length) (A : lenFrom level (k - fr) (l.drop k) = len level (l.drop fr)) (x y : Int) (e : l.getD k (0, 0) = (x, y))
    (hs : k - fr + 1 = 6 ∨ (2 ≤ k - fr + 1 ∧ ends level x y = true) ∨ k + 1 = l.length) : cut level (l.drop fr) = (l.drop fr).take (k - fr + 1) :: cut level (l.drop (k + 1)) := by
  have hlen : len level (l.drop fr) = k - fr + 1 := by
    rw [← A]
    by_cases h : k - fr + 1 = 6 ∨ (2 ≤ k - fr + 1 ∧ ends level x y = true)
    · exact lenFrom_stop level (k - fr) l k hk x y e h
    · have hlast : k + 1 = l.length := by
        rcases hs with a | a | a
        · exact absurd (Or.inl a) h
        · exact absurd (Or.inr a) h
        · exact a
      rw [lenFrom_go level (k - fr) l k hk x y e h, lenFrom_end level _ l (k + 1) (by omega)]
  have hne : l.drop fr ≠ [] := fun h => by have := congrArg List.length h; simp at this; omega
  rw [cut_step level _ hne, hlen, List.drop_drop, show fr + (k - fr + 1) = k + 1 by omega]
theorem cut_on {level : Int} {l : List (Int × Int)} {fr k : Nat} (hfk : fr ≤ k) (hk : k < l.length) (A : lenFrom level (k - fr) (l.drop k) = len level (l.drop fr)) (x y : Int) (e : l.getD k (0, 0) = (x, y))
    (hs : ¬ (k - fr + 1 = 6 ∨ (2 ≤ k - fr + 1 ∧ ends level x y = true))) : lenFrom level (k + 1 - fr) (l.drop (k + 1)) = len level (l.drop fr) := by
  rw [← A, lenFrom_go level (k - fr) l k hk x y e hs, show k - fr + 1 = k + 1 - fr by omega]
end M

theorem Rd.mid {w : World} {b off n : Nat} {l : List (Int × Int)} (h : Rd w (some ⟨b, off, none⟩) n l) (i j : Nat) (hij : i + j ≤ n) : Rd w (some ⟨b, off + i * 2, none⟩) j ((l.drop i).take j) := (h.drop i).take j (by omega)

theorem own_empty0 (w : World) : Own (w.alloc (.cells #[] 56)) w.heap.size (.slice (some ⟨w.heap.size, 0, none⟩) 0 0) [] := World.ownsRow_made (base := w.heap.size) (e := 56) (size := 2) w #[] 0 (Nat.le_refl _) (by simp [maxLen]) rfl
theorem own_shape {w : World} {base : Nat} {v : Value} {l : List (Int × Int)} (h : Own w base v l) : ∃ a n cap, v = .slice a n cap := by
  obtain ⟨a, cap, rfl, _⟩ := h.rd
  exact ⟨a, _, cap, rfl⟩

end Go.Proofs.Ytcgpgflnihjpiac
