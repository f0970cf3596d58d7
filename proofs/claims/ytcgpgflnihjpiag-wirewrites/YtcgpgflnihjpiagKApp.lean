/- One commit more in a row of the own. -/
import Derived.Test.YtcgpgflnihjpiagOwn2
namespace Go.Proofs.Ytcgpgflnihjpiag
open Go.RowKit

/-- One commit more. -/
theorem OwnK.append {w w1 : World} {base : Nat} {v v' : Value} {C : List M.Com} {c : M.Com} {p : Value × Value} {vals : List (Value × Value)} (hl : vals.length = C.length) (h1 : w.ownsRow base 46 2 v C.length (encP vals)) (h2 : ∀ i, i < C.length → OwnCo w base (vals.getD i vp0) (C.getD i ([], [])))
    (hp : OwnCo w base p c) (h3 : w1.ownsRow base 46 2 v' (C.length + 1) (encP vals ++ [p.1, p.2])) (hg : w.grownBy w1 v.ownBlock) : OwnK w1 base v' (C ++ [c]) := by
  have no : ∀ e, e ≠ 46 → ∀ r, v.ownBlock = some r → ∀ cur, w.heap[r]? ≠ some (.cells cur e (0, 0)) := by
    intro e he r hr cur hc
    rcases h1.2 with ⟨rfl, _⟩ | ⟨g, cap, cur', rfl, _, hgb, _⟩
    · simp [Value.ownBlock] at hr
    · obtain rfl : g = r := by simpa [Value.ownBlock] using hr
      rw [hgb] at hc
      simp at hc
      exact he hc.2.symm
  have keep : ∀ q d, OwnCo w base q d → OwnCo w1 base q d := fun q d h => ⟨ownsRow_elsewhere h.1 hg (no _ (by decide)), ownsRow_elsewhere h.2.1 hg (no _ (by decide)), h.2.2⟩
  refine ⟨vals ++ [p], by simp [hl], ?_, fun i hi => ?_⟩
  · rw [encP_append, List.length_append]
    exact h3
  · by_cases hlt : i < C.length
    · have e1 : (vals ++ [p]).getD i vp0 = vals.getD i vp0 := by simp [List.getD, List.getElem?_append_left (show i < vals.length by omega)]
      have e2 : (C ++ [c]).getD i ([], []) = C.getD i ([], []) := by simp [List.getD, List.getElem?_append_left hlt]
      rw [e1, e2]
      exact keep _ _ (h2 i hlt)
    · obtain rfl : i = C.length := by simp at hi; omega
      have e1 : (vals ++ [p]).getD C.length vp0 = p := by rw [← hl]; simp [List.getD]
      have e2 : (C ++ [c]).getD C.length ([], []) = c := by simp [List.getD]
      rw [e1, e2]
      exact keep _ _ hp
end Go.Proofs.Ytcgpgflnihjpiag
