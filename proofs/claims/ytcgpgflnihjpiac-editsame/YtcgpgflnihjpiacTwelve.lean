/- The tree of twelve rows. -/
import Derived.Test.YtcgpgflnihjpiacTRows
import Derived.Test.YtcgpgflnihjpiacTCheck
import Derived.Test.YtcgpgflnihjpiacMany
namespace Go.Proofs.Ytcgpgflnihjpiac
open Go.RowKit

def T12 : List (List (List (Int × Int))) := [[[(0, 0), (3, 1), (6, 2), (9, 3)], [(12, 4), (15, 5), (18, 6)], [(21, 7), (24, 8), (27, 9)], [(30, 10), (33, 11)]], [[(9, 814), (18, 251), (27, 984), (33, 79)]]]
theorem chk12 : M.chk (manyTo 12) = 0 := by decide
theorem build12 : M.build (manyTo 12) = T12 := by decide
theorem flat12 : flat T12 = manyTo 12 := by decide
theorem tree12 : treeE T12 = 0 := by decide
theorem big12 : Big T12 := by unfold Big ground T12; simp
theorem build_many (a : Option Addr) (cap : Nat) (w : World) (h : Sl w a 12 cap (manyTo 12)) : Calls Try.prog 15 #[.slice a 12 cap] w fun e w' => ∃ b0 o0 c0, e = .returned (.tuple #[.slice (some ⟨b0, o0, none⟩) 2 c0, .int .i64 0]) ∧ TvS w' (some ⟨b0, o0, none⟩) 2 c0 T12 ∧ Below w.heap.size w w' := by
  refine (build_any a 12 cap (manyTo 12) w h).mono ?_
  rintro e w' ⟨v, rfl, ho, hb⟩
  rw [if_pos chk12, build12] at ho
  rw [chk12]
  obtain ⟨a0, n0, c0, rfl, ht⟩ := ho.tv
  obtain rfl : n0 = 2 := ht.1.1.symm
  obtain ⟨b0, o0, rfl, _⟩ := ht.1.at (by omega)
  exact ⟨b0, o0, c0, rfl, ht, hb⟩
theorem rows_many (b0 o0 c0 : Nat) (w : World) (ht : TvS w (some ⟨b0, o0, none⟩) 2 c0 T12) : Calls Try.prog 34 #[.slice (some ⟨b0, o0, none⟩) 2 c0] w fun e w' => ∃ a c, e = .returned (.tuple #[.slice a 12 c, .int .i64 0]) ∧ Sl w' a 12 c (manyTo 12) ∧ Below w.heap.size w w' := by
  refine (trows_ok _ _ _ T12 w ht big12 tree12).mono ?_
  rintro e w' ⟨v, rfl, ho, hb⟩
  rw [flat12] at ho
  obtain ⟨a, c, rfl, hs⟩ := Own.sl ho
  exact ⟨a, c, rfl, hs, hb⟩
theorem tcheck_many (b0 o0 c0 : Nat) (w : World) (ht : TvS w (some ⟨b0, o0, none⟩) 2 c0 T12) : Calls Try.prog 17 #[.slice (some ⟨b0, o0, none⟩) 2 c0] w fun e w' => e = .returned (.int .i64 0) ∧ Below w.heap.size w w' := by
  have := tcheck_any _ _ _ T12 w ht big12
  rwa [tree12] at this
theorem same_many (a a2 : Option Addr) (c c2 : Nat) (w : World) (h : Sl w a 12 c (manyTo 12)) (h2 : Sl w a2 12 c2 (manyTo 12)) : Calls Try.prog 27 #[.slice a 12 c, .slice a2 12 c2] w fun e w' => e = .returned (.bool true) ∧ Below w.heap.size w w' := by
  have := same_any a a2 12 12 c c2 _ _ w h.1 h2.1 (by omega)
  rwa [decide_eq_true rfl] at this
end Go.Proofs.Ytcgpgflnihjpiac
