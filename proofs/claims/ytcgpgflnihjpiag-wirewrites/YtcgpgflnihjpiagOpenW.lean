/- From an argument's reading to the repo that it holds, its nil slices too. -/
import Derived.Test.YtcgpgflnihjpiagOpenR
import Derived.Test.YtcgpgflnihjpiagOwn2
namespace Go.Proofs.Ytcgpgflnihjpiag
open Go.ChangeShapes Go.WideShapes Go.ChangeAt Go.RowKit Go.Deep

section
variable {H : Type} {enc : TypeId × Value → H} {w : World} {base : Nat} {spare : Nat → Bool} {held : Bool}

theorem open_rowsN {fuel : Nat} {cs : List Value} {x : DataW H × List MemPlace} (h : DataW.trod enc Try.prog w base spare held fuel 43 cs = some x) :
    ∃ a len cap, cs = [.slice a len cap] ∧ (a = none → len = 0 ∧ cap = 0) := by
  rcases open_slice_pairs Try.underlying43 Try.underlying56 (by kernel_rfl) rfl rfl (by kernel_rfl) (by kernel_rfl) h with ⟨rfl, rfl⟩ | ⟨ad, len, cap, m, n, V0, V1, D0, D1, P0, P1, rfl, _⟩
  · exact ⟨none, 0, 0, rfl, fun _ => ⟨rfl, rfl⟩⟩
  · exact ⟨some ad, len, cap, rfl, fun h => by simp at h⟩
theorem open_intsN {fuel : Nat} {cs : List Value} {x : DataW H × List MemPlace} (h : DataW.trod enc Try.prog w base spare held fuel 44 cs = some x) :
    ∃ a len cap, cs = [.slice a len cap] ∧ (a = none → len = 0 ∧ cap = 0) := by
  rcases open_slice1 Try.underlying44 (by kernel_rfl) h with ⟨rfl, rfl⟩ | ⟨ad, len, cap, m, n, V, D, Pl, rfl, _⟩
  · exact ⟨none, 0, 0, rfl, fun _ => ⟨rfl, rfl⟩⟩
  · exact ⟨some ad, len, cap, rfl, fun h => by simp at h⟩
theorem open_cn {fuel : Nat} {a : Option Addr} {len cap : Nat} {x : DataW H × List MemPlace} (h : DataW.trod enc Try.prog w base spare held fuel 22 [.slice a len cap] = some x) : Cn w a len := by
  rcases open_slice_pairs Try.underlying22 Try.underlying46 (by kernel_rfl) rfl rfl (by kernel_rfl) (by kernel_rfl) h with ⟨hcs, _⟩ | ⟨ad, len', cap', m, n, V0, V1, D0, D1, P0, P1, hcs, _, hl, hm, hmm, _, hc⟩
  · simp at hcs
    obtain ⟨rfl, rfl, rfl⟩ := hcs
    intro b off e
    simp at e
  · simp at hcs
    obtain ⟨rfl, rfl, rfl⟩ := hcs
    have hlm : len ≤ m := by rw [hmm]; split <;> omega
    intro b off e i hi y k c hor hy
    obtain rfl : ad = ⟨b, off, none⟩ := by simpa using e
    obtain ⟨c0, c1, t0, t1⟩ := hc i (by omega)
    obtain ⟨a1, n1, k1, e0, z0⟩ := open_rowsN t0
    obtain ⟨a2, n2, k2, e1, z1⟩ := open_intsN t1
    simp at e0 e1
    rw [e0, Addr.add_lit] at c0
    rw [e1, Addr.add_lit, ← Nat.add_assoc] at c1
    rcases hor with hcc | hcc
    · rw [hcc] at c0
      simp at c0
      obtain ⟨rfl, rfl, rfl⟩ := c0
      exact z0 hy
    · rw [hcc] at c1
      simp at c1
      obtain ⟨rfl, rfl, rfl⟩ := c1
      exact z1 hy
set_option maxRecDepth 100000 in
theorem open_repoV {r : Reach} {b0 : Nat} {v : Value} {d : DataW H} {p : List MemPlace} (hv : Value.okWide Try.prog w r b0 25 v) (h : DataW.Trod enc Try.prog w base spare held 25 v d p) :
    ∃ a n cap a2 n2 cap2 C L, v = .agg #[.slice a n cap, .slice a2 n2 cap2] ∧ RepoV w a n cap C a2 n2 cap2 L ∧ n2 ≤ cap2 ∧ cap2 ≤ maxLen := by
  obtain ⟨v0, v1, y0, y1, m, rfl, _, _, h0, h1⟩ := Joins.open_agg2 Try.underlying25 (by kernel_rfl) (by kernel_rfl) hv h
  obtain ⟨a, n, cap, C, rfl, c1, c2, c3⟩ := open_comsC h0
  obtain ⟨a2, n2, cap2, L, rfl, l1, l2, l3, l4⟩ := open_headsC h1
  exact ⟨a, n, cap, a2, n2, cap2, C, L, rfl, ⟨c1, open_cn h0, by unfold maxLen at c3; omega, l1, by unfold maxLen at l3; omega, l4⟩, l2, l3⟩
end
end Go.Proofs.Ytcgpgflnihjpiag
