/- From an argument's reading to the commits that it holds. -/
import Derived.Test.YtcgpgflnihjpiadOpen
import Derived.Test.YtcgpgflnihjpiadDag1
namespace Go.Proofs.Ytcgpgflnihjpiad
open Go.ChangeShapes Go.WideShapes Go.ChangeAt Go.RowKit Go.Deep

section
variable {H : Type} {enc : TypeId × Value → H} {w : World} {base : Nat} {spare : Nat → Bool} {held : Bool}

theorem open_rowsC {fuel : Nat} {cs : List Value} {x : DataW H × List MemPlace} (h : DataW.trod enc Try.prog w base spare held fuel 22 cs = some x) :
    ∃ a len cap l, cs = [.slice a len cap] ∧ Rd w a len l ∧ len ≤ 9223372036854775807 := by
  rcases open_slice_pairs Try.underlying22 Try.underlying63 (by kernel_rfl) rfl rfl (by kernel_rfl) (by kernel_rfl) h with ⟨rfl, rfl⟩ | ⟨ad, len, cap, m, n, V0, V1, D0, D1, P0, P1, rfl, _, hl, hm, hmm, rfl, hc⟩
  · obtain ⟨l, r1, r2⟩ := open_rows h
    exact ⟨none, 0, 0, l, rfl, r1, by omega⟩
  · obtain ⟨l, r1, r2⟩ := open_rows h
    exact ⟨some ad, len, cap, l, rfl, r1, by unfold maxLen at hm; omega⟩

theorem open_intsC {fuel : Nat} {cs : List Value} {x : DataW H × List MemPlace} (h : DataW.trod enc Try.prog w base spare held fuel 43 cs = some x) :
    ∃ a len cap l, cs = [.slice a len cap] ∧ Ri w a len l ∧ len ≤ 9223372036854775807 := by
  rcases open_slice1 Try.underlying43 (by kernel_rfl) h with ⟨rfl, rfl⟩ | ⟨ad, len, cap, m, n, V, D, Pl, rfl, _, hl, hm, hmm, rfl, hc⟩
  · exact ⟨none, 0, 0, [], rfl, ⟨rfl, Or.inl rfl⟩, by omega⟩
  · have hlm : len ≤ m := by rw [hmm]; split <;> omega
    have each : ∀ i, i < len → ∃ q : Int, w.cell? (ad.add i) = some (.int .i64 q) := by
      intro i hi
      obtain ⟨c0, t0⟩ := hc i (by omega)
      obtain ⟨x0, e0, _, _⟩ := DataW.trod_int (k := .i64) Try.underlying3 t0
      simp at e0
      rw [e0] at c0
      exact ⟨x0, c0⟩
    obtain ⟨q, hq⟩ := choose_lt each
    refine ⟨some ad, len, cap, (List.range len).map q, rfl, ⟨by simp, ?_⟩, by unfold maxLen at hm; omega⟩
    by_cases h0 : len = 0
    · exact Or.inl h0
    · obtain ⟨b, off, spot⟩ := ad
      have hs : spot = none := by
        have h1 := hq 0 (by omega)
        simpa [Addr.add] using World.cell?_spot h1
      subst hs
      refine Or.inr ⟨b, off, rfl, World.block_lt_of_cell? w _ (hq 0 (by omega)), fun i hi => ?_⟩
      have h1 := hq i hi
      rw [Addr.add_lit] at h1
      have e : ((List.range len).map q).getD i 0 = q i := by simp [List.getD, hi]
      rw [e]
      exact h1

theorem open_coms {fuel : Nat} {a : Option Addr} {len cap : Nat} {x : DataW H × List MemPlace} (h : DataW.trod enc Try.prog w base spare held fuel 49 [.slice a len cap] = some x) :
    ∃ L, Cm w a len L ∧ len ≤ cap ∧ cap ≤ maxLen := by
  rcases open_slice_pairs Try.underlying49 Try.underlying90 (by kernel_rfl) rfl rfl (by kernel_rfl) (by kernel_rfl) h with ⟨hcs, _⟩ | ⟨ad, len', cap', m, n, V0, V1, D0, D1, P0, P1, hcs, _, hl, hm, hmm, _, hc⟩
  · simp at hcs
    obtain ⟨rfl, rfl, rfl⟩ := hcs
    exact ⟨[], ⟨rfl, Or.inl rfl⟩, Nat.le_refl _, by simp [maxLen]⟩
  · simp at hcs
    obtain ⟨rfl, rfl, rfl⟩ := hcs
    have hlm : len ≤ m := by rw [hmm]; split <;> omega
    have each : ∀ i, i < len → ∃ q : ((Option Addr × Nat × Nat) × (Option Addr × Nat × Nat)) × M.Com, w.cell? (ad.add (i * 2)) = some (.slice q.1.1.1 q.1.1.2.1 q.1.1.2.2) ∧ w.cell? (ad.add (i * 2 + 1)) = some (.slice q.1.2.1 q.1.2.2.1 q.1.2.2.2) ∧ Rd w q.1.1.1 q.1.1.2.1 q.2.1 ∧ Ri w q.1.2.1 q.1.2.2.1 q.2.2 ∧ q.1.1.2.1 ≤ 9223372036854775807 ∧ q.1.2.2.1 ≤ 9223372036854775807 := by
      intro i hi
      obtain ⟨c0, c1, t0, t1⟩ := hc i (by omega)
      obtain ⟨a1, n1, k1, l1, e0, r1, m1⟩ := open_rowsC t0
      obtain ⟨a2, n2, k2, l2, e1, r2, m2⟩ := open_intsC t1
      simp at e0 e1
      rw [e0] at c0
      rw [e1] at c1
      exact ⟨(((a1, n1, k1), (a2, n2, k2)), (l1, l2)), c0, c1, r1, r2, m1, m2⟩
    obtain ⟨q, hq⟩ := choose_lt each
    refine ⟨(List.range len).map fun i => (q i).2, ⟨by simp, ?_⟩, hl, hm⟩
    by_cases h0 : len = 0
    · exact Or.inl h0
    · obtain ⟨b, off, spot⟩ := ad
      have hs : spot = none := by
        have h1 := (hq 0 (by omega)).1
        simpa [Addr.add] using World.cell?_spot h1
      subst hs
      refine Or.inr ⟨b, off, rfl, World.block_lt_of_cell? w _ (hq 0 (by omega)).1, fun i hi => ?_⟩
      have h1 := hq i hi
      rw [Addr.add_lit, Addr.add_lit, ← Nat.add_assoc] at h1
      have e : ((List.range len).map fun i => (q i).2).getD i ([], []) = (q i).2 := by simp [List.getD, hi]
      rw [e]
      exact ⟨_, _, _, _, _, _, h1⟩
end
end Go.Proofs.Ytcgpgflnihjpiad
