/- From an argument's reading to the repo that it holds. -/
import Derived.Test.YtcgpgflnihjpiaeOpenC
import Derived.Test.YtcgpgflnihjpiaeHeads1
import Derived.Lib.SmallJoins
import Derived.ChangeMaps5
namespace Go.Proofs.Ytcgpgflnihjpiae
open Go.ChangeShapes Go.WideShapes Go.ChangeAt Go.RowKit Go.Deep

section
variable {H : Type} {enc : TypeId × Value → H} {w : World} {base : Nat} {spare : Nat → Bool} {held : Bool}

theorem open_comsC {fuel : Nat} {v : Value} {x : DataW H × List MemPlace} (h : DataW.trod enc Try.prog w base spare held fuel 22 [v] = some x) :
    ∃ a len cap L, v = .slice a len cap ∧ Cm w a len L ∧ len ≤ cap ∧ cap ≤ maxLen := by
  rcases open_slice_pairs Try.underlying22 Try.underlying49 (by kernel_rfl) rfl rfl (by kernel_rfl) (by kernel_rfl) h with ⟨hcs, _⟩ | ⟨ad, len', cap', m, n, V0, V1, D0, D1, P0, P1, hcs, _⟩
  · simp at hcs
    subst hcs
    obtain ⟨L, r⟩ := open_coms h
    exact ⟨none, 0, 0, L, rfl, r⟩
  · simp at hcs
    subst hcs
    obtain ⟨L, r⟩ := open_coms h
    exact ⟨some ad, len', cap', L, rfl, r⟩

theorem open_headsC {fuel : Nat} {v : Value} {x : DataW H × List MemPlace} (h : DataW.trod enc Try.prog w base spare held fuel 38 [v] = some x) :
    ∃ a len cap L, v = .slice a len cap ∧ Hs w a len L ∧ len ≤ cap ∧ cap ≤ maxLen ∧ (a = none → len = 0 ∧ cap = 0) := by
  rcases open_slice_pairs Try.underlying38 Try.underlying59 (by kernel_rfl) rfl rfl (by kernel_rfl) (by kernel_rfl) h with ⟨hcs, _⟩ | ⟨ad, len, cap, m, n, V0, V1, D0, D1, P0, P1, hcs, _, hl, hm, hmm, _, hc⟩
  · simp at hcs
    subst hcs
    exact ⟨none, 0, 0, [], rfl, ⟨rfl, Or.inl rfl⟩, Nat.le_refl _, by simp [maxLen], fun _ => ⟨rfl, rfl⟩⟩
  · simp at hcs
    subst hcs
    have hlm : len ≤ m := by rw [hmm]; split <;> omega
    have each : ∀ i, i < len → ∃ q : M.Hd, w.cell? (ad.add (i * 2)) = some (.string q.1) ∧ w.cell? (ad.add (i * 2 + 1)) = some (.int .i64 q.2) ∧ q.1.size ≤ 9223372036854775807 := by
      intro i hi
      obtain ⟨c0, c1, t0, t1⟩ := hc i (by omega)
      obtain ⟨s0, e0, _, z0⟩ := DataW.trod_string Try.underlying9 t0
      obtain ⟨x1, e1, _, _⟩ := DataW.trod_int (k := .i64) Try.underlying3 t1
      simp at e0 e1
      rw [e0] at c0
      rw [e1] at c1
      exact ⟨(s0, x1), c0, c1, by unfold maxLen at z0; exact z0⟩
    obtain ⟨q, hq⟩ := choose_lt each
    refine ⟨some ad, len, cap, (List.range len).map q, rfl, ⟨by simp, ?_⟩, hl, hm, fun h => by simp at h⟩
    by_cases h0 : len = 0
    · exact Or.inl h0
    · obtain ⟨b, off, spot⟩ := ad
      have hs : spot = none := by
        have h1 := (hq 0 (by omega)).1
        simpa [Addr.add] using World.cell?_spot h1
      subst hs
      refine Or.inr ⟨b, off, rfl, World.block_lt_of_cell? w _ (hq 0 (by omega)).1, fun i hi => ?_⟩
      have h1 := hq i hi
      rw [Addr.add_lit, Addr.add_lit, ← Nat.add_assoc] at h1
      have e : ((List.range len).map q).getD i M.hd0 = q i := by simp [List.getD, hi]
      rw [e]
      exact h1

set_option maxRecDepth 100000 in
theorem open_repo {r : Reach} {b0 : Nat} {v : Value} {d : DataW H} {p : List MemPlace} (hv : Value.okWide Try.prog w r b0 40 v) (h : DataW.Trod enc Try.prog w base spare held 40 v d p) :
    ∃ a n cap a2 n2 cap2 C L, v = .agg #[.slice a n cap, .slice a2 n2 cap2] ∧ Cm w a n C ∧ n ≤ 9223372036854775807 ∧ Hs w a2 n2 L ∧ n2 ≤ 9223372036854775807 := by
  obtain ⟨v0, v1, y0, y1, m, rfl, _, _, h0, h1⟩ := Joins.open_agg2 Try.underlying40 (by kernel_rfl) (by kernel_rfl) hv h
  obtain ⟨a, n, cap, C, rfl, c1, c2, c3⟩ := open_comsC h0
  obtain ⟨a2, n2, cap2, L, rfl, l1, l2, l3, _⟩ := open_headsC h1
  exact ⟨a, n, cap, a2, n2, cap2, C, L, rfl, c1, by unfold maxLen at c3; omega, l1, by unfold maxLen at l3; omega⟩
end
end Go.Proofs.Ytcgpgflnihjpiae
