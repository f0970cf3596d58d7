/- For every repo, every act and every name, the law WorkRight returns true and leaves its arguments as they were: whatever is done, what comes is right; no commit is ever changed or lost, and no head but the one that is named. No condition. -/
import Derived.Test.YtcgpgflnihjpiafGreatRows
import Derived.Test.YtcgpgflnihjpiafGreatBWorkRight01
import Derived.ProofKit
import Derived.OpenShut
import Derived.ChangeOld
import Derived.Deep.SlicePairs
import Derived.Deep.RegionHeld
import Derived.Test.YtcgpgflnihjpiafGreatBWorkRight04
import Derived.Lib.SmallJoins
import Derived.ChangeMaps5
import Derived.Test.YtcgpgflnihjpiafGreatBWorkRight02
import Derived.Test.YtcgpgflnihjpiafGreatBWorkRight09
import Derived.Test.YtcgpgflnihjpiafGreatBWorkRight07
import Derived.Test.YtcgpgflnihjpiafGreatBWorkRight08
namespace Go.Proofs.YtcgpgflnihjpiafGreat
open Go.ChangeShapes Go.WideShapes Go.ChangeAt Go.RowKit Go.Deep

theorem ownTry : ownKnob Tryz.prog.godebug = none := by kernel_rfl
theorem laidTry : laidOutB Tryz.prog = true := by kernel_rfl

theorem open_rows {H : Type} {enc : TypeId × Value → H} {w : World} {base : Nat} {spare : Nat → Bool} {held : Bool} {fuel : Nat} {a : Option Addr} {len cap : Nat} {x : DataW H × List MemPlace}
    (h : DataW.trod enc Tryz.prog w base spare held fuel 49 [.slice a len cap] = some x) : ∃ l, Rd w a len l ∧ len ≤ cap ∧ cap ≤ maxLen ∧ (a = none → len = 0 ∧ cap = 0) := by
  rcases open_slice_pairs Tryz.underlying49 Tryz.underlying98 (by kernel_rfl) rfl rfl (by kernel_rfl) (by kernel_rfl) h with ⟨hcs, _⟩ | ⟨ad, len', cap', m, n, V0, V1, D0, D1, P0, P1, hcs, _, hl, hm, hmm, _, hc⟩
  · simp at hcs
    obtain ⟨rfl, rfl, rfl⟩ := hcs
    exact ⟨[], ⟨rfl, Or.inl rfl⟩, Nat.le_refl _, by simp [maxLen], fun _ => ⟨rfl, rfl⟩⟩
  · simp at hcs
    obtain ⟨rfl, rfl, rfl⟩ := hcs
    have hlm : len ≤ m := by rw [hmm]; split <;> omega
    have each : ∀ i, i < len → ∃ q : Int × Int, w.cell? (ad.add (i * 2)) = some (.int .i64 q.1) ∧ w.cell? (ad.add (i * 2 + 1)) = some (.int .i64 q.2) := by
      intro i hi
      obtain ⟨c0, c1, t0, t1⟩ := hc i (by omega)
      obtain ⟨x0, e0, _, _⟩ := DataW.trod_int (k := .i64) Tryz.underlying3 t0
      obtain ⟨x1, e1, _, _⟩ := DataW.trod_int (k := .i64) Tryz.underlying3 t1
      simp at e0 e1
      rw [e0] at c0
      rw [e1] at c1
      exact ⟨(x0, x1), c0, c1⟩
    obtain ⟨q, hq⟩ := choose_lt each
    refine ⟨(List.range len).map q, ⟨by simp, ?_⟩, hl, hm, fun h => by simp at h⟩
    by_cases h0 : len = 0
    · exact Or.inl h0
    · obtain ⟨b, off, spot⟩ := ad
      have hs : spot = none := by
        have h1 := (hq 0 (by omega)).1
        simpa [Addr.add] using World.cell?_spot h1
      subst hs
      refine Or.inr ⟨b, off, rfl, World.block_lt_of_cell? w _ (hq 0 (by omega)).1, fun i hi => ?_⟩
      have h1 := hq i hi
      rw [Addr.add_lit, Addr.add_lit, ← Nat.add_assoc] at h1
      have e : ((List.range len).map q).getD i (0, 0) = q i := by simp [List.getD, hi]
      rw [e]
      exact h1
end Go.Proofs.YtcgpgflnihjpiafGreat

/- From an argument's reading to the changes that it holds. -/
namespace Go.Proofs.YtcgpgflnihjpiafGreat
open Go.ChangeShapes Go.WideShapes Go.ChangeAt Go.RowKit Go.Deep

theorem list3 {α : Type} (l : List α) (h : l.length = 3) : ∃ a b c, l = [a, b, c] := by
  match l, h with
  | [a, b, c], _ => exact ⟨a, b, c, rfl⟩
set_option maxRecDepth 10000 in
theorem open_changes {H : Type} {enc : TypeId × Value → H} {w : World} {base : Nat} {spare : Nat → Bool} {held : Bool} {fuel : Nat} {a : Option Addr} {len cap : Nat} {x : DataW H × List MemPlace}
    (h : DataW.trod enc Tryz.prog w base spare held fuel 26 [.slice a len cap] = some x) : ∃ l, Rc w a len l ∧ len ≤ cap ∧ cap ≤ maxLen := by
  rcases open_slice Tryz.underlying26 h with ⟨hcs, _⟩ | ⟨ad, len', cap', m, n, D, Pl, hcs, hb, hl, hm, hmm, _, hx⟩
  · simp at hcs
    obtain ⟨rfl, rfl, rfl⟩ := hcs
    exact ⟨[], ⟨rfl, Or.inl rfl⟩, Nat.le_refl _, by simp [maxLen]⟩
  · simp at hcs
    obtain ⟨rfl, rfl, rfl⟩ := hcs
    have hlm : len ≤ m := by rw [hmm]; split <;> omega
    have ce : Tryz.prog.cellsOf 69 = 3 := by kernel_rfl
    have each : ∀ i, i < len → ∃ q : M.Chg, w.cell? (ad.add (i * 3)) = some (.int .i64 q.1) ∧ w.cell? (ad.add (i * 3 + 1)) = some (.int .i64 q.2.1) ∧ w.cell? (ad.add (i * 3 + 2)) = some (.int .i64 q.2.2) := by
      intro i hi
      obtain ⟨cs', h1, h2⟩ := hx i (by omega)
      rw [ce] at h1
      obtain ⟨_, hlen, hcell⟩ := World.cells?_some h1
      obtain ⟨xs, k, hk, hxy, _, hxl, hf⟩ := DataW.trod_struct Tryz.underlying69 h2
      obtain ⟨v0, v1, v2, rfl⟩ := list3 cs' hlen
      obtain ⟨z0, z1, z2, rfl⟩ := list3 xs hxl
      have g0 := hf 0 _ rfl
      have g1 := hf 1 _ rfl
      have g2 := hf 2 _ rfl
      have c1 : Tryz.prog.cellsOf 3 = 1 := by kernel_rfl
      simp [c1] at g0 g1 g2
      obtain ⟨y0, g0⟩ : ∃ y, DataW.trod enc Tryz.prog w base spare held k 3 [v0] = some y := ⟨_, g0⟩
      obtain ⟨y1, g1⟩ : ∃ y, DataW.trod enc Tryz.prog w base spare held k 3 [v1] = some y := ⟨_, g1⟩
      obtain ⟨y2, g2⟩ : ∃ y, DataW.trod enc Tryz.prog w base spare held k 3 [v2] = some y := ⟨_, g2⟩
      obtain ⟨x0, e0, _, _⟩ := DataW.trod_int (k := .i64) Tryz.underlying3 g0
      obtain ⟨x1, e1, _, _⟩ := DataW.trod_int (k := .i64) Tryz.underlying3 g1
      obtain ⟨x2, e2, _, _⟩ := DataW.trod_int (k := .i64) Tryz.underlying3 g2
      simp at e0 e1 e2
      have q0 := hcell 0 (by omega)
      have q1 := hcell 1 (by omega)
      have q2 := hcell 2 (by omega)
      rw [add_add] at q0 q1 q2
      subst e0 e1 e2
      exact ⟨(x0, x1, x2), by simpa using q0, by simpa using q1, by simpa using q2⟩
    obtain ⟨q, hq⟩ := choose_lt each
    refine ⟨(List.range len).map q, ⟨by simp, ?_⟩, hl, hm⟩
    by_cases h0 : len = 0
    · exact Or.inl h0
    · obtain ⟨b, off, spot⟩ := ad
      have hs : spot = none := by
        have h1 := (hq 0 (by omega)).1
        simpa [Addr.add] using World.cell?_spot h1
      subst hs
      refine Or.inr ⟨b, off, rfl, World.block_lt_of_cell? w _ (hq 0 (by omega)).1, fun i hi => ?_⟩
      have h1 := hq i hi
      rw [Addr.add_lit, Addr.add_lit, Addr.add_lit, ← Nat.add_assoc, ← Nat.add_assoc] at h1
      have e : ((List.range len).map q).getD i (0, 0, 0) = q i := by simp [List.getD, hi]
      rw [e]
      exact h1
end Go.Proofs.YtcgpgflnihjpiafGreat

/- From an argument's reading to the commits that it holds. -/
namespace Go.Proofs.YtcgpgflnihjpiafGreat
open Go.ChangeShapes Go.WideShapes Go.ChangeAt Go.RowKit Go.Deep

section
variable {H : Type} {enc : TypeId × Value → H} {w : World} {base : Nat} {spare : Nat → Bool} {held : Bool}

theorem open_rowsC {fuel : Nat} {cs : List Value} {x : DataW H × List MemPlace} (h : DataW.trod enc Tryz.prog w base spare held fuel 49 cs = some x) :
    ∃ a len cap l, cs = [.slice a len cap] ∧ Rd w a len l ∧ len ≤ 9223372036854775807 := by
  rcases open_slice_pairs Tryz.underlying49 Tryz.underlying98 (by kernel_rfl) rfl rfl (by kernel_rfl) (by kernel_rfl) h with ⟨rfl, rfl⟩ | ⟨ad, len, cap, m, n, V0, V1, D0, D1, P0, P1, rfl, _, hl, hm, hmm, rfl, hc⟩
  · obtain ⟨l, r1, r2⟩ := open_rows h
    exact ⟨none, 0, 0, l, rfl, r1, by omega⟩
  · obtain ⟨l, r1, r2⟩ := open_rows h
    exact ⟨some ad, len, cap, l, rfl, r1, by unfold maxLen at hm; omega⟩

theorem open_intsC {fuel : Nat} {cs : List Value} {x : DataW H × List MemPlace} (h : DataW.trod enc Tryz.prog w base spare held fuel 38 cs = some x) :
    ∃ a len cap l, cs = [.slice a len cap] ∧ Ri w a len l ∧ len ≤ 9223372036854775807 := by
  rcases open_slice1 Tryz.underlying38 (by kernel_rfl) h with ⟨rfl, rfl⟩ | ⟨ad, len, cap, m, n, V, D, Pl, rfl, _, hl, hm, hmm, rfl, hc⟩
  · exact ⟨none, 0, 0, [], rfl, ⟨rfl, Or.inl rfl⟩, by omega⟩
  · have hlm : len ≤ m := by rw [hmm]; split <;> omega
    have each : ∀ i, i < len → ∃ q : Int, w.cell? (ad.add i) = some (.int .i64 q) := by
      intro i hi
      obtain ⟨c0, t0⟩ := hc i (by omega)
      obtain ⟨x0, e0, _, _⟩ := DataW.trod_int (k := .i64) Tryz.underlying3 t0
      simp at e0
      rw [e0] at c0
      exact ⟨x0, c0⟩
    obtain ⟨q, hq⟩ := choose_lt each
    refine ⟨some ad, len, cap, (List.range len).map q, rfl, ⟨by simp, ?_⟩, by unfold maxLen at hm; omega⟩
    by_cases h0 : len = 0
    · exact Or.inl h0
    · obtain ⟨b, off, spot⟩ := ad
      have hs : spot = none := by
        have h1 := hq 0 (by omega)
        simpa [Addr.add] using World.cell?_spot h1
      subst hs
      refine Or.inr ⟨b, off, rfl, World.block_lt_of_cell? w _ (hq 0 (by omega)), fun i hi => ?_⟩
      have h1 := hq i hi
      rw [Addr.add_lit] at h1
      have e : ((List.range len).map q).getD i 0 = q i := by simp [List.getD, hi]
      rw [e]
      exact h1

theorem open_coms {fuel : Nat} {a : Option Addr} {len cap : Nat} {x : DataW H × List MemPlace} (h : DataW.trod enc Tryz.prog w base spare held fuel 22 [.slice a len cap] = some x) :
    ∃ L, Cm w a len L ∧ len ≤ cap ∧ cap ≤ maxLen := by
  rcases open_slice_pairs Tryz.underlying22 Tryz.underlying51 (by kernel_rfl) rfl rfl (by kernel_rfl) (by kernel_rfl) h with ⟨hcs, _⟩ | ⟨ad, len', cap', m, n, V0, V1, D0, D1, P0, P1, hcs, _, hl, hm, hmm, _, hc⟩
  · simp at hcs
    obtain ⟨rfl, rfl, rfl⟩ := hcs
    exact ⟨[], ⟨rfl, Or.inl rfl⟩, Nat.le_refl _, by simp [maxLen]⟩
  · simp at hcs
    obtain ⟨rfl, rfl, rfl⟩ := hcs
    have hlm : len ≤ m := by rw [hmm]; split <;> omega
    have each : ∀ i, i < len → ∃ q : ((Option Addr × Nat × Nat) × (Option Addr × Nat × Nat)) × M.Com, w.cell? (ad.add (i * 2)) = some (.slice q.1.1.1 q.1.1.2.1 q.1.1.2.2) ∧ w.cell? (ad.add (i * 2 + 1)) = some (.slice q.1.2.1 q.1.2.2.1 q.1.2.2.2) ∧ Rd w q.1.1.1 q.1.1.2.1 q.2.1 ∧ Ri w q.1.2.1 q.1.2.2.1 q.2.2 ∧ q.1.1.2.1 ≤ 9223372036854775807 ∧ q.1.2.2.1 ≤ 9223372036854775807 := by
      intro i hi
      obtain ⟨c0, c1, t0, t1⟩ := hc i (by omega)
      obtain ⟨a1, n1, k1, l1, e0, r1, m1⟩ := open_rowsC t0
      obtain ⟨a2, n2, k2, l2, e1, r2, m2⟩ := open_intsC t1
      simp at e0 e1
      rw [e0] at c0
      rw [e1] at c1
      exact ⟨(((a1, n1, k1), (a2, n2, k2)), (l1, l2)), c0, c1, r1, r2, m1, m2⟩
    obtain ⟨q, hq⟩ := choose_lt each
    refine ⟨(List.range len).map fun i => (q i).2, ⟨by simp, ?_⟩, hl, hm⟩
    by_cases h0 : len = 0
    · exact Or.inl h0
    · obtain ⟨b, off, spot⟩ := ad
      have hs : spot = none := by
        have h1 := (hq 0 (by omega)).1
        simpa [Addr.add] using World.cell?_spot h1
      subst hs
      refine Or.inr ⟨b, off, rfl, World.block_lt_of_cell? w _ (hq 0 (by omega)).1, fun i hi => ?_⟩
      have h1 := hq i hi
      rw [Addr.add_lit, Addr.add_lit, ← Nat.add_assoc] at h1
      have e : ((List.range len).map fun i => (q i).2).getD i ([], []) = (q i).2 := by simp [List.getD, hi]
      rw [e]
      exact ⟨_, _, _, _, _, _, h1⟩
end
end Go.Proofs.YtcgpgflnihjpiafGreat

/- From an argument's reading to the repo that it holds. -/
namespace Go.Proofs.YtcgpgflnihjpiafGreat
open Go.ChangeShapes Go.WideShapes Go.ChangeAt Go.RowKit Go.Deep

section
variable {H : Type} {enc : TypeId × Value → H} {w : World} {base : Nat} {spare : Nat → Bool} {held : Bool}

theorem open_comsC {fuel : Nat} {v : Value} {x : DataW H × List MemPlace} (h : DataW.trod enc Tryz.prog w base spare held fuel 22 [v] = some x) :
    ∃ a len cap L, v = .slice a len cap ∧ Cm w a len L ∧ len ≤ cap ∧ cap ≤ maxLen := by
  rcases open_slice_pairs Tryz.underlying22 Tryz.underlying51 (by kernel_rfl) rfl rfl (by kernel_rfl) (by kernel_rfl) h with ⟨hcs, _⟩ | ⟨ad, len', cap', m, n, V0, V1, D0, D1, P0, P1, hcs, _⟩
  · simp at hcs
    subst hcs
    obtain ⟨L, r⟩ := open_coms h
    exact ⟨none, 0, 0, L, rfl, r⟩
  · simp at hcs
    subst hcs
    obtain ⟨L, r⟩ := open_coms h
    exact ⟨some ad, len', cap', L, rfl, r⟩

theorem open_headsC {fuel : Nat} {v : Value} {x : DataW H × List MemPlace} (h : DataW.trod enc Tryz.prog w base spare held fuel 23 [v] = some x) :
    ∃ a len cap L, v = .slice a len cap ∧ Hs w a len L ∧ len ≤ cap ∧ cap ≤ maxLen ∧ (a = none → len = 0 ∧ cap = 0) := by
  rcases open_slice_pairs Tryz.underlying23 Tryz.underlying71 (by kernel_rfl) rfl rfl (by kernel_rfl) (by kernel_rfl) h with ⟨hcs, _⟩ | ⟨ad, len, cap, m, n, V0, V1, D0, D1, P0, P1, hcs, _, hl, hm, hmm, _, hc⟩
  · simp at hcs
    subst hcs
    exact ⟨none, 0, 0, [], rfl, ⟨rfl, Or.inl rfl⟩, Nat.le_refl _, by simp [maxLen], fun _ => ⟨rfl, rfl⟩⟩
  · simp at hcs
    subst hcs
    have hlm : len ≤ m := by rw [hmm]; split <;> omega
    have each : ∀ i, i < len → ∃ q : M.Hd, w.cell? (ad.add (i * 2)) = some (.string q.1) ∧ w.cell? (ad.add (i * 2 + 1)) = some (.int .i64 q.2) ∧ q.1.size ≤ 9223372036854775807 := by
      intro i hi
      obtain ⟨c0, c1, t0, t1⟩ := hc i (by omega)
      obtain ⟨s0, e0, _, z0⟩ := DataW.trod_string Tryz.underlying9 t0
      obtain ⟨x1, e1, _, _⟩ := DataW.trod_int (k := .i64) Tryz.underlying3 t1
      simp at e0 e1
      rw [e0] at c0
      rw [e1] at c1
      exact ⟨(s0, x1), c0, c1, by unfold maxLen at z0; exact z0⟩
    obtain ⟨q, hq⟩ := choose_lt each
    refine ⟨some ad, len, cap, (List.range len).map q, rfl, ⟨by simp, ?_⟩, hl, hm, fun h => by simp at h⟩
    by_cases h0 : len = 0
    · exact Or.inl h0
    · obtain ⟨b, off, spot⟩ := ad
      have hs : spot = none := by
        have h1 := (hq 0 (by omega)).1
        simpa [Addr.add] using World.cell?_spot h1
      subst hs
      refine Or.inr ⟨b, off, rfl, World.block_lt_of_cell? w _ (hq 0 (by omega)).1, fun i hi => ?_⟩
      have h1 := hq i hi
      rw [Addr.add_lit, Addr.add_lit, ← Nat.add_assoc] at h1
      have e : ((List.range len).map q).getD i M.hd0 = q i := by simp [List.getD, hi]
      rw [e]
      exact h1

set_option maxRecDepth 100000 in
theorem open_repo {r : Reach} {b0 : Nat} {v : Value} {d : DataW H} {p : List MemPlace} (hv : Value.okWide Tryz.prog w r b0 25 v) (h : DataW.Trod enc Tryz.prog w base spare held 25 v d p) :
    ∃ a n cap a2 n2 cap2 C L, v = .agg #[.slice a n cap, .slice a2 n2 cap2] ∧ Cm w a n C ∧ n ≤ 9223372036854775807 ∧ Hs w a2 n2 L ∧ n2 ≤ 9223372036854775807 := by
  obtain ⟨v0, v1, y0, y1, m, rfl, _, _, h0, h1⟩ := Joins.open_agg2 Tryz.underlying25 (by kernel_rfl) (by kernel_rfl) hv h
  obtain ⟨a, n, cap, C, rfl, c1, c2, c3⟩ := open_comsC h0
  obtain ⟨a2, n2, cap2, L, rfl, l1, l2, l3, _⟩ := open_headsC h1
  exact ⟨a, n, cap, a2, n2, cap2, C, L, rfl, c1, by unfold maxLen at c3; omega, l1, by unfold maxLen at l3; omega⟩
end
end Go.Proofs.YtcgpgflnihjpiafGreat

/- From an argument's reading to the repo that it holds, its nil slices too. -/
namespace Go.Proofs.YtcgpgflnihjpiafGreat
open Go.ChangeShapes Go.WideShapes Go.ChangeAt Go.RowKit Go.Deep

section
variable {H : Type} {enc : TypeId × Value → H} {w : World} {base : Nat} {spare : Nat → Bool} {held : Bool}

theorem open_rowsN {fuel : Nat} {cs : List Value} {x : DataW H × List MemPlace} (h : DataW.trod enc Tryz.prog w base spare held fuel 49 cs = some x) :
    ∃ a len cap, cs = [.slice a len cap] ∧ (a = none → len = 0 ∧ cap = 0) := by
  rcases open_slice_pairs Tryz.underlying49 Tryz.underlying98 (by kernel_rfl) rfl rfl (by kernel_rfl) (by kernel_rfl) h with ⟨rfl, rfl⟩ | ⟨ad, len, cap, m, n, V0, V1, D0, D1, P0, P1, rfl, _⟩
  · exact ⟨none, 0, 0, rfl, fun _ => ⟨rfl, rfl⟩⟩
  · exact ⟨some ad, len, cap, rfl, fun h => by simp at h⟩
theorem open_intsN {fuel : Nat} {cs : List Value} {x : DataW H × List MemPlace} (h : DataW.trod enc Tryz.prog w base spare held fuel 38 cs = some x) :
    ∃ a len cap, cs = [.slice a len cap] ∧ (a = none → len = 0 ∧ cap = 0) := by
  rcases open_slice1 Tryz.underlying38 (by kernel_rfl) h with ⟨rfl, rfl⟩ | ⟨ad, len, cap, m, n, V, D, Pl, rfl, _⟩
  · exact ⟨none, 0, 0, rfl, fun _ => ⟨rfl, rfl⟩⟩
  · exact ⟨some ad, len, cap, rfl, fun h => by simp at h⟩
theorem open_cn {fuel : Nat} {a : Option Addr} {len cap : Nat} {x : DataW H × List MemPlace} (h : DataW.trod enc Tryz.prog w base spare held fuel 22 [.slice a len cap] = some x) : Cn w a len := by
  rcases open_slice_pairs Tryz.underlying22 Tryz.underlying51 (by kernel_rfl) rfl rfl (by kernel_rfl) (by kernel_rfl) h with ⟨hcs, _⟩ | ⟨ad, len', cap', m, n, V0, V1, D0, D1, P0, P1, hcs, _, hl, hm, hmm, _, hc⟩
  · simp at hcs
    obtain ⟨rfl, rfl, rfl⟩ := hcs
    intro b off e
    simp at e
  · simp at hcs
    obtain ⟨rfl, rfl, rfl⟩ := hcs
    have hlm : len ≤ m := by rw [hmm]; split <;> omega
    intro b off e i hi y k c hor hy
    obtain rfl : ad = ⟨b, off, none⟩ := by simpa using e
    obtain ⟨c0, c1, t0, t1⟩ := hc i (by omega)
    obtain ⟨a1, n1, k1, e0, z0⟩ := open_rowsN t0
    obtain ⟨a2, n2, k2, e1, z1⟩ := open_intsN t1
    simp at e0 e1
    rw [e0, Addr.add_lit] at c0
    rw [e1, Addr.add_lit, ← Nat.add_assoc] at c1
    rcases hor with hcc | hcc
    · rw [hcc] at c0
      simp at c0
      obtain ⟨rfl, rfl, rfl⟩ := c0
      exact z0 hy
    · rw [hcc] at c1
      simp at c1
      obtain ⟨rfl, rfl, rfl⟩ := c1
      exact z1 hy
set_option maxRecDepth 100000 in
theorem open_repoV {r : Reach} {b0 : Nat} {v : Value} {d : DataW H} {p : List MemPlace} (hv : Value.okWide Tryz.prog w r b0 25 v) (h : DataW.Trod enc Tryz.prog w base spare held 25 v d p) :
    ∃ a n cap a2 n2 cap2 C L, v = .agg #[.slice a n cap, .slice a2 n2 cap2] ∧ RepoV w a n cap C a2 n2 cap2 L ∧ n2 ≤ cap2 ∧ cap2 ≤ maxLen := by
  obtain ⟨v0, v1, y0, y1, m, rfl, _, _, h0, h1⟩ := Joins.open_agg2 Tryz.underlying25 (by kernel_rfl) (by kernel_rfl) hv h
  obtain ⟨a, n, cap, C, rfl, c1, c2, c3⟩ := open_comsC h0
  obtain ⟨a2, n2, cap2, L, rfl, l1, l2, l3, l4⟩ := open_headsC h1
  exact ⟨a, n, cap, a2, n2, cap2, C, L, rfl, ⟨c1, open_cn h0, by unfold maxLen at c3; omega, l1, by unfold maxLen at l3; omega, l4⟩, l2, l3⟩
end
end Go.Proofs.YtcgpgflnihjpiafGreat

/- Plain facts on what Put, Branch, Drop and Merge make. -/
namespace Go.Proofs.YtcgpgflnihjpiafGreat.M
open Go.RowKit

theorem snoc_lt {α : Type} {L : List α} {c d : α} {i : Nat} (h : i < L.length) : (L ++ [c]).getD i d = L.getD i d := by
  simp [List.getD, List.getElem?_append_left h]
theorem snoc_eq {α : Type} {L : List α} {c d : α} : (L ++ [c]).getD L.length d = c := by simp [List.getD]

/-! ### Put -/
theorem put_parts {C : List Com} {H : List Hd} {s : ByteArray} {d : List Chg} (h : wpE C H s d = 0) :
    hchk C H s = 0 ∧ fine d = true ∧ d.length ≠ 0 ∧ C.length < 14 ∧ patchE (C.getD (hat C H s).toNat ([], [])).1 d = 0 ∧ wpC C H s d = C ++ [(patchV (C.getD (hat C H s).toNat ([], [])).1 d, [hat C H s])] ∧ wpH C H s d = setH H (plc H s).toNat C.length := by
  have e1 : wpC C H s d = C ++ [(patchV (C.getD (hat C H s).toNat ([], [])).1 d, [hat C H s])] := by unfold wpC; rw [if_pos h]
  have e2 : wpH C H s d = setH H (plc H s).toNat C.length := by unfold wpH; rw [if_pos h]; rfl
  unfold wpE at h
  split at h
  · rename_i h1; exact absurd h h1
  · rename_i h1
    split at h
    · omega
    · rename_i h2
      split at h
      · omega
      · rename_i h3
        split at h
        · omega
        · rename_i h4
          exact ⟨by simpa using h1, by simpa using h2, h3, by omega, h, e1, e2⟩
theorem put_right {C : List Com} {H : List Hd} {s : ByteArray} {d : List Chg} (h : wpE C H s d = 0) : rchk (wpC C H s d) (wpH C H s d) = 0 := by
  obtain ⟨h1, h2, h3, h4, h5, e1, e2⟩ := put_parts h
  obtain ⟨hr, hp⟩ := hchk_zero h1
  have hi := hat_in h1
  rw [e1, e2]
  have hd := dchk_snoc (c := (patchV (C.getD (hat C H s).toNat ([], [])).1 d, [hat C H s])) (rchk_zero hr).1 h4 (patchV_ok h5) (pr_one hi.1 hi.2)
  exact rchk_set hr hd (by simp) (by omega) (by simp; omega)
theorem put_heads {C : List Com} {H : List Hd} {s : ByteArray} {d : List Chg} (h : wpE C H s d = 0) :
    (hchk (wpC C H s d) (wpH C H s d) s = 0 ∧ hat (wpC C H s d) (wpH C H s d) s = C.length) ∧ ∀ t, t ≠ s → hchk (wpC C H s d) (wpH C H s d) t = hchk C H t ∧ hat (wpC C H s d) (wpH C H s d) t = hat C H t := by
  have hr := put_right h
  obtain ⟨h1, _, _, _, _, _, e2⟩ := put_parts h
  rw [e2] at hr ⊢
  exact moved h1 hr

/-! ### Merge -/
theorem join_parts {C : List Com} {H : List Hd} {s t : ByteArray} (h : joinE C H s t = 0) : hchk C H s = 0 ∧ hchk C H t = 0 ∧ (above C (hat C H s).toNat).getD (hat C H t).toNat false = false ∧
    (((above C (hat C H t).toNat).getD (hat C H s).toNat false = true ∧ joinC C H s t = C ∧ joinH C H s t = setH H (plc H s).toNat (hat C H t)) ∨
     ((above C (hat C H t).toNat).getD (hat C H s).toNat false = false ∧ C.length < 14 ∧ mergeE (baseR C (hat C H s).toNat (hat C H t).toNat) (C.getD (hat C H s).toNat ([], [])).1 (C.getD (hat C H t).toNat ([], [])).1 = 0 ∧
      joinC C H s t = C ++ [(mergeV (baseR C (hat C H s).toNat (hat C H t).toNat) (C.getD (hat C H s).toNat ([], [])).1 (C.getD (hat C H t).toNat ([], [])).1, [min (hat C H s) (hat C H t), max (hat C H s) (hat C H t)])] ∧ joinH C H s t = setH H (plc H s).toNat C.length)) := by
  have h0 := h
  unfold joinE at h
  split at h
  · rename_i h1; exact absurd h h1
  · rename_i h1
    obtain ⟨a1, a2⟩ := openE_two (Decidable.not_not.1 h1)
    refine ⟨a1, a2, ?_⟩
    have eC : joinC C H s t = if (above C (hat C H t).toNat).getD (hat C H s).toNat false = true then C else C ++ [(mergeV (baseR C (hat C H s).toNat (hat C H t).toNat) (C.getD (hat C H s).toNat ([], [])).1 (C.getD (hat C H t).toNat ([], [])).1, [min (hat C H s) (hat C H t), max (hat C H s) (hat C H t)])] := by
      unfold joinC; rw [if_neg (fun hn => hn h0)]
    have eH : joinH C H s t = if (above C (hat C H t).toNat).getD (hat C H s).toNat false = true then mv H s (hat C H t) else mv H s C.length := by
      unfold joinH; rw [if_neg (fun hn => hn h0)]
    rw [eC, eH]
    unfold joinAt at h
    split at h
    · omega
    · rename_i h2
      refine ⟨by simpa using h2, ?_⟩
      split at h
      · rename_i h3
        left
        rw [if_pos h3, if_pos h3]
        exact ⟨h3, rfl, rfl⟩
      · rename_i h3
        right
        split at h
        · omega
        · rename_i h4
          split at h
          · rename_i h5; exact absurd h h5
          · rename_i h5
            rw [if_neg h3, if_neg h3]
            exact ⟨by simpa using h3, by omega, Decidable.not_not.1 h5, rfl, rfl⟩
theorem join_ne {C : List Com} {H : List Hd} {s t : ByteArray} (h : joinE C H s t = 0) : (hat C H s).toNat ≠ (hat C H t).toNat ∧ s ≠ t := by
  obtain ⟨h1, h2, h3, _⟩ := join_parts h
  have hi := hat_in h1
  have R := (dchk_zero (rchk_zero (hchk_zero h1).1).1).2
  have key : (hat C H s).toNat ≠ (hat C H t).toNat := fun e => by
    rw [← e] at h3
    have := (above_iff R (n := (hat C H s).toNat) (by omega) (hat C H s).toNat).2 .self
    rw [h3] at this; simp at this
  exact ⟨key, fun e => key (by rw [e])⟩
theorem join_right {C : List Com} {H : List Hd} {s t : ByteArray} (h : joinE C H s t = 0) : rchk (joinC C H s t) (joinH C H s t) = 0 := by
  obtain ⟨h1, h2, h3, hor⟩ := join_parts h
  have hne := (join_ne h).1
  obtain ⟨hr, hp⟩ := hchk_zero h1
  have i1 := hat_in h1
  have i2 := hat_in h2
  rcases hor with ⟨_, e1, e2⟩ | ⟨_, h4, h5, e1, e2⟩
  · rw [e1, e2]
    exact rchk_set hr (rchk_zero hr).1 (Nat.le_refl _) i2.1 i2.2
  · rw [e1, e2]
    have hv : chk (mergeV (baseR C (hat C H s).toNat (hat C H t).toNat) (C.getD (hat C H s).toNat ([], [])).1 (C.getD (hat C H t).toNat ([], [])).1) = 0 := by
      unfold mergeV; rw [if_pos h5]; exact mrows_ok h5
    have hd := dchk_snoc (c := (_, [min (hat C H s) (hat C H t), max (hat C H s) (hat C H t)])) (rchk_zero hr).1 h4 hv (pr_two (by omega) (by omega) (by omega))
    exact rchk_set hr hd (by simp) (by omega) (by simp; omega)
theorem join_heads {C : List Com} {H : List Hd} {s t : ByteArray} (h : joinE C H s t = 0) : ∃ c : Nat, c < (joinC C H s t).length ∧ (hchk (joinC C H s t) (joinH C H s t) s = 0 ∧ hat (joinC C H s t) (joinH C H s t) s = c) ∧
    (∀ u, u ≠ s → hchk (joinC C H s t) (joinH C H s t) u = hchk C H u ∧ hat (joinC C H s t) (joinH C H s t) u = hat C H u) ∧ (above (joinC C H s t) c).getD (hat C H s).toNat false = true ∧ (above (joinC C H s t) c).getD (hat C H t).toNat false = true := by
  have hr' := join_right h
  obtain ⟨h1, h2, h3, hor⟩ := join_parts h
  have i1 := hat_in h1
  have i2 := hat_in h2
  have R := (dchk_zero (rchk_zero hr').1).2
  rcases hor with ⟨h4, e1, e2⟩ | ⟨_, h4, h5, e1, e2⟩
  · rw [e2] at hr' ⊢
    obtain ⟨m1, m2⟩ := moved h1 hr'
    refine ⟨(hat C H t).toNat, by rw [e1]; omega, ⟨m1.1, by rw [m1.2]; omega⟩, m2, by rw [e1]; exact h4, ?_⟩
    rw [e1] at R ⊢
    exact (above_iff R (by omega) _).2 .self
  · rw [e2] at hr' ⊢
    obtain ⟨m1, m2⟩ := moved h1 hr'
    have par : ((joinC C H s t).getD C.length ([], [])).2 = [min (hat C H s) (hat C H t), max (hat C H s) (hat C H t)] := by rw [e1, snoc_eq]
    have hl : C.length < (joinC C H s t).length := by rw [e1]; simp
    refine ⟨C.length, hl, m1, m2, ?_, ?_⟩
    · refine (above_iff R hl _).2 (.up (p := hat C H s) .self ?_ rfl)
      rw [par]
      have : hat C H s = min (hat C H s) (hat C H t) ∨ hat C H s = max (hat C H s) (hat C H t) := by omega
      rcases this with e | e
      · exact List.mem_cons.2 (Or.inl e)
      · exact List.mem_cons.2 (Or.inr (List.mem_singleton.2 e))
    · refine (above_iff R hl _).2 (.up (p := hat C H t) .self ?_ rfl)
      rw [par]
      have : hat C H t = min (hat C H s) (hat C H t) ∨ hat C H t = max (hat C H s) (hat C H t) := by omega
      rcases this with e | e
      · exact List.mem_cons.2 (Or.inl e)
      · exact List.mem_cons.2 (Or.inr (List.mem_singleton.2 e))
/-- Merged again, nothing would change. -/
theorem join_again {C : List Com} {H : List Hd} {s t : ByteArray} (h : joinE C H s t = 0) : joinE (joinC C H s t) (joinH C H s t) s t = 9 := by
  obtain ⟨c, _, ⟨k1, k2⟩, k3, _, k5⟩ := join_heads h
  obtain ⟨h1, h2, _⟩ := join_parts h
  obtain ⟨l1, l2⟩ := k3 t (Ne.symm (join_ne h).2)
  unfold joinE
  have e0 : openE (joinC C H s t) (joinH C H s t) [s, t] = 0 := by simp [openE, k1, l1, h2]
  rw [if_neg (by rw [e0]; simp)]
  unfold joinAt
  rw [k2, l2, Int.toNat_natCast, if_pos k5]

/-! ### Branch, Drop -/
theorem br_parts {C : List Com} {H : List Hd} {s t : ByteArray} (h : brE C H s t = 0) : hchk C H t = 0 ∧ nam s = true ∧ plc H s < 0 ∧ H.length < 4 ∧ brC C H s t = C ∧ brH C H s t = insH (s, hat C H t) H := by
  have e1 : brC C H s t = C := by unfold brC; rw [if_pos h]
  have e2 : brH C H s t = insH (s, hat C H t) H := by unfold brH; rw [if_pos h]
  unfold brE at h
  split at h
  · rename_i h1; exact absurd h h1
  · rename_i h1
    split at h
    · omega
    · rename_i h2
      split at h
      · omega
      · rename_i h3
        split at h
        · omega
        · exact ⟨by simpa using h1, by simpa using h2, by omega, by omega, e1, e2⟩
theorem plc_none {H : List Hd} {s : ByteArray} (h : plc H s < 0) : ∀ y ∈ H, y.1 ≠ s := by
  intro y hy e
  have : 0 ≤ plc H s := (idxF_neg _ H 0).2 (List.any_eq_true.2 ⟨y, hy, (alike_iff _ _).2 e⟩)
  omega
theorem br_right {C : List Com} {H : List Hd} {s t : ByteArray} (h : brE C H s t = 0) : rchk (brC C H s t) (brH C H s t) = 0 := by
  obtain ⟨h1, h2, h3, h4, e1, e2⟩ := br_parts h
  obtain ⟨hr, _⟩ := hchk_zero h1
  obtain ⟨a1, a2, a3, a4, a5⟩ := rchk_zero hr
  have hi := hat_in h1
  rw [e1, e2]
  refine rchk_of a1 (by rw [insH_len]; omega) (named_mem.2 fun y hy => ?_) (inside_mem.2 fun y hy => ?_) (rise_of (insH_rise (rise_all a5) (plc_none h3)))
  · rcases (insH_mem _ _ _).1 hy with rfl | hy
    · exact h2
    · exact named_mem.1 a3 y hy
  · rcases (insH_mem _ _ _).1 hy with rfl | hy
    · exact hi
    · exact inside_mem.1 a4 y hy
theorem br_heads {C : List Com} {H : List Hd} {s t : ByteArray} (h : brE C H s t = 0) : ∀ u, u ≠ s → hchk (brC C H s t) (brH C H s t) u = hchk C H u ∧ hat (brC C H s t) (brH C H s t) u = hat C H u := by
  have hr' := br_right h
  obtain ⟨h1, h2, h3, h4, e1, e2⟩ := br_parts h
  obtain ⟨hr, _⟩ := hchk_zero h1
  rw [e2] at hr' ⊢
  intro u hu
  refine hd_same hr' hr fun y => ?_
  rw [insH_mem]
  simp [hu]
theorem drop_parts {C : List Com} {H : List Hd} {s : ByteArray} (h : dropE C H s = 0) : hchk C H s = 0 ∧ dropC C H s = C ∧ dropH C H s = H.eraseIdx (plc H s).toNat := by
  have e1 : dropC C H s = C := by unfold dropC; rw [if_pos h]
  have e2 : dropH C H s = H.eraseIdx (plc H s).toNat := by unfold dropH; rw [if_pos h]
  unfold dropE at h
  split at h
  · rename_i h1; exact absurd h h1
  · rename_i h1; exact ⟨by simpa using h1, e1, e2⟩
theorem drop_right {C : List Com} {H : List Hd} {s : ByteArray} (h : dropE C H s = 0) : rchk (dropC C H s) (dropH C H s) = 0 := by
  obtain ⟨h1, e1, e2⟩ := drop_parts h
  obtain ⟨hr, _⟩ := hchk_zero h1
  obtain ⟨a1, a2, a3, a4, a5⟩ := rchk_zero hr
  have sub := List.eraseIdx_sublist H (plc H s).toNat
  rw [e1, e2]
  exact rchk_of a1 (Nat.le_trans sub.length_le a2) (named_mem.2 fun y hy => named_mem.1 a3 y (sub.subset hy)) (inside_mem.2 fun y hy => inside_mem.1 a4 y (sub.subset hy)) (rise_of ((rise_all a5).sublist sub))
theorem drop_heads {C : List Com} {H : List Hd} {s : ByteArray} (h : dropE C H s = 0) : ∀ u, u ≠ s → hchk (dropC C H s) (dropH C H s) u = hchk C H u ∧ hat (dropC C H s) (dropH C H s) u = hat C H u := by
  have hr' := drop_right h
  obtain ⟨h1, e1, e2⟩ := drop_parts h
  obtain ⟨hr, hp⟩ := hchk_zero h1
  have hl := plc_lt H s
  have hk : (plc H s).toNat < H.length := by omega
  have ha := idxF_at (fun h : Hd => alike h.1 s) H 0 hd0 hp
  rw [Nat.sub_zero] at ha
  have es : (H.getD (plc H s).toNat hd0).1 = s := (alike_iff _ _).1 ha
  rw [show H.getD (plc H s).toNat hd0 = H[(plc H s).toNat] by simp [List.getD, hk]] at es
  have sub := List.eraseIdx_sublist H (plc H s).toNat
  rw [e2] at hr' ⊢
  intro u hu
  refine hd_same hr' hr fun y => ⟨fun hm => sub.subset hm, fun hm => ?_⟩
  rw [List.mem_eraseIdx_iff_getElem]
  obtain ⟨i, hi, e⟩ := List.getElem_of_mem hm
  refine ⟨i, hi, fun hki => ?_, e⟩
  subst hki
  rw [e] at es
  exact hu es
end Go.Proofs.YtcgpgflnihjpiafGreat.M

/- Plain facts on bytes: numbers, texts, acts and repos, written and read, with no program in sight. -/
namespace Go.Proofs.YtcgpgflnihjpiafGreat.M

abbrev By := List UInt8
def b1 (n : Int) : UInt8 := UInt8.ofNat n.toNat
def b2 (n : Int) : By := [UInt8.ofNat (n.toNat / 256), UInt8.ofNat (n.toNat % 256)]
theorem b1_nat {n : Int} (h0 : 0 ≤ n) (h1 : n < 256) : ((b1 n).toNat : Int) = n := by
  unfold b1
  rw [UInt8.toNat_ofNat', Nat.mod_eq_of_lt (by omega)]
  omega
theorem b1_of (b : UInt8) : b1 (b.toNat : Int) = b := by
  unfold b1
  rw [Int.toNat_natCast]
  exact UInt8.ofNat_toNat

/-! ### reading -/
def rB : By → Option (Int × By)
  | [] => none
  | b :: t => some ((b.toNat : Int), t)
def r2 : By → Option (Int × By)
  | x :: y :: t => some (256 * (x.toNat : Int) + (y.toNat : Int), t)
  | _ => none
def rT : By → Option (By × By)
  | [] => none
  | b :: t => if b.toNat ≤ t.length then some (t.take b.toNat, t.drop b.toNat) else none
def rN {α : Type} (f : By → Option (α × By)) : Nat → By → Option (List α × By)
  | 0, l => some ([], l)
  | n + 1, l => match f l with
    | none => none
    | some (x, l1) => match rN f n l1 with
      | none => none
      | some (xs, l2) => some (x :: xs, l2)
def rL {α : Type} (f : By → Option (α × By)) (l : By) : Option (List α × By) := match rB l with
  | none => none
  | some (n, l1) => rN f n.toNat l1
theorem rN_snoc {α : Type} (f : By → Option (α × By)) (k : Nat) (l : By) : rN f (k + 1) l = match rN f k l with
    | none => none
    | some (xs, l1) => match f l1 with
      | none => none
      | some (x, l2) => some (xs ++ [x], l2) := by
  induction k generalizing l with
  | zero =>
    simp only [rN]
    cases f l with
    | none => rfl
    | some p => rfl
  | succ k ih =>
    rw [rN]
    conv => rhs; rw [rN]
    cases h : f l with
    | none => rfl
    | some p =>
      obtain ⟨x, l1⟩ := p
      simp only
      rw [ih l1]
      cases rN f k l1 with
      | none => rfl
      | some q =>
        obtain ⟨xs, l2⟩ := q
        simp only
        cases f l2 with
        | none => rfl
        | some q => rfl
theorem rN_none {α : Type} (f : By → Option (α × By)) (k n : Nat) (l : By) (h : rN f k l = none) (hk : k ≤ n) : rN f n l = none := by
  induction n with
  | zero => obtain rfl : k = 0 := by omega
            exact h
  | succ n ih =>
    by_cases e : k = n + 1
    · subst e; exact h
    · rw [rN_snoc, ih (by omega)]

/-! ### writing -/
def pT (s : By) : By := b1 s.length :: s
theorem rB_p {n : Int} (h0 : 0 ≤ n) (h1 : n < 256) (t : By) : rB (b1 n :: t) = some (n, t) := by
  show some (((b1 n).toNat : Int), t) = _
  rw [b1_nat h0 h1]
theorem rB_inv {l t : By} {n : Int} (h : rB l = some (n, t)) : l = b1 n :: t ∧ 0 ≤ n ∧ n < 256 := by
  cases l with
  | nil => simp [rB] at h
  | cons b u =>
    simp only [rB, Option.some.injEq, Prod.mk.injEq] at h
    obtain ⟨rfl, rfl⟩ := h
    refine ⟨by rw [b1_of], by omega, ?_⟩
    have := b.toNat_lt; omega
theorem r2_p {n : Int} (h0 : 0 ≤ n) (h1 : n < 65536) (t : By) : r2 (b2 n ++ t) = some (n, t) := by
  unfold b2 r2
  simp only [List.cons_append, List.nil_append, Option.some.injEq, Prod.mk.injEq, and_true]
  rw [UInt8.toNat_ofNat', UInt8.toNat_ofNat', Nat.mod_eq_of_lt (a := n.toNat / 256) (by omega), Nat.mod_eq_of_lt (a := n.toNat % 256) (by omega)]
  omega
theorem r2_inv {l t : By} {n : Int} (h : r2 l = some (n, t)) : l = b2 n ++ t ∧ 0 ≤ n ∧ n < 65536 := by
  match l, h with
  | [], h => simp [r2] at h
  | [x], h => simp [r2] at h
  | x :: y :: u, h =>
    simp only [r2, Option.some.injEq, Prod.mk.injEq] at h
    obtain ⟨rfl, rfl⟩ := h
    have hx := x.toNat_lt
    have hy := y.toNat_lt
    refine ⟨?_, by omega, by omega⟩
    unfold b2
    rw [show (256 * (x.toNat : Int) + (y.toNat : Int)).toNat / 256 = x.toNat by omega, show (256 * (x.toNat : Int) + (y.toNat : Int)).toNat % 256 = y.toNat by omega, UInt8.ofNat_toNat, UInt8.ofNat_toNat]
    rfl
theorem rT_p {s : By} (h : s.length < 256) (t : By) : rT (pT s ++ t) = some (s, t) := by
  unfold pT rT
  have e : (b1 (s.length : Int)).toNat = s.length := by have := b1_nat (n := (s.length : Int)) (by omega) (by omega); omega
  simp only [List.cons_append]
  rw [e, if_pos (by simp), List.take_left, List.drop_left]
theorem rT_inv {l t s : By} (h : rT l = some (s, t)) : l = pT s ++ t ∧ s.length < 256 := by
  cases l with
  | nil => simp [rT] at h
  | cons b u =>
    rw [rT] at h
    split at h
    · rename_i hb
      simp only [Option.some.injEq, Prod.mk.injEq] at h
      obtain ⟨rfl, rfl⟩ := h
      have hl : (u.take b.toNat).length = b.toNat := by rw [List.length_take]; omega
      refine ⟨?_, by rw [hl]; exact b.toNat_lt⟩
      unfold pT
      rw [hl, b1_of, List.cons_append, List.take_append_drop]
    · simp at h
theorem rN_p {α : Type} {f : By → Option (α × By)} {p : α → By} (xs : List α) (h : ∀ x ∈ xs, ∀ t, f (p x ++ t) = some (x, t)) (t : By) : rN f xs.length (xs.flatMap p ++ t) = some (xs, t) := by
  induction xs with
  | nil => rfl
  | cons x xs ih =>
    rw [List.flatMap_cons, List.length_cons, rN, List.append_assoc, h x (by simp)]
    simp only
    rw [ih (fun y hy => h y (by simp [hy]))]
theorem rN_inv {α : Type} {f : By → Option (α × By)} {p : α → By} {q : α → Prop} (h : ∀ l x t, f l = some (x, t) → l = p x ++ t ∧ q x) : ∀ (n : Nat) (l : By) (xs : List α) (t : By), rN f n l = some (xs, t) → l = xs.flatMap p ++ t ∧ xs.length = n ∧ ∀ x ∈ xs, q x
  | 0, l, xs, t, hh => by
    simp only [rN, Option.some.injEq, Prod.mk.injEq] at hh
    obtain ⟨rfl, rfl⟩ := hh
    exact ⟨rfl, rfl, fun x hx => by simp at hx⟩
  | n + 1, l, xs, t, hh => by
    rw [rN] at hh
    split at hh
    · simp at hh
    · rename_i x l1 hx
      split at hh
      · simp at hh
      · rename_i ys l2 hy
        simp only [Option.some.injEq, Prod.mk.injEq] at hh
        obtain ⟨rfl, rfl⟩ := hh
        obtain ⟨e1, q1⟩ := h _ _ _ hx
        obtain ⟨e2, l3, q2⟩ := rN_inv h n _ _ _ hy
        refine ⟨by rw [e1, e2, List.flatMap_cons, List.append_assoc], by simp [l3], fun y hy => ?_⟩
        rcases List.mem_cons.1 hy with rfl | hy
        · exact q1
        · exact q2 y hy
def pL {α : Type} (p : α → By) (xs : List α) : By := b1 xs.length :: xs.flatMap p
theorem rL_p {α : Type} {f : By → Option (α × By)} {p : α → By} (xs : List α) (hl : xs.length < 256) (h : ∀ x ∈ xs, ∀ t, f (p x ++ t) = some (x, t)) (t : By) : rL f (pL p xs ++ t) = some (xs, t) := by
  unfold rL pL
  rw [List.cons_append, rB_p (by omega) (by omega)]
  simp only
  rw [Int.toNat_natCast, rN_p xs h t]
theorem rL_inv {α : Type} {f : By → Option (α × By)} {p : α → By} {q : α → Prop} (h : ∀ l x t, f l = some (x, t) → l = p x ++ t ∧ q x) {l t : By} {xs : List α} (hh : rL f l = some (xs, t)) : l = pL p xs ++ t ∧ xs.length < 256 ∧ ∀ x ∈ xs, q x := by
  unfold rL at hh
  split at hh
  · simp at hh
  · rename_i n l1 hB
    obtain ⟨e1, n0, n1⟩ := rB_inv hB
    obtain ⟨e2, hl, hq⟩ := rN_inv h _ _ _ _ hh
    refine ⟨?_, by omega, hq⟩
    unfold pL
    rw [e1, e2, hl, Int.toNat_of_nonneg n0, List.cons_append]

/-! ### acts -/
structure Act where
  kind : Int
  one : By
  two : By
  chs : List Chg
def pC (c : Chg) : By := b1 c.1 :: (b2 (c.2.1 + 1) ++ b2 (c.2.2 + 1))
def pA (x : Act) : By := b1 x.kind :: (pT x.one ++ (pT x.two ++ pL pC x.chs))
def rC (l : By) : Option (Chg × By) := match rB l with
  | none => none
  | some (k, l1) => match r2 l1 with
    | none => none
    | some (o, l2) => match r2 l2 with
      | none => none
      | some (n, l3) => some ((k, o - 1, n - 1), l3)
def rA (l : By) : Option (Act × By) := match rB l with
  | none => none
  | some (k, l1) => match rT l1 with
    | none => none
    | some (o, l2) => match rT l2 with
      | none => none
      | some (n, l3) => match rL rC l3 with
        | none => none
        | some (c, l4) => some (⟨k, o, n, c⟩, l4)
def okC (c : Chg) : Prop := 0 ≤ c.1 ∧ c.1 < 256 ∧ 0 ≤ c.2.1 + 1 ∧ c.2.1 + 1 < 65536 ∧ 0 ≤ c.2.2 + 1 ∧ c.2.2 + 1 < 65536
def okA (x : Act) : Prop := (0 ≤ x.kind ∧ x.kind < 256) ∧ x.one.length < 256 ∧ x.two.length < 256 ∧ x.chs.length < 256 ∧ ∀ c ∈ x.chs, okC c
theorem rC_p {c : Chg} (h : okC c) (t : By) : rC (pC c ++ t) = some (c, t) := by
  obtain ⟨h1, h2, h3, h4, h5, h6⟩ := h
  unfold rC pC
  rw [List.cons_append, rB_p h1 h2, List.append_assoc]
  simp only
  rw [r2_p h3 h4]
  simp only
  rw [r2_p h5 h6]
  simp
theorem rC_inv {l t : By} {c : Chg} (h : rC l = some (c, t)) : l = pC c ++ t ∧ okC c := by
  unfold rC at h
  split at h
  · simp at h
  · rename_i k l1 e1
    split at h
    · simp at h
    · rename_i o l2 e2
      split at h
      · simp at h
      · rename_i n l3 e3
        simp only [Option.some.injEq, Prod.mk.injEq] at h
        obtain ⟨rfl, rfl⟩ := h
        obtain ⟨a1, a2, a3⟩ := rB_inv e1
        obtain ⟨c1, c2, c3⟩ := r2_inv e2
        obtain ⟨d1, d2, d3⟩ := r2_inv e3
        refine ⟨?_, a2, a3, by show 0 ≤ o - 1 + 1; omega, by show o - 1 + 1 < 65536; omega, by show 0 ≤ n - 1 + 1; omega, by show n - 1 + 1 < 65536; omega⟩
        unfold pC
        simp only
        rw [a1, c1, d1, Int.sub_add_cancel, Int.sub_add_cancel, List.cons_append, List.append_assoc]
theorem rA_p {x : Act} (h : okA x) (t : By) : rA (pA x ++ t) = some (x, t) := by
  obtain ⟨⟨h1, h2⟩, h3, h4, h5, h6⟩ := h
  unfold rA pA
  rw [List.cons_append, rB_p h1 h2]
  simp only
  rw [List.append_assoc, rT_p h3]
  simp only
  rw [List.append_assoc, rT_p h4]
  simp only
  rw [rL_p x.chs h5 (fun c hc => rC_p (h6 c hc))]
theorem rA_inv {l t : By} {x : Act} (h : rA l = some (x, t)) : l = pA x ++ t ∧ okA x := by
  unfold rA at h
  split at h
  · simp at h
  · rename_i k l1 e1
    split at h
    · simp at h
    · rename_i o l2 e2
      split at h
      · simp at h
      · rename_i n l3 e3
        split at h
        · simp at h
        · rename_i c l4 e4
          simp only [Option.some.injEq, Prod.mk.injEq] at h
          obtain ⟨rfl, rfl⟩ := h
          obtain ⟨a1, a2, a3⟩ := rB_inv e1
          obtain ⟨c1, c2⟩ := rT_inv e2
          obtain ⟨d1, d2⟩ := rT_inv e3
          obtain ⟨f1, f2, f3⟩ := rL_inv (fun _ _ _ => rC_inv) e4
          refine ⟨?_, ⟨a2, a3⟩, c2, d2, f2, f3⟩
          unfold pA
          simp only
          rw [a1, c1, d1, f1]
          simp [List.append_assoc]

/-! ### repos -/
def pR (r : Int × Int) : By := b1 r.1 :: b2 r.2
def pCo (c : Com) : By := pL pR c.1 ++ pL (fun p => [b1 p]) c.2
def pHd (h : By × Int) : By := pT h.1 ++ [b1 h.2]
def pRe (r : List Com × List (By × Int)) : By := pL pCo r.1 ++ pL pHd r.2
def rR (l : By) : Option ((Int × Int) × By) := match rB l with
  | none => none
  | some (k, l1) => match r2 l1 with
    | none => none
    | some (v, l2) => some ((k, v), l2)
def rCo (l : By) : Option (Com × By) := match rL rR l with
  | none => none
  | some (r, l1) => match rL rB l1 with
    | none => none
    | some (p, l2) => some ((r, p), l2)
def rHd (l : By) : Option ((By × Int) × By) := match rT l with
  | none => none
  | some (n, l1) => match rB l1 with
    | none => none
    | some (a, l2) => some ((n, a), l2)
def rRe (l : By) : Option ((List Com × List (By × Int)) × By) := match rL rCo l with
  | none => none
  | some (c, l1) => match rL rHd l1 with
    | none => none
    | some (h, l2) => some ((c, h), l2)
def okB (n : Int) : Prop := 0 ≤ n ∧ n < 256
def okR (r : Int × Int) : Prop := okB r.1 ∧ 0 ≤ r.2 ∧ r.2 < 65536
def okCo (c : Com) : Prop := (c.1.length < 256 ∧ ∀ r ∈ c.1, okR r) ∧ c.2.length < 256 ∧ ∀ p ∈ c.2, okB p
def okHd (h : By × Int) : Prop := h.1.length < 256 ∧ okB h.2
def okRe (r : List Com × List (By × Int)) : Prop := (r.1.length < 256 ∧ ∀ c ∈ r.1, okCo c) ∧ r.2.length < 256 ∧ ∀ h ∈ r.2, okHd h
theorem rR_p {r : Int × Int} (h : okR r) (t : By) : rR (pR r ++ t) = some (r, t) := by
  obtain ⟨⟨h1, h2⟩, h3, h4⟩ := h
  unfold rR pR
  rw [List.cons_append, rB_p h1 h2]
  simp only
  rw [r2_p h3 h4]
theorem rR_inv {l t : By} {r : Int × Int} (h : rR l = some (r, t)) : l = pR r ++ t ∧ okR r := by
  unfold rR at h
  split at h
  · simp at h
  · rename_i k l1 e1
    split at h
    · simp at h
    · rename_i o l2 e2
      simp only [Option.some.injEq, Prod.mk.injEq] at h
      obtain ⟨rfl, rfl⟩ := h
      obtain ⟨a1, a2, a3⟩ := rB_inv e1
      obtain ⟨c1, c2, c3⟩ := r2_inv e2
      refine ⟨?_, ⟨a2, a3⟩, c2, c3⟩
      unfold pR
      simp only
      rw [a1, c1, List.cons_append]
theorem rBs_p {n : Int} (h : okB n) (t : By) : rB ([b1 n] ++ t) = some (n, t) := rB_p h.1 h.2 t
theorem rBs_inv {l t : By} {n : Int} (h : rB l = some (n, t)) : l = [b1 n] ++ t ∧ okB n := by
  obtain ⟨a1, a2, a3⟩ := rB_inv h
  exact ⟨a1, a2, a3⟩
theorem rCo_p {c : Com} (h : okCo c) (t : By) : rCo (pCo c ++ t) = some (c, t) := by
  obtain ⟨⟨h1, h2⟩, h3, h4⟩ := h
  unfold rCo pCo
  rw [List.append_assoc, rL_p c.1 h1 (fun r hr => rR_p (h2 r hr))]
  simp only
  rw [rL_p c.2 h3 (fun p hp => rBs_p (h4 p hp))]
theorem rCo_inv {l t : By} {c : Com} (h : rCo l = some (c, t)) : l = pCo c ++ t ∧ okCo c := by
  unfold rCo at h
  split at h
  · simp at h
  · rename_i r l1 e1
    split at h
    · simp at h
    · rename_i p l2 e2
      simp only [Option.some.injEq, Prod.mk.injEq] at h
      obtain ⟨rfl, rfl⟩ := h
      obtain ⟨a1, a2, a3⟩ := rL_inv (fun _ _ _ => rR_inv) e1
      obtain ⟨c1, c2, c3⟩ := rL_inv (fun _ _ _ => rBs_inv) e2
      refine ⟨?_, ⟨a2, a3⟩, c2, c3⟩
      unfold pCo
      simp only
      rw [a1, c1, List.append_assoc]
theorem rHd_p {h : By × Int} (hk : okHd h) (t : By) : rHd (pHd h ++ t) = some (h, t) := by
  obtain ⟨h1, h2⟩ := hk
  unfold rHd pHd
  rw [List.append_assoc, rT_p h1]
  simp only
  rw [rBs_p h2]
theorem rHd_inv {l t : By} {h : By × Int} (hh : rHd l = some (h, t)) : l = pHd h ++ t ∧ okHd h := by
  unfold rHd at hh
  split at hh
  · simp at hh
  · rename_i n l1 e1
    split at hh
    · simp at hh
    · rename_i a l2 e2
      simp only [Option.some.injEq, Prod.mk.injEq] at hh
      obtain ⟨rfl, rfl⟩ := hh
      obtain ⟨a1, a2⟩ := rT_inv e1
      obtain ⟨c1, c2⟩ := rBs_inv e2
      refine ⟨?_, a2, c2⟩
      unfold pHd
      simp only
      rw [a1, c1, List.append_assoc]
theorem rRe_p {r : List Com × List (By × Int)} (h : okRe r) (t : By) : rRe (pRe r ++ t) = some (r, t) := by
  obtain ⟨⟨h1, h2⟩, h3, h4⟩ := h
  unfold rRe pRe
  rw [List.append_assoc, rL_p r.1 h1 (fun c hc => rCo_p (h2 c hc))]
  simp only
  rw [rL_p r.2 h3 (fun p hp => rHd_p (h4 p hp))]
theorem rRe_inv {l t : By} {r : List Com × List (By × Int)} (h : rRe l = some (r, t)) : l = pRe r ++ t ∧ okRe r := by
  unfold rRe at h
  split at h
  · simp at h
  · rename_i c l1 e1
    split at h
    · simp at h
    · rename_i hs l2 e2
      simp only [Option.some.injEq, Prod.mk.injEq] at h
      obtain ⟨rfl, rfl⟩ := h
      obtain ⟨a1, a2, a3⟩ := rL_inv (fun _ _ _ => rCo_inv) e1
      obtain ⟨c1, c2, c3⟩ := rL_inv (fun _ _ _ => rHd_inv) e2
      refine ⟨?_, ⟨a2, a3⟩, c2, c3⟩
      unfold pRe
      simp only
      rw [a1, c1, List.append_assoc]
end Go.Proofs.YtcgpgflnihjpiafGreat.M

/- Plain facts on logs: acts, one behind the other, and logs that are cut, with no program in sight. -/
namespace Go.Proofs.YtcgpgflnihjpiafGreat.M

/-- The acts that a text begins with, n at most, and what is behind them. -/
def rAs : Nat → By → List Act × By
  | 0, l => ([], l)
  | n + 1, l => match rA l with
    | none => ([], l)
    | some (x, l1) => (x :: (rAs n l1).1, (rAs n l1).2)
theorem pA_pos (x : Act) : 4 ≤ (pA x).length := by
  unfold pA pT pL
  simp; omega
theorem rA_less {l t : By} {x : Act} (h : rA l = some (x, t)) : t.length + 4 ≤ l.length := by
  rw [(rA_inv h).1, List.length_append]
  have := pA_pos x
  omega
/-- Cut within an act, there is none. -/
theorem rA_cut {x : Act} (h : okA x) (j : Nat) (hj : j < (pA x).length) : rA ((pA x).take j) = none := by
  cases e : rA ((pA x).take j) with
  | none => rfl
  | some p =>
    exfalso
    obtain ⟨y, t⟩ := p
    obtain ⟨e1, oy⟩ := rA_inv e
    have e2 : pA x = pA y ++ (t ++ (pA x).drop j) := by rw [← List.append_assoc, ← e1, List.take_append_drop]
    have h1 := rA_p h []
    rw [List.append_nil] at h1
    have h2 := rA_p oy (t ++ (pA x).drop j)
    rw [← e2, h1] at h2
    simp only [Option.some.injEq, Prod.mk.injEq] at h2
    have h3 := congrArg List.length h2.2
    simp at h3
    omega
theorem rAs_len (n : Nat) (l : By) : (rAs n l).1.length ≤ n ∧ (rAs n l).2.length ≤ l.length := by
  induction n generalizing l with
  | zero => simp [rAs]
  | succ n ih =>
    rw [rAs]
    split
    · simp
    · rename_i x l1 e
      have := rA_less e
      have := ih l1
      simp; omega
theorem rAs_none (n : Nat) (l : By) (h : rA l = none) : rAs n l = ([], l) := by
  cases n with
  | zero => rfl
  | succ n => rw [rAs, h]
theorem rAs_ok (n : Nat) (l : By) : ∀ x ∈ (rAs n l).1, okA x := by
  induction n generalizing l with
  | zero => simp [rAs]
  | succ n ih =>
    rw [rAs]
    split
    · simp
    · rename_i x l1 e
      intro y hy
      rcases List.mem_cons.1 hy with rfl | hy
      · exact (rA_inv e).2
      · exact ih l1 y hy
/-- What was read, written again. -/
theorem rAs_inv (n : Nat) (l : By) : l = (rAs n l).1.flatMap pA ++ (rAs n l).2 := by
  induction n generalizing l with
  | zero => simp [rAs]
  | succ n ih =>
    rw [rAs]
    split
    · simp
    · rename_i x l1 e
      rw [List.flatMap_cons, List.append_assoc, ← ih l1]
      exact (rA_inv e).1
/-- Acts that were written, and something more. -/
theorem rAs_p (xs : List Act) (h : ∀ x ∈ xs, okA x) (n : Nat) (t : By) : rAs (xs.length + n) (xs.flatMap pA ++ t) = (xs ++ (rAs n t).1, (rAs n t).2) := by
  induction xs with
  | nil => simp
  | cons x xs ih =>
    rw [List.length_cons, show xs.length + 1 + n = (xs.length + n) + 1 by omega, rAs, List.flatMap_cons, List.append_assoc, rA_p (h x (by simp))]
    simp only
    rw [ih (fun y hy => h y (by simp [hy]))]
    rfl
/-- How many of the acts are whole in the first k bytes. -/
def whole : List Act → Nat → Nat
  | [], _ => 0
  | x :: xs, k => if (pA x).length ≤ k then whole xs (k - (pA x).length) + 1 else 0
theorem whole_le (xs : List Act) (k : Nat) : whole xs k ≤ xs.length := by
  induction xs generalizing k with
  | nil => simp [whole]
  | cons x xs ih =>
    rw [whole]
    split
    · have := ih (k - (pA x).length); simp; omega
    · simp
theorem rAs_cut (xs : List Act) (h : ∀ x ∈ xs, okA x) (n k : Nat) (hn : xs.length ≤ n) (hk : k ≤ (xs.flatMap pA).length) : (rAs n ((xs.flatMap pA).take k)).1 = xs.take (whole xs k) := by
  induction xs generalizing n k with
  | nil =>
    simp only [List.flatMap_nil, List.take_nil, whole]
    rw [rAs_none _ _ (by rfl)]
  | cons x xs ih =>
    obtain ⟨m, rfl⟩ : ∃ m, n = m + 1 := ⟨n - 1, by simp at hn; omega⟩
    rw [List.flatMap_cons, whole]
    split
    · rename_i hx
      rw [List.take_append, List.take_of_length_le hx, rAs, rA_p (h x (by simp))]
      simp only
      rw [ih (fun y hy => h y (by simp [hy])) m (k - (pA x).length) (by simpa using hn) (by rw [List.flatMap_cons, List.length_append] at hk; omega), List.take_succ_cons]
    · rename_i hx
      rw [List.take_append, show k - (pA x).length = 0 by omega, List.take_zero, List.append_nil, rAs_none _ _ (rA_cut (h x (by simp)) k (by omega))]
      simp
end Go.Proofs.YtcgpgflnihjpiafGreat.M

/- Plain facts on acts that are done, one behind the other, with no program in sight. -/
namespace Go.Proofs.YtcgpgflnihjpiafGreat.M
open Go.RowKit

def str (l : By) : ByteArray := ⟨l.toArray⟩
/-- The error of an act that is done in a repo, and the repo that comes. -/
def doE (C : List Com) (H : List Hd) (x : Act) : Int :=
  if x.kind = 1 then wpE C H (str x.one) x.chs else if x.kind = 2 then brE C H (str x.one) (str x.two) else if x.kind = 3 then joinE C H (str x.one) (str x.two) else if x.kind = 4 then dropE C H (str x.one) else 8
def doC (C : List Com) (H : List Hd) (x : Act) : List Com :=
  if x.kind = 1 then wpC C H (str x.one) x.chs else if x.kind = 2 then brC C H (str x.one) (str x.two) else if x.kind = 3 then joinC C H (str x.one) (str x.two) else if x.kind = 4 then dropC C H (str x.one) else []
def doH (C : List Com) (H : List Hd) (x : Act) : List Hd :=
  if x.kind = 1 then wpH C H (str x.one) x.chs else if x.kind = 2 then brH C H (str x.one) (str x.two) else if x.kind = 3 then joinH C H (str x.one) (str x.two) else if x.kind = 4 then dropH C H (str x.one) else []
theorem do_all {C : List Com} {H : List Hd} {x : Act} (h : doE C H x = 0) : rchk (doC C H x) (doH C H x) = 0 ∧ (doC C H x = C ∨ ∃ c, doC C H x = C ++ [c]) ∧ ∀ t, t ≠ str x.one → hchk (doC C H x) (doH C H x) t = hchk C H t ∧ hat (doC C H x) (doH C H x) t = hat C H t := by
  unfold doE at h
  unfold doC doH
  by_cases k1 : x.kind = 1
  · simp only [if_pos k1] at h ⊢
    obtain ⟨_, _, _, _, _, e1, _⟩ := put_parts h
    exact ⟨put_right h, Or.inr ⟨_, e1⟩, (put_heads h).2⟩
  · by_cases k2 : x.kind = 2
    · simp only [if_neg k1, if_pos k2] at h ⊢
      obtain ⟨_, _, _, _, e1, _⟩ := br_parts h
      exact ⟨br_right h, Or.inl e1, br_heads h⟩
    · by_cases k3 : x.kind = 3
      · simp only [if_neg k1, if_neg k2, if_pos k3] at h ⊢
        obtain ⟨_, _, _, hor⟩ := join_parts h
        obtain ⟨c, _, _, hh, _⟩ := join_heads h
        refine ⟨join_right h, ?_, hh⟩
        rcases hor with ⟨_, e, _⟩ | ⟨_, _, _, e, _⟩
        · exact Or.inl e
        · exact Or.inr ⟨_, e⟩
      · by_cases k4 : x.kind = 4
        · simp only [if_neg k1, if_neg k2, if_neg k3, if_pos k4] at h ⊢
          obtain ⟨_, e1, _⟩ := drop_parts h
          exact ⟨drop_right h, Or.inl e1, drop_heads h⟩
        · simp only [if_neg k1, if_neg k2, if_neg k3, if_neg k4] at h
          omega
def begC : List Com := [([], [])]
def begH : List Hd := [(⟨#[109, 97, 105, 110]⟩, 0)]
def doneF (r : List Com × List Hd) : List Act → List Com × List Hd
  | [] => r
  | x :: t => doneF (if doE r.1 r.2 x = 0 then (doC r.1 r.2 x, doH r.1 r.2 x) else r) t
/-- What acts make from the beginning on. -/
def done (l : List Act) : List Com × List Hd := doneF (begC, begH) l
theorem doneF_snoc (r : List Com × List Hd) (l : List Act) (x : Act) : doneF r (l ++ [x]) = if doE (doneF r l).1 (doneF r l).2 x = 0 then (doC (doneF r l).1 (doneF r l).2 x, doH (doneF r l).1 (doneF r l).2 x) else doneF r l := by
  induction l generalizing r with
  | nil => rfl
  | cons y t ih => rw [List.cons_append, doneF, ih]; rfl
theorem doneF_right (r : List Com × List Hd) (h : rchk r.1 r.2 = 0) (l : List Act) : rchk (doneF r l).1 (doneF r l).2 = 0 := by
  induction l generalizing r with
  | nil => exact h
  | cons y t ih =>
    rw [doneF]
    refine ih _ ?_
    split
    · rename_i hd; exact (do_all hd).1
    · exact h
theorem beg_right : rchk begC begH = 0 := by decide +kernel
theorem done_right (l : List Act) : rchk (done l).1 (done l).2 = 0 := doneF_right _ beg_right l
theorem done_take (l : List Act) (k : Nat) (h : k < l.length) : done (l.take (k + 1)) = if doE (done (l.take k)).1 (done (l.take k)).2 l[k] = 0 then (doC (done (l.take k)).1 (done (l.take k)).2 l[k], doH (done (l.take k)).1 (done (l.take k)).2 l[k]) else done (l.take k) := by
  rw [List.take_succ_eq_append_getElem h]
  exact doneF_snoc _ _ _
end Go.Proofs.YtcgpgflnihjpiafGreat.M

/- log.Do. -/
namespace Go.Proofs.YtcgpgflnihjpiafGreat
open Go.RowKit Go.Shelf Go.Maps

/-- An act's values. -/
def actV (x : M.Act) (a : Option Addr) (m cap : Nat) : Value := .agg #[.int .i64 x.kind, .string (M.str x.one), .string (M.str x.two), .slice a m cap]

set_option maxRecDepth 100000 in
set_option maxHeartbeats 16000000 in
theorem do_any (a : Option Addr) (n cap : Nat) (C : List M.Com) (a2 : Option Addr) (n2 cap2 : Nat) (H : List M.Hd) (x : M.Act) (a3 : Option Addr) (m3 cap3 : Nat) (w : World) (hV : RepoV w a n cap C a2 n2 cap2 H) (hrc : Rc w a3 m3 x.chs) (hm3 : m3 ≤ 9223372036854775807) (hss : (M.str x.one).size ≤ 9223372036854775807) :
    Calls Tryz.prog 9 #[.agg #[.slice a n cap, .slice a2 n2 cap2], actV x a3 m3 cap3] w fun e w' => ∃ v, e = .returned (.tuple #[v, .int .i64 (M.doE C H x)]) ∧ RepoOwn w' w.heap.size v (M.doC C H x) (M.doH C H x) ∧ Below w.heap.size w w' := by
  obtain ⟨p, hp⟩ : ∃ p, p = w.heap.size := ⟨_, rfl⟩
  obtain ⟨k, hk⟩ : ∃ k, k = x.kind := ⟨_, rfl⟩
  obtain ⟨s, hs⟩ : ∃ s, s = M.str x.one := ⟨_, rfl⟩
  obtain ⟨t, ht⟩ : ∃ t, t = M.str x.two := ⟨_, rfl⟩
  obtain ⟨d, hd⟩ : ∃ d, d = x.chs := ⟨_, rfl⟩
  obtain ⟨E, hE⟩ : ∃ E, E = M.doE C H x := ⟨_, rfl⟩
  obtain ⟨C', hC'⟩ : ∃ C', C' = M.doC C H x := ⟨_, rfl⟩
  obtain ⟨H', hH'⟩ : ∃ H', H' = M.doH C H x := ⟨_, rfl⟩
  have HEs : Hid (E = (if k = 1 then M.wpE C H s d else if k = 2 then M.brE C H s t else if k = 3 then M.joinE C H s t else if k = 4 then M.dropE C H s else 8) ∧ C' = (if k = 1 then M.wpC C H s d else if k = 2 then M.brC C H s t else if k = 3 then M.joinC C H s t else if k = 4 then M.dropC C H s else []) ∧ H' = (if k = 1 then M.wpH C H s d else if k = 2 then M.brH C H s t else if k = 3 then M.joinH C H s t else if k = 4 then M.dropH C H s else [])) := by
    unfold Hid
    rw [hE, hC', hH', hk, hs, ht, hd]
    exact ⟨rfl, rfl, rfl⟩
  rw [← hd] at hrc
  rw [← hs] at hss
  unfold actV
  rw [← hE, ← hC', ← hH', ← hk, ← hs, ← ht]
  obtain ⟨W, hW⟩ : ∃ W, W = ((w.alloc (.cells #[.slice a n cap, .slice a2 n2 cap2] 25)).alloc (.cells #[.int .i64 k, .string s, .string t, .slice a3 m3 cap3] 28)).alloc (.cells #[.slice none 0 0, .slice none 0 0] 25) := ⟨_, rfl⟩
  obtain ⟨R, hR⟩ : ∃ R, R = p + 1 + 1 := ⟨_, rfl⟩
  have hb : Below w.heap.size w W := by rw [hW]; exact (((Below.refl _ _).alloc (Nat.le_refl _) _).alloc (by simp) _).alloc (by simp; omega) _
  have hsz : W.heap.size = R + 1 := by rw [hW, hR, hp]; simp
  have q2 : W.heap[R]? = some (.cells #[.slice none 0 0, .slice none 0 0] 25 (0, 0)) := by
    rw [hW, show R = ((w.alloc (.cells #[.slice a n cap, .slice a2 n2 cap2] 25)).alloc (.cells #[.int .i64 k, .string s, .string t, .slice a3 m3 cap3] 28)).heap.size by rw [hR, hp]; simp]
    exact heap_alloc_new _ _
  have c0 : W.cell? ⟨p, 0, none⟩ = some (.slice a n cap) := by rw [hW, hp]; simp [go_sem]
  have c1 : W.cell? ⟨p, 1, none⟩ = some (.slice a2 n2 cap2) := by rw [hW, hp]; simp [go_sem]
  have k0 : W.cell? ⟨p + 1, 0, none⟩ = some (.int .i64 k) := by rw [hW, hp]; simp [go_sem]
  have k1 : W.cell? ⟨p + 1, 1, none⟩ = some (.string s) := by rw [hW, hp]; simp [go_sem]
  have k2 : W.cell? ⟨p + 1, 2, none⟩ = some (.string t) := by rw [hW, hp]; simp [go_sem]
  have k3 : W.cell? ⟨p + 1, 3, none⟩ = some (.slice a3 m3 cap3) := by rw [hW, hp]; simp [go_sem]
  have F1 : Hid (Calls Tryz.prog 16 #[.agg #[.slice a n cap, .slice a2 n2 cap2], .string s, .slice a3 m3 cap3] W fun e w' => ∃ v, e = .returned (.tuple #[v, .int .i64 (M.wpE C H s d)]) ∧ RepoOwn w' W.heap.size v (M.wpC C H s d) (M.wpH C H s d) ∧ Below W.heap.size W w') := wput_any a n cap C a2 n2 cap2 H s a3 m3 cap3 d W (hV.later hb) (hrc.below hb (Nat.le_refl _)) hm3
  have F2 : Hid (Calls Tryz.prog 28 #[.agg #[.slice a n cap, .slice a2 n2 cap2], .string s, .string t] W fun e w' => ∃ v, e = .returned (.tuple #[v, .int .i64 (M.brE C H s t)]) ∧ RepoOwn w' W.heap.size v (M.brC C H s t) (M.brH C H s t) ∧ Below W.heap.size W w') := wbranch_any a n cap C a2 n2 cap2 H s t W (hV.later hb) hss
  have F3 : Hid (Calls Tryz.prog 14 #[.agg #[.slice a n cap, .slice a2 n2 cap2], .string s, .string t] W fun e w' => ∃ v kb kn kc, e = .returned (.tuple #[v, .slice kb kn kc, .int .i64 (M.joinE C H s t)]) ∧ RepoOwn w' W.heap.size v (M.joinC C H s t) (M.joinH C H s t) ∧ Below W.heap.size W w') := (wmerge_any a n cap C a2 n2 cap2 H s t W (hV.later hb)).mono fun e w' ⟨v, kb, kn, kc, h1, h2, _, _, _, h3⟩ => ⟨v, kb, kn, kc, h1, h2, h3⟩
  have F4 : Hid (Calls Tryz.prog 29 #[.agg #[.slice a n cap, .slice a2 n2 cap2], .string s] W fun e w' => ∃ v, e = .returned (.tuple #[v, .int .i64 (M.dropE C H s)]) ∧ RepoOwn w' W.heap.size v (M.dropC C H s) (M.dropH C H s) ∧ Below W.heap.size W w') := wdrop_any a n cap C a2 n2 cap2 H s W (hV.later hb)
  have HW : Hid (W = ((w.alloc (.cells #[.slice a n cap, .slice a2 n2 cap2] 25)).alloc (.cells #[.int .i64 k, .string s, .string t, .slice a3 m3 cap3] 28)).alloc (.cells #[.slice none 0 0, .slice none 0 0] 25)) := hW
  have HP : Aside (p = w.heap.size) := hp
  have HR : Aside (R = p + 1 + 1) := hR
  have HPR : Aside (w.heap.size ≤ p) := by unfold Aside; omega
  have HSz : Aside (W.heap.size = R + 1) := hsz
  have HQ2 : Hid (W.heap[R]? = some (.cells #[.slice none 0 0, .slice none 0 0] 25 (0, 0))) := q2
  have hpR : p + 1 < R := by omega
  clear hW hp hR hV hrc hss hk hs ht hd hE hC' hH' q2 hsz
  by_cases h1 : k = 1
  · subst h1
    obtain ⟨E1, hE1⟩ : ∃ E1, E1 = M.wpE C H s d := ⟨_, rfl⟩
    rw [← hE1] at F1
    have HE1 : Aside (E1 = M.wpE C H s d) := hE1
    clear hE1 F2 F3 F4
    have hEE : E = E1 ∧ C' = (M.wpC C H s d) ∧ H' = (M.wpH C H s d) := by
      obtain ⟨h1, h2, h3⟩ := HEs.out
      simp at h1 h2 h3
      exact ⟨h1.trans HE1.out.symm, h2, h3⟩
    have HEE : Hid (E = E1 ∧ C' = (M.wpC C H s d) ∧ H' = (M.wpH C H s d)) := hEE
    clear hEE
    have c0r := c0
    have c1r := c1
    have k0r := k0
    have k1r := k1
    have k2r := k2
    have k3r := k3
    rw [HW.out, HP.out] at c0r c1r k0r k1r k2r k3r
    go_enter Tryz.func9, Tryz.ntmps9
    go_wp2_with fail
    rw [← HW.out, ← HP.out, ← HR.out]
    clear c0r c1r k0r k1r k2r k3r
    refine F1.out.mono ?_
    rintro e w1 ⟨v, rfl, o1, b1⟩
    have hb1 : Below w.heap.size w w1 := hb.trans (b1.mono hb.size)
    have r1 : w1.heap[R]? = some (.cells #[.slice none 0 0, .slice none 0 0] 25 (0, 0)) := (b1.block R (by have := HSz.out; omega)).trans HQ2.out
    obtain ⟨xa8, xc8, ya8, yc8, rfl, _⟩ := o1.v
    generalize hln : (M.wpC C H s d).length = ln8 at *
    generalize hlh : (M.wpH C H s d).length = lh8 at *
    obtain ⟨q1, q2, hqq, o91, o92⟩ := o1
    obtain ⟨rfl, rfl⟩ : q1 = .slice xa8 ln8 xc8 ∧ q2 = .slice ya8 lh8 yc8 := by simp at hqq; exact ⟨hqq.1.symm, hqq.2.symm⟩
    have HRO : Aside (RepoOwn ((w1.setCell ⟨R, 0, none⟩ (.slice xa8 ln8 xc8)).setCell ⟨R, 1, none⟩ (.slice ya8 lh8 yc8)) w.heap.size (.agg #[.slice xa8 ln8 xc8, .slice ya8 lh8 yc8]) C' H') := by unfold Aside; rw [HEE.out.2.1, HEE.out.2.2]; exact (repoOwn_set r1 o91 o92).lower hb.size
    obtain ⟨g1, g2, g3⟩ := res_set r1 (.slice xa8 ln8 xc8) (.slice ya8 lh8 yc8)
    obtain ⟨X, hX⟩ : ∃ X, X = (w1.setCell ⟨R, 0, none⟩ (.slice xa8 ln8 xc8)).setCell ⟨R, 1, none⟩ (.slice ya8 lh8 yc8) := ⟨_, rfl⟩
    rw [← hX] at g1 HRO
    have bX : Below w.heap.size w X := by rw [hX]; exact (hb1.setCell (p := ⟨R, 0, none⟩) (by show _ ≤ R; have := HPR.out; omega) _).setCell (p := ⟨R, 1, none⟩) (by show _ ≤ R; have := HPR.out; omega) _
    have HX9 : Hid (X = (w1.setCell ⟨R, 0, none⟩ (.slice xa8 ln8 xc8)).setCell ⟨R, 1, none⟩ (.slice ya8 lh8 yc8)) := hX
    have HX0 : Aside (X.cell? ⟨R, 0, none⟩ = some (.slice xa8 ln8 xc8)) := by unfold Aside; rw [cell_of_row _ _ _ _ _ _ g1]; rfl
    have HX1 : Aside (X.cell? ⟨R, 1, none⟩ = some (.slice ya8 lh8 yc8)) := by unfold Aside; rw [cell_of_row _ _ _ _ _ _ g1]; rfl
    have x0 : w1.cell? ⟨R, 0, none⟩ = some (.slice none 0 0) := by rw [cell_of_row _ _ _ _ _ _ r1]; rfl
    have x1 : w1.cell? ⟨R, 1, none⟩ = some (.slice none 0 0) := by rw [cell_of_row _ _ _ _ _ _ r1]; rfl
    have f0 : w1.frozen? ⟨R, 0, none⟩ = false := frozen_of_row _ _ _ _ _ r1
    have f1 : w1.frozen? ⟨R, 1, none⟩ = false := frozen_of_row _ _ _ _ _ r1
    clear g1 g2 g3 hX r1 o91 o92 hqq hln hlh b1 c0 c1 k0 k1 k2 k3
    go_wp2
    rw [← HX9.out]
    have y0 := HX0.out
    have y1 := HX1.out
    refine bodyPost_ret (v := .tuple #[.agg #[.slice xa8 ln8 xc8, .slice ya8 lh8 yc8], .int .i64 E1]) (by simp [results, Tryz.results9, go_sem, y0, y1]) rfl ?_
    exact ⟨_, ret_two' HEE.out.1.symm, HRO.out, bX⟩
  have h1b : (k == 1) = false := by simp [h1]
  by_cases h2 : k = 2
  · subst h2
    obtain ⟨E1, hE1⟩ : ∃ E1, E1 = M.brE C H s t := ⟨_, rfl⟩
    rw [← hE1] at F2
    have HE1 : Aside (E1 = M.brE C H s t) := hE1
    clear hE1 F1 F3 F4
    have hEE : E = E1 ∧ C' = (M.brC C H s t) ∧ H' = (M.brH C H s t) := by
      obtain ⟨h1, h2, h3⟩ := HEs.out
      simp at h1 h2 h3
      exact ⟨h1.trans HE1.out.symm, h2, h3⟩
    have HEE : Hid (E = E1 ∧ C' = (M.brC C H s t) ∧ H' = (M.brH C H s t)) := hEE
    clear hEE
    have c0r := c0
    have c1r := c1
    have k0r := k0
    have k1r := k1
    have k2r := k2
    have k3r := k3
    rw [HW.out, HP.out] at c0r c1r k0r k1r k2r k3r
    go_enter Tryz.func9, Tryz.ntmps9
    go_wp2_with fail
    rw [← HW.out, ← HP.out, ← HR.out]
    clear c0r c1r k0r k1r k2r k3r
    refine F2.out.mono ?_
    rintro e w1 ⟨v, rfl, o1, b1⟩
    have hb1 : Below w.heap.size w w1 := hb.trans (b1.mono hb.size)
    have r1 : w1.heap[R]? = some (.cells #[.slice none 0 0, .slice none 0 0] 25 (0, 0)) := (b1.block R (by have := HSz.out; omega)).trans HQ2.out
    obtain ⟨xa8, xc8, ya8, yc8, rfl, _⟩ := o1.v
    generalize hln : (M.brC C H s t).length = ln8 at *
    generalize hlh : (M.brH C H s t).length = lh8 at *
    obtain ⟨q1, q2, hqq, o91, o92⟩ := o1
    obtain ⟨rfl, rfl⟩ : q1 = .slice xa8 ln8 xc8 ∧ q2 = .slice ya8 lh8 yc8 := by simp at hqq; exact ⟨hqq.1.symm, hqq.2.symm⟩
    have HRO : Aside (RepoOwn ((w1.setCell ⟨R, 0, none⟩ (.slice xa8 ln8 xc8)).setCell ⟨R, 1, none⟩ (.slice ya8 lh8 yc8)) w.heap.size (.agg #[.slice xa8 ln8 xc8, .slice ya8 lh8 yc8]) C' H') := by unfold Aside; rw [HEE.out.2.1, HEE.out.2.2]; exact (repoOwn_set r1 o91 o92).lower hb.size
    obtain ⟨g1, g2, g3⟩ := res_set r1 (.slice xa8 ln8 xc8) (.slice ya8 lh8 yc8)
    obtain ⟨X, hX⟩ : ∃ X, X = (w1.setCell ⟨R, 0, none⟩ (.slice xa8 ln8 xc8)).setCell ⟨R, 1, none⟩ (.slice ya8 lh8 yc8) := ⟨_, rfl⟩
    rw [← hX] at g1 HRO
    have bX : Below w.heap.size w X := by rw [hX]; exact (hb1.setCell (p := ⟨R, 0, none⟩) (by show _ ≤ R; have := HPR.out; omega) _).setCell (p := ⟨R, 1, none⟩) (by show _ ≤ R; have := HPR.out; omega) _
    have HX9 : Hid (X = (w1.setCell ⟨R, 0, none⟩ (.slice xa8 ln8 xc8)).setCell ⟨R, 1, none⟩ (.slice ya8 lh8 yc8)) := hX
    have HX0 : Aside (X.cell? ⟨R, 0, none⟩ = some (.slice xa8 ln8 xc8)) := by unfold Aside; rw [cell_of_row _ _ _ _ _ _ g1]; rfl
    have HX1 : Aside (X.cell? ⟨R, 1, none⟩ = some (.slice ya8 lh8 yc8)) := by unfold Aside; rw [cell_of_row _ _ _ _ _ _ g1]; rfl
    have x0 : w1.cell? ⟨R, 0, none⟩ = some (.slice none 0 0) := by rw [cell_of_row _ _ _ _ _ _ r1]; rfl
    have x1 : w1.cell? ⟨R, 1, none⟩ = some (.slice none 0 0) := by rw [cell_of_row _ _ _ _ _ _ r1]; rfl
    have f0 : w1.frozen? ⟨R, 0, none⟩ = false := frozen_of_row _ _ _ _ _ r1
    have f1 : w1.frozen? ⟨R, 1, none⟩ = false := frozen_of_row _ _ _ _ _ r1
    clear g1 g2 g3 hX r1 o91 o92 hqq hln hlh b1 c0 c1 k0 k1 k2 k3
    go_wp2
    rw [← HX9.out]
    have y0 := HX0.out
    have y1 := HX1.out
    refine bodyPost_ret (v := .tuple #[.agg #[.slice xa8 ln8 xc8, .slice ya8 lh8 yc8], .int .i64 E1]) (by simp [results, Tryz.results9, go_sem, y0, y1]) rfl ?_
    exact ⟨_, ret_two' HEE.out.1.symm, HRO.out, bX⟩
  have h2b : (k == 2) = false := by simp [h2]
  by_cases h3 : k = 3
  · subst h3
    obtain ⟨E1, hE1⟩ : ∃ E1, E1 = M.joinE C H s t := ⟨_, rfl⟩
    rw [← hE1] at F3
    have HE1 : Aside (E1 = M.joinE C H s t) := hE1
    clear hE1 F1 F2 F4
    have hEE : E = E1 ∧ C' = (M.joinC C H s t) ∧ H' = (M.joinH C H s t) := by
      obtain ⟨h1, h2, h3⟩ := HEs.out
      simp at h1 h2 h3
      exact ⟨h1.trans HE1.out.symm, h2, h3⟩
    have HEE : Hid (E = E1 ∧ C' = (M.joinC C H s t) ∧ H' = (M.joinH C H s t)) := hEE
    clear hEE
    have c0r := c0
    have c1r := c1
    have k0r := k0
    have k1r := k1
    have k2r := k2
    have k3r := k3
    rw [HW.out, HP.out] at c0r c1r k0r k1r k2r k3r
    go_enter Tryz.func9, Tryz.ntmps9
    go_wp2_with fail
    rw [← HW.out, ← HP.out, ← HR.out]
    clear c0r c1r k0r k1r k2r k3r
    refine F3.out.mono ?_
    rintro e w1 ⟨v, kb, kn, kc, rfl, o1, b1⟩
    have hb1 : Below w.heap.size w w1 := hb.trans (b1.mono hb.size)
    have r1 : w1.heap[R]? = some (.cells #[.slice none 0 0, .slice none 0 0] 25 (0, 0)) := (b1.block R (by have := HSz.out; omega)).trans HQ2.out
    obtain ⟨xa8, xc8, ya8, yc8, rfl, _⟩ := o1.v
    generalize hln : (M.joinC C H s t).length = ln8 at *
    generalize hlh : (M.joinH C H s t).length = lh8 at *
    obtain ⟨q1, q2, hqq, o91, o92⟩ := o1
    obtain ⟨rfl, rfl⟩ : q1 = .slice xa8 ln8 xc8 ∧ q2 = .slice ya8 lh8 yc8 := by simp at hqq; exact ⟨hqq.1.symm, hqq.2.symm⟩
    obtain ⟨W2, hW2⟩ : ∃ W2, W2 = w1.alloc (.cells #[.slice xa8 ln8 xc8, .slice ya8 lh8 yc8] 25) := ⟨_, rfl⟩
    have b2 : Below w1.heap.size w1 W2 := by rw [hW2]; exact (Below.refl _ _).alloc (Nat.le_refl _) _
    have r2 : W2.heap[R]? = some (.cells #[.slice none 0 0, .slice none 0 0] 25 (0, 0)) := (b2.block R (Array.getElem?_eq_some_iff.1 r1).1).trans r1
    have hb2 : Below w.heap.size w W2 := hb1.trans (b2.mono hb1.size)
    have o91 := o91.later b2
    have o92 := o92.later b2
    have HW2 : Hid (W2 = w1.alloc (.cells #[.slice xa8 ln8 xc8, .slice ya8 lh8 yc8] 25)) := hW2
    have HRO : Aside (RepoOwn ((W2.setCell ⟨R, 0, none⟩ (.slice xa8 ln8 xc8)).setCell ⟨R, 1, none⟩ (.slice ya8 lh8 yc8)) w.heap.size (.agg #[.slice xa8 ln8 xc8, .slice ya8 lh8 yc8]) C' H') := by unfold Aside; rw [HEE.out.2.1, HEE.out.2.2]; exact (repoOwn_set r2 o91 o92).lower hb.size
    obtain ⟨g1, g2, g3⟩ := res_set r2 (.slice xa8 ln8 xc8) (.slice ya8 lh8 yc8)
    obtain ⟨X, hX⟩ : ∃ X, X = (W2.setCell ⟨R, 0, none⟩ (.slice xa8 ln8 xc8)).setCell ⟨R, 1, none⟩ (.slice ya8 lh8 yc8) := ⟨_, rfl⟩
    rw [← hX] at g1 HRO
    have bX : Below w.heap.size w X := by rw [hX]; exact (hb2.setCell (p := ⟨R, 0, none⟩) (by show _ ≤ R; have := HPR.out; omega) _).setCell (p := ⟨R, 1, none⟩) (by show _ ≤ R; have := HPR.out; omega) _
    have HX9 : Hid (X = (W2.setCell ⟨R, 0, none⟩ (.slice xa8 ln8 xc8)).setCell ⟨R, 1, none⟩ (.slice ya8 lh8 yc8)) := hX
    have HX0 : Aside (X.cell? ⟨R, 0, none⟩ = some (.slice xa8 ln8 xc8)) := by unfold Aside; rw [cell_of_row _ _ _ _ _ _ g1]; rfl
    have HX1 : Aside (X.cell? ⟨R, 1, none⟩ = some (.slice ya8 lh8 yc8)) := by unfold Aside; rw [cell_of_row _ _ _ _ _ _ g1]; rfl
    have x0 : W2.cell? ⟨R, 0, none⟩ = some (.slice none 0 0) := by rw [cell_of_row _ _ _ _ _ _ r2]; rfl
    have x1 : W2.cell? ⟨R, 1, none⟩ = some (.slice none 0 0) := by rw [cell_of_row _ _ _ _ _ _ r2]; rfl
    have f0 : W2.frozen? ⟨R, 0, none⟩ = false := frozen_of_row _ _ _ _ _ r2
    have f1 : W2.frozen? ⟨R, 1, none⟩ = false := frozen_of_row _ _ _ _ _ r2
    rw [hW2] at x0 x1 f0 f1
    clear g1 g2 g3 hX hW2 r1 r2 o91 o92 hqq hln hlh b1 b2 c0 c1 k0 k1 k2 k3
    go_wp2
    rw [← HW2.out, ← HX9.out]
    have y0 := HX0.out
    have y1 := HX1.out
    refine bodyPost_ret (v := .tuple #[.agg #[.slice xa8 ln8 xc8, .slice ya8 lh8 yc8], .int .i64 E1]) (by simp [results, Tryz.results9, go_sem, y0, y1]) rfl ?_
    exact ⟨_, ret_two' HEE.out.1.symm, HRO.out, bX⟩
  have h3b : (k == 3) = false := by simp [h3]
  by_cases h4 : k = 4
  · subst h4
    obtain ⟨E1, hE1⟩ : ∃ E1, E1 = M.dropE C H s := ⟨_, rfl⟩
    rw [← hE1] at F4
    have HE1 : Aside (E1 = M.dropE C H s) := hE1
    clear hE1 F1 F2 F3
    have hEE : E = E1 ∧ C' = (M.dropC C H s) ∧ H' = (M.dropH C H s) := by
      obtain ⟨h1, h2, h3⟩ := HEs.out
      simp at h1 h2 h3
      exact ⟨h1.trans HE1.out.symm, h2, h3⟩
    have HEE : Hid (E = E1 ∧ C' = (M.dropC C H s) ∧ H' = (M.dropH C H s)) := hEE
    clear hEE
    have c0r := c0
    have c1r := c1
    have k0r := k0
    have k1r := k1
    have k2r := k2
    have k3r := k3
    rw [HW.out, HP.out] at c0r c1r k0r k1r k2r k3r
    go_enter Tryz.func9, Tryz.ntmps9
    go_wp2_with fail
    rw [← HW.out, ← HP.out, ← HR.out]
    clear c0r c1r k0r k1r k2r k3r
    refine F4.out.mono ?_
    rintro e w1 ⟨v, rfl, o1, b1⟩
    have hb1 : Below w.heap.size w w1 := hb.trans (b1.mono hb.size)
    have r1 : w1.heap[R]? = some (.cells #[.slice none 0 0, .slice none 0 0] 25 (0, 0)) := (b1.block R (by have := HSz.out; omega)).trans HQ2.out
    obtain ⟨xa8, xc8, ya8, yc8, rfl, _⟩ := o1.v
    generalize hln : (M.dropC C H s).length = ln8 at *
    generalize hlh : (M.dropH C H s).length = lh8 at *
    obtain ⟨q1, q2, hqq, o91, o92⟩ := o1
    obtain ⟨rfl, rfl⟩ : q1 = .slice xa8 ln8 xc8 ∧ q2 = .slice ya8 lh8 yc8 := by simp at hqq; exact ⟨hqq.1.symm, hqq.2.symm⟩
    have HRO : Aside (RepoOwn ((w1.setCell ⟨R, 0, none⟩ (.slice xa8 ln8 xc8)).setCell ⟨R, 1, none⟩ (.slice ya8 lh8 yc8)) w.heap.size (.agg #[.slice xa8 ln8 xc8, .slice ya8 lh8 yc8]) C' H') := by unfold Aside; rw [HEE.out.2.1, HEE.out.2.2]; exact (repoOwn_set r1 o91 o92).lower hb.size
    obtain ⟨g1, g2, g3⟩ := res_set r1 (.slice xa8 ln8 xc8) (.slice ya8 lh8 yc8)
    obtain ⟨X, hX⟩ : ∃ X, X = (w1.setCell ⟨R, 0, none⟩ (.slice xa8 ln8 xc8)).setCell ⟨R, 1, none⟩ (.slice ya8 lh8 yc8) := ⟨_, rfl⟩
    rw [← hX] at g1 HRO
    have bX : Below w.heap.size w X := by rw [hX]; exact (hb1.setCell (p := ⟨R, 0, none⟩) (by show _ ≤ R; have := HPR.out; omega) _).setCell (p := ⟨R, 1, none⟩) (by show _ ≤ R; have := HPR.out; omega) _
    have HX9 : Hid (X = (w1.setCell ⟨R, 0, none⟩ (.slice xa8 ln8 xc8)).setCell ⟨R, 1, none⟩ (.slice ya8 lh8 yc8)) := hX
    have HX0 : Aside (X.cell? ⟨R, 0, none⟩ = some (.slice xa8 ln8 xc8)) := by unfold Aside; rw [cell_of_row _ _ _ _ _ _ g1]; rfl
    have HX1 : Aside (X.cell? ⟨R, 1, none⟩ = some (.slice ya8 lh8 yc8)) := by unfold Aside; rw [cell_of_row _ _ _ _ _ _ g1]; rfl
    have x0 : w1.cell? ⟨R, 0, none⟩ = some (.slice none 0 0) := by rw [cell_of_row _ _ _ _ _ _ r1]; rfl
    have x1 : w1.cell? ⟨R, 1, none⟩ = some (.slice none 0 0) := by rw [cell_of_row _ _ _ _ _ _ r1]; rfl
    have f0 : w1.frozen? ⟨R, 0, none⟩ = false := frozen_of_row _ _ _ _ _ r1
    have f1 : w1.frozen? ⟨R, 1, none⟩ = false := frozen_of_row _ _ _ _ _ r1
    clear g1 g2 g3 hX r1 o91 o92 hqq hln hlh b1 c0 c1 k0 k1 k2 k3
    go_wp2
    rw [← HX9.out]
    have y0 := HX0.out
    have y1 := HX1.out
    refine bodyPost_ret (v := .tuple #[.agg #[.slice xa8 ln8 xc8, .slice ya8 lh8 yc8], .int .i64 E1]) (by simp [results, Tryz.results9, go_sem, y0, y1]) rfl ?_
    exact ⟨_, ret_two' HEE.out.1.symm, HRO.out, bX⟩
  have h4b : (k == 4) = false := by simp [h4]
  have HEE : Hid (E = 8 ∧ C' = [] ∧ H' = []) := by
    obtain ⟨e1, e2, e3⟩ := HEs.out
    rw [if_neg h1, if_neg h2, if_neg h3, if_neg h4] at e1
    rw [if_neg h1, if_neg h2, if_neg h3, if_neg h4] at e2
    rw [if_neg h1, if_neg h2, if_neg h3, if_neg h4] at e3
    exact ⟨e1, e2, e3⟩
  have r1 := HQ2.out
  have HX0 : Aside (W.cell? ⟨R, 0, none⟩ = some (.slice none 0 0)) := by unfold Aside; rw [cell_of_row _ _ _ _ _ _ r1]; rfl
  have HX1 : Aside (W.cell? ⟨R, 1, none⟩ = some (.slice none 0 0)) := by unfold Aside; rw [cell_of_row _ _ _ _ _ _ r1]; rfl
  rw [HW.out, HP.out] at c0 c1 k0 k1 k2 k3
  clear r1 h1 h2 h3 h4 F1 F2 F3 F4
  go_enter Tryz.func9, Tryz.ntmps9
  go_wp2_with fail
  rw [← HW.out, ← HP.out, ← HR.out]
  have y0 := HX0.out
  have y1 := HX1.out
  rw [← HP.out] at hb
  refine bodyPost_ret (v := .tuple #[.agg #[.slice none 0 0, .slice none 0 0], .int .i64 8]) (by simp [results, Tryz.results9, go_sem, y0, y1]) rfl ?_
  refine ⟨_, ret_two' HEE.out.1.symm, ?_, hb⟩
  rw [HEE.out.2.1, HEE.out.2.2]; exact RepoOwn.none _ _
end Go.Proofs.YtcgpgflnihjpiafGreat

/- From an argument's reading to the act that it holds. -/
namespace Go.Proofs.YtcgpgflnihjpiafGreat
open Go.ChangeShapes Go.WideShapes Go.ChangeAt Go.RowKit Go.Deep

theorem M.str_self (s : ByteArray) : M.str s.data.toList = s := by
  unfold M.str; obtain ⟨a⟩ := s; simp
set_option maxRecDepth 100000 in
theorem open_chgC {H : Type} {enc : TypeId × Value → H} {w : World} {base : Nat} {spare : Nat → Bool} {held : Bool} {fuel : Nat} {v : Value} {x : DataW H × List MemPlace}
    (h : DataW.trod enc Tryz.prog w base spare held fuel 26 [v] = some x) : ∃ a len cap l, v = .slice a len cap ∧ Rc w a len l ∧ len ≤ cap ∧ cap ≤ maxLen ∧ (a = none → len = 0 ∧ cap = 0) := by
  rcases open_slice Tryz.underlying26 h with ⟨hcs, _⟩ | ⟨ad, len', cap', m, n, D, Pl, hcs, _⟩
  · simp at hcs
    subst hcs
    obtain ⟨l, h1, h2, h3⟩ := open_changes h
    exact ⟨none, 0, 0, l, rfl, h1, h2, h3, fun _ => ⟨rfl, rfl⟩⟩
  · simp at hcs
    subst hcs
    obtain ⟨l, h1, h2, h3⟩ := open_changes h
    exact ⟨some ad, len', cap', l, rfl, h1, h2, h3, fun h => by simp at h⟩
set_option maxRecDepth 100000 in
theorem open_act {H : Type} {enc : TypeId × Value → H} {w : World} {base : Nat} {spare : Nat → Bool} {held : Bool} {r : Reach} {b0 : Nat} {v : Value} {d : DataW H} {p : List MemPlace} (hv : Value.okWide Tryz.prog w r b0 28 v) (h : DataW.Trod enc Tryz.prog w base spare held 28 v d p) :
    ∃ x a m cap, v = actV x a m cap ∧ Rc w a m x.chs ∧ m ≤ cap ∧ cap ≤ maxLen ∧ (M.str x.one).size ≤ maxLen ∧ (M.str x.two).size ≤ maxLen := by
  obtain ⟨v0, v1, v2, v3, y0, y1, y2, y3, m, rfl, _, _, g0, g1, g2, g3⟩ := Joins.open_agg4 Tryz.underlying28 (by kernel_rfl) (by kernel_rfl) hv h
  obtain ⟨x0, e0, _, _⟩ := DataW.trod_int (k := .i64) Tryz.underlying3 g0
  obtain ⟨s1, e1, _, z1⟩ := DataW.trod_string Tryz.underlying9 g1
  obtain ⟨s2, e2, _, z2⟩ := DataW.trod_string Tryz.underlying9 g2
  obtain ⟨a, len, cap, l, rfl, h1, h2, h3, _⟩ := open_chgC g3
  simp at e0 e1 e2
  subst e0 e1 e2
  refine ⟨⟨x0, s1.data.toList, s2.data.toList, l⟩, a, len, cap, ?_, h1, h2, h3, ?_, ?_⟩
  · unfold actV
    simp only [M.str_self]
  · simp only [M.str_self]; exact z1
  · simp only [M.str_self]; exact z2
end Go.Proofs.YtcgpgflnihjpiafGreat

/- For every repo, every act and every name, the law WorkRight returns true and leaves its arguments as they were: whatever is done, what comes is right; no commit is ever changed or lost, and no head but the one that is named. No condition. -/
namespace Go.Proofs.YtcgpgflnihjpiafGreat
open Go.ChangeShapes Go.WideShapes Go.ChangeAt Go.RowKit

theorem M.do_some {C : List M.Com} {H : List M.Hd} {x : M.Act} (h : M.doE C H x = 0) : 0 < C.length := by
  have key : ∀ s, M.hchk C H s = 0 → 0 < C.length := fun s hs => by have := M.hat_in hs; omega
  unfold M.doE at h
  by_cases k1 : x.kind = 1
  · rw [if_pos k1] at h
    exact key _ (M.put_parts h).1
  · rw [if_neg k1] at h
    by_cases k2 : x.kind = 2
    · rw [if_pos k2] at h
      exact key _ (M.br_parts h).1
    · rw [if_neg k2] at h
      by_cases k3 : x.kind = 3
      · rw [if_pos k3] at h
        exact key _ (M.join_parts h).1
      · rw [if_neg k3] at h
        by_cases k4 : x.kind = 4
        · rw [if_pos k4] at h
          exact key _ (M.drop_parts h).1
        · rw [if_neg k4] at h
          omega
theorem M.do_take {C : List M.Com} {H : List M.Hd} {x : M.Act} (h : M.doE C H x = 0) : (M.doC C H x).take C.length = C ∧ C.length ≤ (M.doC C H x).length ∧ (M.doC C H x).length ≤ C.length + 1 := by
  rcases (M.do_all h).2.1 with e | ⟨c, e⟩
  · rw [e]; simp
  · rw [e]; simp
theorem Cm.take {w : World} {a : Option Addr} {n : Nat} {C : List M.Com} (h : Cm w a n C) (k : Nat) (hk : k ≤ n) : Cm w a k (C.take k) := by
  obtain ⟨h1, h2⟩ := h
  refine ⟨by rw [List.length_take]; omega, ?_⟩
  rcases h2 with h2 | ⟨b, off, ha, hlt, hc⟩
  · exact Or.inl (by omega)
  · refine Or.inr ⟨b, off, ha, hlt, fun i hi => ?_⟩
    have e : (C.take k).getD i ([], []) = C.getD i ([], []) := by simp [List.getD, hi]
    rw [e]; exact hc i (by omega)
theorem begun_right {w V : World} (hb : Below w.heap.size w V) : Calls Tryz.prog 10 #[] V fun e w' => e = .returned (.bool true) ∧ Below w.heap.size w w' :=
  (wbegun_any V).mono fun _ _ h => ⟨h.1, hb.trans (h.2.mono hb.size)⟩

set_option maxRecDepth 100000 in
set_option maxHeartbeats 16000000 in
theorem workRight_walk (a : Option Addr) (n cap : Nat) (C : List M.Com) (a2 : Option Addr) (n2 cap2 : Nat) (H : List M.Hd) (x : M.Act) (a3 : Option Addr) (m3 cap3 : Nat) (nm : ByteArray) (w : World) (hV : RepoV w a n cap C a2 n2 cap2 H) (hrc : Rc w a3 m3 x.chs) (hm3 : m3 ≤ 9223372036854775807) (hss : (M.str x.one).size ≤ 9223372036854775807) :
    Calls Tryz.prog 3 #[.agg #[.slice a n cap, .slice a2 n2 cap2], actV x a3 m3 cap3, .string nm] w fun e w' => e = .returned (.bool true) ∧ Below w.heap.size w w' := by
  obtain ⟨p, hp⟩ : ∃ p, p = w.heap.size := ⟨_, rfl⟩
  obtain ⟨W1, hW1⟩ : ∃ W1, W1 = w.alloc (.cells #[.slice a n cap, .slice a2 n2 cap2] 25) := ⟨_, rfl⟩
  obtain ⟨W, hW⟩ : ∃ W, W = W1.alloc (.cells #[.int .i64 x.kind, .string (M.str x.one), .string (M.str x.two), .slice a3 m3 cap3] 28) := ⟨_, rfl⟩
  have hb1 : Below w.heap.size w W1 := by rw [hW1]; exact (Below.refl _ _).alloc (Nat.le_refl _) _
  have hb2 : Below W1.heap.size W1 W := by rw [hW]; exact (Below.refl _ _).alloc (Nat.le_refl _) _
  have hb : Below w.heap.size w W := dbelow2 hb1 hb2
  have HB1 : KBox W1 p a n cap C a2 n2 cap2 H := by rw [hW1, hp]; exact KBox.new hV
  have HB : Hid (KBox W p a n cap C a2 n2 cap2 H) := HB1.later hb2
  have hs1 : W1.heap.size = p + 1 := by rw [hW1, hp]; simp
  have j0 : W.cell? ⟨p + 1, 0, none⟩ = some (.int .i64 x.kind) := by rw [hW, ← hs1]; simp [go_sem]
  have j1 : W.cell? ⟨p + 1, 1, none⟩ = some (.string (M.str x.one)) := by rw [hW, ← hs1]; simp [go_sem]
  have j2 : W.cell? ⟨p + 1, 2, none⟩ = some (.string (M.str x.two)) := by rw [hW, ← hs1]; simp [go_sem]
  have j3 : W.cell? ⟨p + 1, 3, none⟩ = some (.slice a3 m3 cap3) := by rw [hW, ← hs1]; simp [go_sem]
  have hpl : p + 1 < W.heap.size := by rw [hW]; simp; omega
  have HJ1 : Hid (∀ V, Below W.heap.size W V → V.cell? ⟨p + 1, 1, none⟩ = some (.string (M.str x.one))) := fun V hV => (hV.cell (p := ⟨p + 1, 1, none⟩) hpl).trans j1
  obtain ⟨E, hE⟩ : ∃ E, E = M.doE C H x := ⟨_, rfl⟩
  have F1 : Hid (Calls Tryz.prog 9 #[.agg #[.slice a n cap, .slice a2 n2 cap2], actV x a3 m3 cap3] W fun e w' => ∃ v, e = .returned (.tuple #[v, .int .i64 E]) ∧ RepoOwn w' W.heap.size v (M.doC C H x) (M.doH C H x) ∧ Below W.heap.size W w') := by rw [hE]; exact do_any a n cap C a2 n2 cap2 H x a3 m3 cap3 W (hV.later hb) (hrc.below hb (Nat.le_refl _)) hm3 hss
  unfold actV at F1 ⊢
  obtain ⟨kd, hkd⟩ : ∃ kd, kd = x.kind := ⟨_, rfl⟩
  obtain ⟨so, hso⟩ : ∃ so, so = M.str x.one := ⟨_, rfl⟩
  obtain ⟨st, hst⟩ : ∃ st, st = M.str x.two := ⟨_, rfl⟩
  rw [← hkd, ← hso, ← hst] at F1 ⊢
  rw [← hkd] at j0 hW
  rw [← hso] at j1 HJ1 hW
  rw [← hst] at j2 hW
  have HW : Hid (W = (w.alloc (.cells #[.slice a n cap, .slice a2 n2 cap2] 25)).alloc (.cells #[.int .i64 kd, .string so, .string st, .slice a3 m3 cap3] 28)) := by rw [← hW1]; exact hW
  have HP : Aside (p = w.heap.size) := hp
  have HE : Aside (E = M.doE C H x) := hE
  have HSo : Aside (so = M.str x.one) := hso
  have HNC : Aside (C.length = n) := hV.cm.1
  have c0 := HB.out.c0
  have c1 := HB.out.c1
  rw [HW.out, HP.out] at c0 c1 j0 j1 j2 j3
  clear hW1 hW hp hV hrc hss hkd hso hst hE HB1 hb1 hb2 hs1
  go_enter Tryz.func3, Tryz.ntmps3
  go_wp2_with fail
  rw [← HW.out, ← HP.out]
  refine F1.out.mono ?_
  rintro e v1 ⟨r1, rfl, o1, bb1⟩
  obtain ⟨q1, q2, rfl, ok, oh⟩ := o1
  obtain ⟨xa1, xc1, rfl, hcm1, hcn1, hle1, hcap1, hnil1⟩ := ok.cm
  obtain ⟨ya1, yc1, rfl, hhs1, _, _, hnil2⟩ := oh.hs
  have V1 : RepoV v1 xa1 (M.doC C H x).length xc1 (M.doC C H x) ya1 (M.doH C H x).length yc1 (M.doH C H x) := ⟨hcm1, hcn1, by unfold maxLen at hcap1; omega, hhs1, by rename_i h1 h2; unfold maxLen at h2; omega, hnil2⟩
  obtain ⟨ln1, hln1⟩ : ∃ ln, ln = (M.doC C H x).length := ⟨_, rfl⟩
  obtain ⟨lh1, hlh1⟩ : ∃ lh, lh = (M.doH C H x).length := ⟨_, rfl⟩
  rw [← hln1, ← hlh1] at V1 ⊢
  rw [← hln1] at hle1
  obtain ⟨X1, hX1⟩ : ∃ X, X = v1.alloc (.cells #[.slice xa1 ln1 xc1, .slice ya1 lh1 yc1] 25) := ⟨_, rfl⟩
  obtain ⟨p1, hp1⟩ : ∃ p, p = v1.heap.size := ⟨_, rfl⟩
  have bX1 : Below v1.heap.size v1 X1 := by rw [hX1]; exact (Below.refl _ _).alloc (Nat.le_refl _) _
  have HB1 : Hid (KBox X1 p1 xa1 ln1 xc1 (M.doC C H x) ya1 lh1 yc1 (M.doH C H x)) := by rw [hX1, hp1]; exact KBox.new V1
  have HX1 : Hid (X1 = v1.alloc (.cells #[.slice xa1 ln1 xc1, .slice ya1 lh1 yc1] 25)) := hX1
  have HP1 : Aside (p1 = v1.heap.size) := hp1
  have b1 : Below W.heap.size W X1 := dbelow2 bb1 bX1
  have HLn1 : Aside (ln1 = (M.doC C H x).length) := hln1
  have HLe1 : Aside (ln1 ≤ xc1) := hle1
  have HK : Hid (Below w.heap.size w X1) := hb.trans (b1.mono hb.size)
  clear c0 c1 j0 j1 j2 j3 ok oh hcm1 hcn1 hle1 hcap1 hnil1 hhs1 hnil2 V1 hX1 hp1 bX1 bb1 hln1 hlh1 F1
  by_cases h1 : E = 0
  case neg =>
    have h1b : (E != 0) = true := by simp [h1]
    clear h1
    go_wp2_with fail
    rw [← HX1.out]
    refine (begun_right HK.out).mono ?_
    rintro e Y ⟨rfl, bY⟩
    go_wp2
    go_ret
    exact ⟨rfl, bY⟩
  subst h1
  have hJ : M.doE C H x = 0 := HE.out.symm
  obtain ⟨hr, _, hhd⟩ := M.do_all hJ
  obtain ⟨htk, hcl, hcu⟩ := M.do_take hJ
  have hpos := M.do_some hJ
  rw [← HLn1.out] at hcl hcu
  rw [HNC.out] at hcl hcu hpos htk
  have G1 : Hid (Calls Tryz.prog 11 #[.agg #[.slice xa1 ln1 xc1, .slice ya1 lh1 yc1]] X1 fun e w' => e = .returned (.int .i64 0) ∧ Below X1.heap.size X1 w') := by
    have q := HB1.out.v
    have := rcheck_any xa1 ln1 xc1 _ ya1 lh1 yc1 _ X1 q.cm q.nm q.hs q.hm
    rw [hr] at this
    exact this
  have HTk : Hid ((M.doC C H x).take n = C) := htk
  have HHd : Hid (∀ t, t ≠ so → M.hchk (M.doC C H x) (M.doH C H x) t = M.hchk C H t ∧ M.hat (M.doC C H x) (M.doH C H x) t = M.hat C H t) := by unfold Hid; rw [HSo.out]; exact hhd
  obtain ⟨xb, xo, rfl⟩ : ∃ xb xo, xa1 = some ⟨xb, xo, none⟩ := by
    rcases HB1.out.v.cm.cases with ⟨h0, _⟩ | ⟨b, off, e, _⟩
    · omega
    · exact ⟨b, off, e⟩
  have e0 := HB1.out.c0
  have e1 := HB1.out.c1
  rw [HX1.out, HP1.out] at e0 e1
  have hl14 : ln1 ≤ 14 := by rw [HLn1.out]; exact (M.dchk_zero (M.rchk_zero hr).1).1
  clear hr hhd htk hJ
  go_wp2_with fail
  rw [← HX1.out, ← HP1.out]
  refine G1.out.mono ?_
  rintro e A1 ⟨rfl, qa1⟩
  have bA1 := dbelow2 b1 qa1
  clear e0 e1 G1
  have e0 := (HB1.out.later qa1).c0
  have e1 := (HB1.out.later qa1).c1
  have f0 := (HB.out.later bA1).c0
  have f1 := (HB.out.later bA1).c1
  have hp1A : p1 < A1.heap.size := (HB1.out.later qa1).lt
  have hpA : p < A1.heap.size := (HB.out.later bA1).lt
  obtain ⟨D, hD⟩ : ∃ D, D = A1.heap.size := ⟨_, rfl⟩
  obtain ⟨A2, hA2⟩ : ∃ A2, A2 = A1.alloc (.cells #[.slice (some ⟨xb, xo, none⟩) n xc1, .slice a2 n2 cap2] 25) := ⟨_, rfl⟩
  have qb2 : Below A1.heap.size A1 A2 := by rw [hA2]; exact (Below.refl _ _).alloc (Nat.le_refl _) _
  have qa2 := dbelow2 qa1 qb2
  have bA2 := dbelow2 bA1 qb2
  have KS : Hid (Calls Tryz.prog 12 #[.agg #[.slice (some ⟨xb, xo, none⟩) n xc1, .slice a2 n2 cap2], .agg #[.slice a n cap, .slice a2 n2 cap2]] A2 fun e w' => e = .returned (.bool true) ∧ Below A2.heap.size A2 w') := by
    have u := HB1.out.v.later qa2
    have v := HB.out.v.later bA2
    have t := u.cm.take n hcl
    rw [HTk.out] at t
    exact srepos_yes (some ⟨xb, xo, none⟩) a n xc1 cap C a2 a2 n2 cap2 cap2 H A2 t v.cm v.nm v.hs v.hs v.hm
  have HA2 : Hid (A2 = A1.alloc (.cells #[.slice (some ⟨xb, xo, none⟩) n xc1, .slice a2 n2 cap2] 25)) := hA2
  have HD : Aside (D = A1.heap.size) := hD
  have hi1 : decide ((ln1 : Int) < (n : Int)) = false := by simp; omega
  have hn14 : n ≤ 9223372036854775806 := by omega
  have hi2 : IntKind.i64.wrap ((n : Int) + 1) = (n : Int) + 1 := by rw [IntKind.wrap_i64]; omega
  have hi3 : decide ((n : Int) + 1 < (ln1 : Int)) = false := by simp; omega
  have hi4 : (n : Int) ≤ (xc1 : Int) := by have := HLe1.out; omega
  clear hA2 hD qb2
  go_wp2_with fail
  rw [← HA2.out, ← HD.out]
  refine KS.out.mono ?_
  rintro e A3 ⟨rfl, qb3⟩
  have qa3 := dbelow2 qa2 qb3
  have bA3 := dbelow2 bA2 qb3
  obtain ⟨z1, hz1⟩ : ∃ z, z = M.hchk C H nm := ⟨_, rfl⟩
  obtain ⟨y1, hy1⟩ : ∃ y, y = M.hat C H nm := ⟨_, rfl⟩
  obtain ⟨z2, hz2⟩ : ∃ z, z = M.hchk (M.doC C H x) (M.doH C H x) nm := ⟨_, rfl⟩
  obtain ⟨y2, hy2⟩ : ∃ y, y = M.hat (M.doC C H x) (M.doH C H x) nm := ⟨_, rfl⟩
  have G2 : Hid (Calls Tryz.prog 13 #[.agg #[.slice a n cap, .slice a2 n2 cap2], .string nm] A3 fun e w' => e = .returned (.tuple #[.int .i64 y1, .int .i64 z1]) ∧ Below A3.heap.size A3 w') := by
    have q := HB.out.v.later bA3
    rw [hy1, hz1]
    exact head_any a n cap C a2 n2 cap2 H nm A3 q.cm q.nm q.hs q.hm
  have G3 : Hid (∀ V, Below A3.heap.size A3 V → Calls Tryz.prog 13 #[.agg #[.slice (some ⟨xb, xo, none⟩) ln1 xc1, .slice ya1 lh1 yc1], .string nm] V fun e w' => e = .returned (.tuple #[.int .i64 y2, .int .i64 z2]) ∧ Below V.heap.size V w') := fun V hV => by
    have q := HB1.out.v.later (dbelow2 qa3 hV)
    rw [hy2, hz2]
    exact head_any (some ⟨xb, xo, none⟩) ln1 xc1 _ ya1 lh1 yc1 _ nm V q.cm q.nm q.hs q.hm
  have HHn : Hid (nm ≠ so → z2 = z1 ∧ y2 = y1) := fun h => by rw [hz1, hz2, hy1, hy2]; exact HHd.out nm h
  clear e0 e1 f0 f1 hz1 hz2 hy1 hy2 KS qb3 qa1 qa2 bA1 bA2 HHd HTk
  have f0 := (HB.out.later bA3).c0
  have f1 := (HB.out.later bA3).c1
  go_wp2_with fail
  refine G2.out.mono ?_
  rintro e A4 ⟨rfl, qb4⟩
  have qa4 := dbelow2 qa3 qb4
  have bA4 := dbelow2 bA3 qb4
  have e0 := (HB1.out.later qa4).c0
  have e1 := (HB1.out.later qa4).c1
  clear f0 f1 G2
  go_wp2_with fail
  refine (G3.out _ qb4).mono ?_
  rintro e A5 ⟨rfl, qb5⟩
  have bA5 := dbelow2 bA4 qb5
  clear e0 e1 G3
  go_wp2_with fail
  refine (wbegun_any _).mono ?_
  rintro e A6 ⟨rfl, qb6⟩
  have bA6 := dbelow2 bA5 qb6
  have g1 := HJ1.out A6 bA6
  have bZ : Below w.heap.size w A6 := hb.trans (bA6.mono hb.size)
  clear qa3 qa4 bA3 bA4 bA5 bA6 qb4 qb5 qb6
  by_cases hne : nm = so
  · have hq : (nm.toList == so.toList) = true := by rw [hne]; simp
    clear hne
    go_wp2
    go_ret
    exact ⟨rfl, bZ⟩
  · have hq : (nm.toList == so.toList) = false := by
      cases h : (nm.toList == so.toList) with
      | false => rfl
      | true => exact absurd ((M.alike_iff nm so).1 h) hne
    obtain ⟨rfl, rfl⟩ := HHn.out hne
    clear hne
    go_wp2
    go_ret
    exact ⟨rfl, bZ⟩
set_option maxRecDepth 100000 in
theorem workRight_lifted (os : Os) (started : os.Started) (H : Type) (enc : TypeId × Value → H) :
    ReturnsInHanded {} Tryz.checked os 3 .any (Rows.workRightSpec.pre6 enc Tryz.prog Tryz.f3 Rows.workRightRow.domain false) (Rows.workRightSpec.post enc Tryz.prog Tryz.f3 false true false false) := by
  refine returnsInHanded_of_change (C := Tryz.checked) ownTry started (by kernel_rfl) Tryz.func3
    (ChangeSpec.witness6 (enc := enc) (C := Tryz.checked) false ⟨#[], #[.agg #[.slice none 0 0, .slice none 0 0], .agg #[.int .i64 0, .string ⟨#[]⟩, .string ⟨#[]⟩, .slice none 0 0], .string ⟨#[]⟩], []⟩ 8 (by kernel_rfl) (by kernel_rfl) (by kernel_rfl) (by kernel_rfl)) ?_
  intro W base args ds gs before hval0 hW hcnd _
  have hval : ∀ (j : Nat) t v, Tryz.f3.params[j]? = some t → args[j]? = some v → Value.okWide Tryz.prog W .any base t v := hval0
  have hW' := hW
  obtain ⟨p, q, hA0, hV, rfl, hfz, hnd⟩ := hW
  have hA : DataW.TrodAll enc Tryz.prog W 0 (fun _ => true) true Tryz.f3.params.toList args.toList ds p := hA0
  rw [Tryz.params3] at hA hval
  obtain ⟨v0, vs0, d0, ds0, p0, q0, hargs, rfl, rfl, h0, r0⟩ := trodAll_cons hA
  obtain ⟨v1, vs1, d1, ds1, p1, q1, rfl, rfl, rfl, h1, r1⟩ := trodAll_cons r0
  obtain ⟨v2, vs2, d2, ds2, p2, q2, rfl, rfl, rfl, h2, r2⟩ := trodAll_cons r1
  obtain ⟨rfl, rfl, rfl⟩ := trodAll_nil r2
  obtain rfl : args = #[v0, v1, v2] := by cases args; simp_all
  obtain ⟨rfl, rfl⟩ := trodVars_none hV
  have k0 := h0
  have lt0 : ∀ x ∈ p0, x.block < W.heap.size := by obtain ⟨m, hm⟩ := k0; exact DataW.trod_lt m _ _ _ hm
  obtain ⟨a0, n0, cap0, b0, m0, bap0, C0, L0, rfl, hv0, hcp0, hcm0⟩ := open_repoV (hval 0 25 v0 rfl rfl) h0
  have k1 := h1
  have lt1 : ∀ x ∈ p1, x.block < W.heap.size := by obtain ⟨m, hm⟩ := k1; exact DataW.trod_lt m _ _ _ hm
  obtain ⟨x1, a1, m1, cap1, rfl, hrc1, hl1, hm1, ho1, ht1⟩ := open_act (hval 1 28 v1 rfl rfl) h1
  obtain ⟨s2, rfl, rfl, rfl, hs2⟩ := Go.ChangeMaps.open_string Tryz.underlying9 (hval 2 9 v2 rfl rfl) h2
  clear hA0 hval0
  refine (workRight_walk a0 n0 cap0 C0 b0 m0 bap0 L0 x1 a1 m1 cap1 s2 W hv0 hrc1 (by unfold maxLen at hm1; omega) (by unfold maxLen at ho1; omega)).mono fun e W' ⟨he, bel⟩ => ?_
  subst he
  exact ⟨_, rfl, _, _, _, [], _, [], hW', trodAll_mk1 (shut_bool Tryz.underlying4 _), (trodAll_cons_mk (Below.trod laidTry (by kernel_rfl) (of_decide_eq_true (by kernel_rfl)) k0 bel lt0) (trodAll_cons_mk (Below.trod laidTry (by kernel_rfl) (of_decide_eq_true (by kernel_rfl)) k1 bel lt1) (trodAll_cons_mk (Go.ChangeMaps.shut_string Tryz.underlying9 hs2) trodAll_mk0))), rfl, bel.frame _, fun h => by cases h⟩

theorem workRight_holds : Rows.WorkRightSaid :=
  OpenClaim.holds_of_wide 3 Tryz.f3 rfl rfl rfl rfl rfl rfl rfl ⟨rfl, rfl, rfl, rfl, rfl⟩ rfl rfl rfl rfl rfl (by kernel_rfl) Tryz.func3 (by kernel_rfl)
    (of_decide_eq_true (by kernel_rfl)) (by unfold Func.isWrapper; first | (rw [if_pos (by decide +kernel)]; kernel_rfl) | (rw [if_neg (by decide +kernel)]; exact ⟨rfl, rfl⟩))
    (fun os started H enc _ => workRight_lifted os started H enc)
#print axioms workRight_holds
end Go.Proofs.YtcgpgflnihjpiafGreat
