/- For every repo and every two names, the law WorkMerges returns true and leaves its arguments as they were: work.Merge answers what the reference answers. No condition. -/
import Derived.Test.YtcgpgflnihjpiaeGreatRows
import Derived.Test.YtcgpgflnihjpiaeGreatBWorkMerges01
import Derived.ProofKit
import Derived.OpenShut
import Derived.ChangeOld
import Derived.Deep.SlicePairs
import Derived.Deep.RegionHeld
import Derived.Lib.SmallJoins
import Derived.ChangeMaps5
import Derived.Test.YtcgpgflnihjpiaeGreatBWorkMerges02
import Derived.Test.YtcgpgflnihjpiaeGreatBWorkMerges09
import Derived.Test.YtcgpgflnihjpiaeGreatBWorkMerges11
import Derived.Test.YtcgpgflnihjpiaeGreatBWorkMerges08
namespace Go.Proofs.YtcgpgflnihjpiaeGreat
open Go.ChangeShapes Go.WideShapes Go.ChangeAt Go.RowKit Go.Deep

theorem ownTry : ownKnob Tryz.prog.godebug = none := by kernel_rfl
theorem laidTry : laidOutB Tryz.prog = true := by kernel_rfl

theorem open_rows {H : Type} {enc : TypeId × Value → H} {w : World} {base : Nat} {spare : Nat → Bool} {held : Bool} {fuel : Nat} {a : Option Addr} {len cap : Nat} {x : DataW H × List MemPlace}
    (h : DataW.trod enc Tryz.prog w base spare held fuel 50 [.slice a len cap] = some x) : ∃ l, Rd w a len l ∧ len ≤ cap ∧ cap ≤ maxLen ∧ (a = none → len = 0 ∧ cap = 0) := by
  rcases open_slice_pairs Tryz.underlying50 Tryz.underlying88 (by kernel_rfl) rfl rfl (by kernel_rfl) (by kernel_rfl) h with ⟨hcs, _⟩ | ⟨ad, len', cap', m, n, V0, V1, D0, D1, P0, P1, hcs, _, hl, hm, hmm, _, hc⟩
  · simp at hcs
    obtain ⟨rfl, rfl, rfl⟩ := hcs
    exact ⟨[], ⟨rfl, Or.inl rfl⟩, Nat.le_refl _, by simp [maxLen], fun _ => ⟨rfl, rfl⟩⟩
  · simp at hcs
    obtain ⟨rfl, rfl, rfl⟩ := hcs
    have hlm : len ≤ m := by rw [hmm]; split <;> omega
    have each : ∀ i, i < len → ∃ q : Int × Int, w.cell? (ad.add (i * 2)) = some (.int .i64 q.1) ∧ w.cell? (ad.add (i * 2 + 1)) = some (.int .i64 q.2) := by
      intro i hi
      obtain ⟨c0, c1, t0, t1⟩ := hc i (by omega)
      obtain ⟨x0, e0, _, _⟩ := DataW.trod_int (k := .i64) Tryz.underlying3 t0
      obtain ⟨x1, e1, _, _⟩ := DataW.trod_int (k := .i64) Tryz.underlying3 t1
      simp at e0 e1
      rw [e0] at c0
      rw [e1] at c1
      exact ⟨(x0, x1), c0, c1⟩
    obtain ⟨q, hq⟩ := choose_lt each
    refine ⟨(List.range len).map q, ⟨by simp, ?_⟩, hl, hm, fun h => by simp at h⟩
    by_cases h0 : len = 0
    · exact Or.inl h0
    · obtain ⟨b, off, spot⟩ := ad
      have hs : spot = none := by
        have h1 := (hq 0 (by omega)).1
        simpa [Addr.add] using World.cell?_spot h1
      subst hs
      refine Or.inr ⟨b, off, rfl, World.block_lt_of_cell? w _ (hq 0 (by omega)).1, fun i hi => ?_⟩
      have h1 := hq i hi
      rw [Addr.add_lit, Addr.add_lit, ← Nat.add_assoc] at h1
      have e : ((List.range len).map q).getD i (0, 0) = q i := by simp [List.getD, hi]
      rw [e]
      exact h1
end Go.Proofs.YtcgpgflnihjpiaeGreat

/- From an argument's reading to the commits that it holds. -/
namespace Go.Proofs.YtcgpgflnihjpiaeGreat
open Go.ChangeShapes Go.WideShapes Go.ChangeAt Go.RowKit Go.Deep

section
variable {H : Type} {enc : TypeId × Value → H} {w : World} {base : Nat} {spare : Nat → Bool} {held : Bool}

theorem open_rowsC {fuel : Nat} {cs : List Value} {x : DataW H × List MemPlace} (h : DataW.trod enc Tryz.prog w base spare held fuel 50 cs = some x) :
    ∃ a len cap l, cs = [.slice a len cap] ∧ Rd w a len l ∧ len ≤ 9223372036854775807 := by
  rcases open_slice_pairs Tryz.underlying50 Tryz.underlying88 (by kernel_rfl) rfl rfl (by kernel_rfl) (by kernel_rfl) h with ⟨rfl, rfl⟩ | ⟨ad, len, cap, m, n, V0, V1, D0, D1, P0, P1, rfl, _, hl, hm, hmm, rfl, hc⟩
  · obtain ⟨l, r1, r2⟩ := open_rows h
    exact ⟨none, 0, 0, l, rfl, r1, by omega⟩
  · obtain ⟨l, r1, r2⟩ := open_rows h
    exact ⟨some ad, len, cap, l, rfl, r1, by unfold maxLen at hm; omega⟩

theorem open_intsC {fuel : Nat} {cs : List Value} {x : DataW H × List MemPlace} (h : DataW.trod enc Tryz.prog w base spare held fuel 36 cs = some x) :
    ∃ a len cap l, cs = [.slice a len cap] ∧ Ri w a len l ∧ len ≤ 9223372036854775807 := by
  rcases open_slice1 Tryz.underlying36 (by kernel_rfl) h with ⟨rfl, rfl⟩ | ⟨ad, len, cap, m, n, V, D, Pl, rfl, _, hl, hm, hmm, rfl, hc⟩
  · exact ⟨none, 0, 0, [], rfl, ⟨rfl, Or.inl rfl⟩, by omega⟩
  · have hlm : len ≤ m := by rw [hmm]; split <;> omega
    have each : ∀ i, i < len → ∃ q : Int, w.cell? (ad.add i) = some (.int .i64 q) := by
      intro i hi
      obtain ⟨c0, t0⟩ := hc i (by omega)
      obtain ⟨x0, e0, _, _⟩ := DataW.trod_int (k := .i64) Tryz.underlying3 t0
      simp at e0
      rw [e0] at c0
      exact ⟨x0, c0⟩
    obtain ⟨q, hq⟩ := choose_lt each
    refine ⟨some ad, len, cap, (List.range len).map q, rfl, ⟨by simp, ?_⟩, by unfold maxLen at hm; omega⟩
    by_cases h0 : len = 0
    · exact Or.inl h0
    · obtain ⟨b, off, spot⟩ := ad
      have hs : spot = none := by
        have h1 := hq 0 (by omega)
        simpa [Addr.add] using World.cell?_spot h1
      subst hs
      refine Or.inr ⟨b, off, rfl, World.block_lt_of_cell? w _ (hq 0 (by omega)), fun i hi => ?_⟩
      have h1 := hq i hi
      rw [Addr.add_lit] at h1
      have e : ((List.range len).map q).getD i 0 = q i := by simp [List.getD, hi]
      rw [e]
      exact h1

theorem open_coms {fuel : Nat} {a : Option Addr} {len cap : Nat} {x : DataW H × List MemPlace} (h : DataW.trod enc Tryz.prog w base spare held fuel 22 [.slice a len cap] = some x) :
    ∃ L, Cm w a len L ∧ len ≤ cap ∧ cap ≤ maxLen := by
  rcases open_slice_pairs Tryz.underlying22 Tryz.underlying59 (by kernel_rfl) rfl rfl (by kernel_rfl) (by kernel_rfl) h with ⟨hcs, _⟩ | ⟨ad, len', cap', m, n, V0, V1, D0, D1, P0, P1, hcs, _, hl, hm, hmm, _, hc⟩
  · simp at hcs
    obtain ⟨rfl, rfl, rfl⟩ := hcs
    exact ⟨[], ⟨rfl, Or.inl rfl⟩, Nat.le_refl _, by simp [maxLen]⟩
  · simp at hcs
    obtain ⟨rfl, rfl, rfl⟩ := hcs
    have hlm : len ≤ m := by rw [hmm]; split <;> omega
    have each : ∀ i, i < len → ∃ q : ((Option Addr × Nat × Nat) × (Option Addr × Nat × Nat)) × M.Com, w.cell? (ad.add (i * 2)) = some (.slice q.1.1.1 q.1.1.2.1 q.1.1.2.2) ∧ w.cell? (ad.add (i * 2 + 1)) = some (.slice q.1.2.1 q.1.2.2.1 q.1.2.2.2) ∧ Rd w q.1.1.1 q.1.1.2.1 q.2.1 ∧ Ri w q.1.2.1 q.1.2.2.1 q.2.2 ∧ q.1.1.2.1 ≤ 9223372036854775807 ∧ q.1.2.2.1 ≤ 9223372036854775807 := by
      intro i hi
      obtain ⟨c0, c1, t0, t1⟩ := hc i (by omega)
      obtain ⟨a1, n1, k1, l1, e0, r1, m1⟩ := open_rowsC t0
      obtain ⟨a2, n2, k2, l2, e1, r2, m2⟩ := open_intsC t1
      simp at e0 e1
      rw [e0] at c0
      rw [e1] at c1
      exact ⟨(((a1, n1, k1), (a2, n2, k2)), (l1, l2)), c0, c1, r1, r2, m1, m2⟩
    obtain ⟨q, hq⟩ := choose_lt each
    refine ⟨(List.range len).map fun i => (q i).2, ⟨by simp, ?_⟩, hl, hm⟩
    by_cases h0 : len = 0
    · exact Or.inl h0
    · obtain ⟨b, off, spot⟩ := ad
      have hs : spot = none := by
        have h1 := (hq 0 (by omega)).1
        simpa [Addr.add] using World.cell?_spot h1
      subst hs
      refine Or.inr ⟨b, off, rfl, World.block_lt_of_cell? w _ (hq 0 (by omega)).1, fun i hi => ?_⟩
      have h1 := hq i hi
      rw [Addr.add_lit, Addr.add_lit, ← Nat.add_assoc] at h1
      have e : ((List.range len).map fun i => (q i).2).getD i ([], []) = (q i).2 := by simp [List.getD, hi]
      rw [e]
      exact ⟨_, _, _, _, _, _, h1⟩
end
end Go.Proofs.YtcgpgflnihjpiaeGreat

/- From an argument's reading to the repo that it holds. -/
namespace Go.Proofs.YtcgpgflnihjpiaeGreat
open Go.ChangeShapes Go.WideShapes Go.ChangeAt Go.RowKit Go.Deep

section
variable {H : Type} {enc : TypeId × Value → H} {w : World} {base : Nat} {spare : Nat → Bool} {held : Bool}

theorem open_comsC {fuel : Nat} {v : Value} {x : DataW H × List MemPlace} (h : DataW.trod enc Tryz.prog w base spare held fuel 22 [v] = some x) :
    ∃ a len cap L, v = .slice a len cap ∧ Cm w a len L ∧ len ≤ cap ∧ cap ≤ maxLen := by
  rcases open_slice_pairs Tryz.underlying22 Tryz.underlying59 (by kernel_rfl) rfl rfl (by kernel_rfl) (by kernel_rfl) h with ⟨hcs, _⟩ | ⟨ad, len', cap', m, n, V0, V1, D0, D1, P0, P1, hcs, _⟩
  · simp at hcs
    subst hcs
    obtain ⟨L, r⟩ := open_coms h
    exact ⟨none, 0, 0, L, rfl, r⟩
  · simp at hcs
    subst hcs
    obtain ⟨L, r⟩ := open_coms h
    exact ⟨some ad, len', cap', L, rfl, r⟩

theorem open_headsC {fuel : Nat} {v : Value} {x : DataW H × List MemPlace} (h : DataW.trod enc Tryz.prog w base spare held fuel 23 [v] = some x) :
    ∃ a len cap L, v = .slice a len cap ∧ Hs w a len L ∧ len ≤ cap ∧ cap ≤ maxLen ∧ (a = none → len = 0 ∧ cap = 0) := by
  rcases open_slice_pairs Tryz.underlying23 Tryz.underlying66 (by kernel_rfl) rfl rfl (by kernel_rfl) (by kernel_rfl) h with ⟨hcs, _⟩ | ⟨ad, len, cap, m, n, V0, V1, D0, D1, P0, P1, hcs, _, hl, hm, hmm, _, hc⟩
  · simp at hcs
    subst hcs
    exact ⟨none, 0, 0, [], rfl, ⟨rfl, Or.inl rfl⟩, Nat.le_refl _, by simp [maxLen], fun _ => ⟨rfl, rfl⟩⟩
  · simp at hcs
    subst hcs
    have hlm : len ≤ m := by rw [hmm]; split <;> omega
    have each : ∀ i, i < len → ∃ q : M.Hd, w.cell? (ad.add (i * 2)) = some (.string q.1) ∧ w.cell? (ad.add (i * 2 + 1)) = some (.int .i64 q.2) ∧ q.1.size ≤ 9223372036854775807 := by
      intro i hi
      obtain ⟨c0, c1, t0, t1⟩ := hc i (by omega)
      obtain ⟨s0, e0, _, z0⟩ := DataW.trod_string Tryz.underlying9 t0
      obtain ⟨x1, e1, _, _⟩ := DataW.trod_int (k := .i64) Tryz.underlying3 t1
      simp at e0 e1
      rw [e0] at c0
      rw [e1] at c1
      exact ⟨(s0, x1), c0, c1, by unfold maxLen at z0; exact z0⟩
    obtain ⟨q, hq⟩ := choose_lt each
    refine ⟨some ad, len, cap, (List.range len).map q, rfl, ⟨by simp, ?_⟩, hl, hm, fun h => by simp at h⟩
    by_cases h0 : len = 0
    · exact Or.inl h0
    · obtain ⟨b, off, spot⟩ := ad
      have hs : spot = none := by
        have h1 := (hq 0 (by omega)).1
        simpa [Addr.add] using World.cell?_spot h1
      subst hs
      refine Or.inr ⟨b, off, rfl, World.block_lt_of_cell? w _ (hq 0 (by omega)).1, fun i hi => ?_⟩
      have h1 := hq i hi
      rw [Addr.add_lit, Addr.add_lit, ← Nat.add_assoc] at h1
      have e : ((List.range len).map q).getD i M.hd0 = q i := by simp [List.getD, hi]
      rw [e]
      exact h1

set_option maxRecDepth 100000 in
theorem open_repo {r : Reach} {b0 : Nat} {v : Value} {d : DataW H} {p : List MemPlace} (hv : Value.okWide Tryz.prog w r b0 25 v) (h : DataW.Trod enc Tryz.prog w base spare held 25 v d p) :
    ∃ a n cap a2 n2 cap2 C L, v = .agg #[.slice a n cap, .slice a2 n2 cap2] ∧ Cm w a n C ∧ n ≤ 9223372036854775807 ∧ Hs w a2 n2 L ∧ n2 ≤ 9223372036854775807 := by
  obtain ⟨v0, v1, y0, y1, m, rfl, _, _, h0, h1⟩ := Joins.open_agg2 Tryz.underlying25 (by kernel_rfl) (by kernel_rfl) hv h
  obtain ⟨a, n, cap, C, rfl, c1, c2, c3⟩ := open_comsC h0
  obtain ⟨a2, n2, cap2, L, rfl, l1, l2, l3, _⟩ := open_headsC h1
  exact ⟨a, n, cap, a2, n2, cap2, C, L, rfl, c1, by unfold maxLen at c3; omega, l1, by unfold maxLen at l3; omega⟩
end
end Go.Proofs.YtcgpgflnihjpiaeGreat

/- From an argument's reading to the repo that it holds, its nil slices too. -/
namespace Go.Proofs.YtcgpgflnihjpiaeGreat
open Go.ChangeShapes Go.WideShapes Go.ChangeAt Go.RowKit Go.Deep

section
variable {H : Type} {enc : TypeId × Value → H} {w : World} {base : Nat} {spare : Nat → Bool} {held : Bool}

theorem open_rowsN {fuel : Nat} {cs : List Value} {x : DataW H × List MemPlace} (h : DataW.trod enc Tryz.prog w base spare held fuel 50 cs = some x) :
    ∃ a len cap, cs = [.slice a len cap] ∧ (a = none → len = 0 ∧ cap = 0) := by
  rcases open_slice_pairs Tryz.underlying50 Tryz.underlying88 (by kernel_rfl) rfl rfl (by kernel_rfl) (by kernel_rfl) h with ⟨rfl, rfl⟩ | ⟨ad, len, cap, m, n, V0, V1, D0, D1, P0, P1, rfl, _⟩
  · exact ⟨none, 0, 0, rfl, fun _ => ⟨rfl, rfl⟩⟩
  · exact ⟨some ad, len, cap, rfl, fun h => by simp at h⟩
theorem open_intsN {fuel : Nat} {cs : List Value} {x : DataW H × List MemPlace} (h : DataW.trod enc Tryz.prog w base spare held fuel 36 cs = some x) :
    ∃ a len cap, cs = [.slice a len cap] ∧ (a = none → len = 0 ∧ cap = 0) := by
  rcases open_slice1 Tryz.underlying36 (by kernel_rfl) h with ⟨rfl, rfl⟩ | ⟨ad, len, cap, m, n, V, D, Pl, rfl, _⟩
  · exact ⟨none, 0, 0, rfl, fun _ => ⟨rfl, rfl⟩⟩
  · exact ⟨some ad, len, cap, rfl, fun h => by simp at h⟩
theorem open_cn {fuel : Nat} {a : Option Addr} {len cap : Nat} {x : DataW H × List MemPlace} (h : DataW.trod enc Tryz.prog w base spare held fuel 22 [.slice a len cap] = some x) : Cn w a len := by
  rcases open_slice_pairs Tryz.underlying22 Tryz.underlying59 (by kernel_rfl) rfl rfl (by kernel_rfl) (by kernel_rfl) h with ⟨hcs, _⟩ | ⟨ad, len', cap', m, n, V0, V1, D0, D1, P0, P1, hcs, _, hl, hm, hmm, _, hc⟩
  · simp at hcs
    obtain ⟨rfl, rfl, rfl⟩ := hcs
    intro b off e
    simp at e
  · simp at hcs
    obtain ⟨rfl, rfl, rfl⟩ := hcs
    have hlm : len ≤ m := by rw [hmm]; split <;> omega
    intro b off e i hi y k c hor hy
    obtain rfl : ad = ⟨b, off, none⟩ := by simpa using e
    obtain ⟨c0, c1, t0, t1⟩ := hc i (by omega)
    obtain ⟨a1, n1, k1, e0, z0⟩ := open_rowsN t0
    obtain ⟨a2, n2, k2, e1, z1⟩ := open_intsN t1
    simp at e0 e1
    rw [e0, Addr.add_lit] at c0
    rw [e1, Addr.add_lit, ← Nat.add_assoc] at c1
    rcases hor with hcc | hcc
    · rw [hcc] at c0
      simp at c0
      obtain ⟨rfl, rfl, rfl⟩ := c0
      exact z0 hy
    · rw [hcc] at c1
      simp at c1
      obtain ⟨rfl, rfl, rfl⟩ := c1
      exact z1 hy
set_option maxRecDepth 100000 in
theorem open_repoV {r : Reach} {b0 : Nat} {v : Value} {d : DataW H} {p : List MemPlace} (hv : Value.okWide Tryz.prog w r b0 25 v) (h : DataW.Trod enc Tryz.prog w base spare held 25 v d p) :
    ∃ a n cap a2 n2 cap2 C L, v = .agg #[.slice a n cap, .slice a2 n2 cap2] ∧ RepoV w a n cap C a2 n2 cap2 L ∧ n2 ≤ cap2 ∧ cap2 ≤ maxLen := by
  obtain ⟨v0, v1, y0, y1, m, rfl, _, _, h0, h1⟩ := Joins.open_agg2 Tryz.underlying25 (by kernel_rfl) (by kernel_rfl) hv h
  obtain ⟨a, n, cap, C, rfl, c1, c2, c3⟩ := open_comsC h0
  obtain ⟨a2, n2, cap2, L, rfl, l1, l2, l3, l4⟩ := open_headsC h1
  exact ⟨a, n, cap, a2, n2, cap2, C, L, rfl, ⟨c1, open_cn h0, by unfold maxLen at c3; omega, l1, by unfold maxLen at l3; omega, l4⟩, l2, l3⟩
end
end Go.Proofs.YtcgpgflnihjpiaeGreat

/- For every repo and every two names, the law WorkMerges returns true and leaves its arguments as they were: work.Merge answers what the reference answers. No condition. -/
namespace Go.Proofs.YtcgpgflnihjpiaeGreat
open Go.ChangeShapes Go.WideShapes Go.ChangeAt Go.RowKit

set_option maxRecDepth 100000 in
set_option maxHeartbeats 16000000 in
theorem workMerges_walk (a : Option Addr) (n cap : Nat) (C : List M.Com) (a2 : Option Addr) (n2 cap2 : Nat) (H : List M.Hd) (s t : ByteArray) (w : World) (hV : RepoV w a n cap C a2 n2 cap2 H) :
    Calls Tryz.prog 5 #[.agg #[.slice a n cap, .slice a2 n2 cap2], .string s, .string t] w fun e w' => e = .returned (.bool true) ∧ Below w.heap.size w w' := by
  obtain ⟨p, hp⟩ : ∃ p, p = w.heap.size := ⟨_, rfl⟩
  obtain ⟨W, hW⟩ : ∃ W, W = w.alloc (.cells #[.slice a n cap, .slice a2 n2 cap2] 25) := ⟨_, rfl⟩
  have hb : Below w.heap.size w W := by rw [hW]; exact (Below.refl _ _).alloc (Nat.le_refl _) _
  have HB : Hid (KBox W p a n cap C a2 n2 cap2 H) := by rw [hW, hp]; exact KBox.new hV
  have HW : Hid (W = w.alloc (.cells #[.slice a n cap, .slice a2 n2 cap2] 25)) := hW
  have HP : Aside (p = w.heap.size) := hp
  obtain ⟨E, hE⟩ : ∃ E, E = M.joinE C H s t := ⟨_, rfl⟩
  have F1 : Hid (∀ V, Below W.heap.size W V → Calls Tryz.prog 14 #[.agg #[.slice a n cap, .slice a2 n2 cap2], .string s, .string t] V fun e w' => ∃ v kb kn kc, e = .returned (.tuple #[v, .slice kb kn kc, .int .i64 E]) ∧ RepoOwn w' V.heap.size v (M.joinC C H s t) (M.joinH C H s t) ∧ Ri w' kb kn (M.joinK C H s t) ∧ kn ≤ kc ∧ kc ≤ maxLen ∧ Below V.heap.size V w') := fun V hB => by rw [hE]; exact wmerge_any a n cap C a2 n2 cap2 H s t V (HB.out.v.later hB)
  have F2 : Hid (∀ V, Below W.heap.size W V → Calls Tryz.prog 15 #[.agg #[.slice a n cap, .slice a2 n2 cap2], .string s, .string t] V fun e w' => ∃ v kb kn kc, e = .returned (.tuple #[v, .slice kb kn kc, .int .i64 E]) ∧ RepoOwn w' V.heap.size v (M.joinC C H s t) (M.joinH C H s t) ∧ Ri w' kb kn (M.joinK C H s t) ∧ kn ≤ kc ∧ kc ≤ maxLen ∧ Below V.heap.size V w') := fun V hB => by rw [hE]; exact joinOf_any a n cap C a2 n2 cap2 H s t V (HB.out.v.later hB)
  have b0 : Below W.heap.size W W := Below.refl _ _
  have c0 := HB.out.c0
  have c1 := HB.out.c1
  clear hW hp hV hE
  go_enter Tryz.func5, Tryz.ntmps5
  go_wp2_with fail
  rw [← HW.out, ← HP.out]
  refine (F1.out _ b0).mono ?_
  rintro e v1 ⟨r1, kb1, kn1, kc1, rfl, o1, ki1, kl1, km1, bb1⟩
  obtain ⟨xa1, xc1, ya1, yc1, rfl, V1⟩ := o1.v
  obtain ⟨ln1, hln1⟩ : ∃ ln, ln = (M.joinC C H s t).length := ⟨_, rfl⟩
  obtain ⟨lh1, hlh1⟩ : ∃ lh, lh = (M.joinH C H s t).length := ⟨_, rfl⟩
  rw [← hln1, ← hlh1] at V1 ⊢
  obtain ⟨X1, hX1⟩ : ∃ X, X = v1.alloc (.cells #[.slice xa1 ln1 xc1, .slice ya1 lh1 yc1] 25) := ⟨_, rfl⟩
  obtain ⟨p1, hp1⟩ : ∃ p, p = v1.heap.size := ⟨_, rfl⟩
  have bX1 : Below v1.heap.size v1 X1 := by rw [hX1]; exact (Below.refl _ _).alloc (Nat.le_refl _) _
  have HB1 : Hid (KBox X1 p1 xa1 ln1 xc1 (M.joinC C H s t) ya1 lh1 yc1 (M.joinH C H s t)) := by rw [hX1, hp1]; exact KBox.new V1
  have HX1 : Hid (X1 = v1.alloc (.cells #[.slice xa1 ln1 xc1, .slice ya1 lh1 yc1] 25)) := hX1
  have HP1 : Aside (p1 = v1.heap.size) := hp1
  have q1 : Below W.heap.size W X1 := dbelow2 bb1 bX1
  have b1 : Below W.heap.size W X1 := dbelow2 b0 q1
  have HK1 : Hid (Ri X1 kb1 kn1 (M.joinK C H s t)) := ki1.below bX1 (Nat.le_refl _)
  have dq0 := (HB.out.later b1).c0
  have dq1 := (HB.out.later b1).c1
  rw [hX1] at dq0 dq1
  have HLn1 : Aside (ln1 = (M.joinC C H s t).length) := hln1
  have HLh1 : Aside (lh1 = (M.joinH C H s t).length) := hlh1
  clear hln1 hlh1
  clear c0 c1 o1 V1 hX1 hp1 bX1 bb1 q1 ki1
  have c0 := dq0
  have c1 := dq1
  clear dq0 dq1
  go_wp2_with fail
  rw [← HX1.out, ← HP1.out]
  clear c0 c1
  have c0 := (HB.out.later b1).c0
  have c1 := (HB.out.later b1).c1
  refine (F2.out _ b1).mono ?_
  rintro e v2 ⟨r2, kb2, kn2, kc2, rfl, o2, ki2, kl2, km2, bb2⟩
  obtain ⟨xa2, xc2, ya2, yc2, rfl, V2⟩ := o2.v
  obtain ⟨ln2, hln2⟩ : ∃ ln, ln = (M.joinC C H s t).length := ⟨_, rfl⟩
  obtain ⟨lh2, hlh2⟩ : ∃ lh, lh = (M.joinH C H s t).length := ⟨_, rfl⟩
  rw [← hln2, ← hlh2] at V2 ⊢
  obtain ⟨X2, hX2⟩ : ∃ X, X = v2.alloc (.cells #[.slice xa2 ln2 xc2, .slice ya2 lh2 yc2] 25) := ⟨_, rfl⟩
  obtain ⟨p2, hp2⟩ : ∃ p, p = v2.heap.size := ⟨_, rfl⟩
  have bX2 : Below v2.heap.size v2 X2 := by rw [hX2]; exact (Below.refl _ _).alloc (Nat.le_refl _) _
  have HB2 : Hid (KBox X2 p2 xa2 ln2 xc2 (M.joinC C H s t) ya2 lh2 yc2 (M.joinH C H s t)) := by rw [hX2, hp2]; exact KBox.new V2
  have HX2 : Hid (X2 = v2.alloc (.cells #[.slice xa2 ln2 xc2, .slice ya2 lh2 yc2] 25)) := hX2
  have HP2 : Aside (p2 = v2.heap.size) := hp2
  have q2 : Below X1.heap.size X1 X2 := dbelow2 bb2 bX2
  have b2 : Below W.heap.size W X2 := dbelow2 b1 q2
  have HK2 : Hid (Ri X2 kb2 kn2 (M.joinK C H s t)) := ki2.below bX2 (Nat.le_refl _)
  have HB1 := HB1.out.later q2
  have HB1 : Hid (KBox X2 p1 _ _ _ _ _ _ _ _) := HB1
  have HK1 : Hid (Ri X2 kb1 kn1 _) := HK1.out.below q2 (Nat.le_refl _)
  have dq0 := (HB.out.later b2).c0
  have dq1 := (HB.out.later b2).c1
  rw [hX2] at dq0 dq1
  have HLn2 : Aside (ln2 = (M.joinC C H s t).length) := hln2
  have HLh2 : Aside (lh2 = (M.joinH C H s t).length) := hlh2
  clear hln2 hlh2
  clear c0 c1 o2 V2 hX2 hp2 bX2 bb2 q2 ki2
  have c0 := dq0
  have c1 := dq1
  clear dq0 dq1
  go_wp2_with fail
  rw [← HX2.out, ← HP2.out]
  clear c0 c1
  have c0 := (HB.out.later b2).c0
  have c1 := (HB.out.later b2).c1
  obtain rfl : ln1 = ln2 := HLn1.out.trans HLn2.out.symm
  obtain rfl : lh1 = lh2 := HLh1.out.trans HLh2.out.symm
  obtain rfl : kn1 = kn2 := by rw [← HK1.out.1, ← HK2.out.1]
  refine (wbegun_any _).mono ?_
  rintro e Y1 ⟨rfl, y1⟩
  have z1 := HB1.out.later y1
  have z2 := HB2.out.later y1
  have g0 := z1.c0
  have g1 := z1.c1
  have h0 := z2.c0
  have h1 := z2.c1
  have HK1 : Hid (Ri Y1 kb1 kn1 (M.joinK C H s t)) := HK1.out.below y1 (Nat.le_refl _)
  have HK2 : Hid (Ri Y1 kb2 kn1 (M.joinK C H s t)) := HK2.out.below y1 (Nat.le_refl _)
  have KS : Hid (Calls Tryz.prog 9 #[.agg #[.slice xa1 ln1 xc1, .slice ya1 lh1 yc1], .agg #[.slice xa2 ln1 xc2, .slice ya2 lh1 yc2]] Y1 fun e w' => e = .returned (.bool true) ∧ Below Y1.heap.size Y1 w') := srepos_yes xa1 xa2 ln1 xc1 xc2 _ ya1 ya2 lh1 yc1 yc2 _ Y1 z1.v.cm z2.v.cm z1.v.nm z1.v.hs z2.v.hs z1.v.hm
  have bY := dbelow2 b2 y1
  clear z1 z2 c0 c1 y1
  go_wp2_with fail
  refine KS.out.mono ?_
  rintro e Y2 ⟨rfl, y2⟩
  have KI : Hid (Calls Tryz.prog 16 #[.slice kb1 kn1 kc1, .slice kb2 kn1 kc2] Y2 fun e w' => e = .returned (.bool true) ∧ ∃ m, w' = Y2.drewN m) := isame_yes kb1 kb2 kn1 kc1 kc2 _ Y2 (HK1.out.below y2 (Nat.le_refl _)) (HK2.out.below y2 (Nat.le_refl _)) (by unfold maxLen at km1; omega)
  have bY2 := dbelow2 bY y2
  clear g0 g1 h0 h1 KS y2 bY
  go_wp2_with fail
  refine KI.out.mono ?_
  rintro e Y3 ⟨rfl, m3, hY3⟩
  have y3 : Below Y2.heap.size Y2 Y3 := by rw [hY3]; exact drewN_below Y2 m3
  have bZ : Below w.heap.size w Y3 := hb.trans ((dbelow2 bY2 y3).mono hb.size)
  clear KI y3 hY3 bY2
  go_wp2
  go_ret
  exact ⟨rfl, bZ⟩
set_option maxRecDepth 100000 in
theorem workMerges_lifted (os : Os) (started : os.Started) (H : Type) (enc : TypeId × Value → H) :
    ReturnsInHanded {} Tryz.checked os 5 .any (Rows.workMergesSpec.pre6 enc Tryz.prog Tryz.f5 Rows.workMergesRow.domain false) (Rows.workMergesSpec.post enc Tryz.prog Tryz.f5 false true false false) := by
  refine returnsInHanded_of_change (C := Tryz.checked) ownTry started (by kernel_rfl) Tryz.func5
    (ChangeSpec.witness6 (enc := enc) (C := Tryz.checked) false ⟨#[], #[.agg #[.slice none 0 0, .slice none 0 0], .string ⟨#[]⟩, .string ⟨#[]⟩], []⟩ 8 (by kernel_rfl) (by kernel_rfl) (by kernel_rfl) (by kernel_rfl)) ?_
  intro W base args ds gs before hval0 hW hcnd _
  have hval : ∀ (j : Nat) t v, Tryz.f5.params[j]? = some t → args[j]? = some v → Value.okWide Tryz.prog W .any base t v := hval0
  have hW' := hW
  obtain ⟨p, q, hA0, hV, rfl, hfz, hnd⟩ := hW
  have hA : DataW.TrodAll enc Tryz.prog W 0 (fun _ => true) true Tryz.f5.params.toList args.toList ds p := hA0
  rw [Tryz.params5] at hA hval
  obtain ⟨v0, vs0, d0, ds0, p0, q0, hargs, rfl, rfl, h0, r0⟩ := trodAll_cons hA
  obtain ⟨v1, vs1, d1, ds1, p1, q1, rfl, rfl, rfl, h1, r1⟩ := trodAll_cons r0
  obtain ⟨v2, vs2, d2, ds2, p2, q2, rfl, rfl, rfl, h2, r2⟩ := trodAll_cons r1
  obtain ⟨rfl, rfl, rfl⟩ := trodAll_nil r2
  obtain rfl : args = #[v0, v1, v2] := by cases args; simp_all
  obtain ⟨rfl, rfl⟩ := trodVars_none hV
  have k0 := h0
  have lt0 : ∀ x ∈ p0, x.block < W.heap.size := by obtain ⟨m, hm⟩ := k0; exact DataW.trod_lt m _ _ _ hm
  obtain ⟨a0, n0, cap0, b0, m0, bap0, C0, L0, rfl, hv0, hcp0, hcm0⟩ := open_repoV (hval 0 25 v0 rfl rfl) h0
  obtain ⟨s1, rfl, rfl, rfl, hs1⟩ := Go.ChangeMaps.open_string Tryz.underlying9 (hval 1 9 v1 rfl rfl) h1
  obtain ⟨s2, rfl, rfl, rfl, hs2⟩ := Go.ChangeMaps.open_string Tryz.underlying9 (hval 2 9 v2 rfl rfl) h2
  clear hA0 hval0
  refine (workMerges_walk a0 n0 cap0 C0 b0 m0 bap0 L0 s1 s2 W hv0).mono fun e W' ⟨he, bel⟩ => ?_
  subst he
  exact ⟨_, rfl, _, _, _, [], _, [], hW', trodAll_mk1 (shut_bool Tryz.underlying4 _), (trodAll_cons_mk (Below.trod laidTry (by kernel_rfl) (of_decide_eq_true (by kernel_rfl)) k0 bel lt0) (trodAll_cons_mk (Go.ChangeMaps.shut_string Tryz.underlying9 hs1) (trodAll_cons_mk (Go.ChangeMaps.shut_string Tryz.underlying9 hs2) trodAll_mk0))), rfl, bel.frame _, fun h => by cases h⟩

theorem workMerges_holds : Rows.WorkMergesSaid :=
  OpenClaim.holds_of_wide 5 Tryz.f5 rfl rfl rfl rfl rfl rfl rfl ⟨rfl, rfl, rfl, rfl, rfl⟩ rfl rfl rfl rfl rfl (by kernel_rfl) Tryz.func5 (by kernel_rfl)
    (of_decide_eq_true (by kernel_rfl)) (by unfold Func.isWrapper; first | (rw [if_pos (by decide +kernel)]; kernel_rfl) | (rw [if_neg (by decide +kernel)]; exact ⟨rfl, rfl⟩))
    (fun os started H enc _ => workMerges_lifted os started H enc)
#print axioms workMerges_holds
end Go.Proofs.YtcgpgflnihjpiaeGreat
