/- From an argument's reading to the tree that it holds, and how many rows its bulk allows. -/
import Derived.Test.YtcgpgflnihjpiacOpenRow
import Derived.Test.YtcgpgflnihjpiacTCheck
namespace Go.Proofs.Ytcgpgflnihjpiac
open Go.ChangeShapes Go.WideShapes Go.ChangeAt Go.RowKit Go.Deep

theorem bulk_all {H : Type} (D : Nat → DataW H) (f : Nat → Nat) (is : List Nat) (h : ∀ i ∈ is, f i ≤ Rows.uptoBulk (D i)) : (is.map f).sum ≤ Rows.uptoBulkAll (is.map D) := by
  induction is with
  | nil => simp [Rows.uptoBulkAll]
  | cons i r ih =>
    have h1 := h i (by simp)
    have h2 := ih fun j hj => h j (by simp [hj])
    simp only [List.map_cons, Rows.uptoBulkAll, List.sum_cons]
    omega
theorem bulk_part {H : Type} (D : Nat → DataW H) (is : List Nat) (i : Nat) (h : i ∈ is) : Rows.uptoBulk (D i) ≤ Rows.uptoBulkAll (is.map D) := by
  induction is with
  | nil => simp at h
  | cons j r ih =>
    simp only [List.map_cons, Rows.uptoBulkAll]
    rcases List.mem_cons.1 h with rfl | h
    · omega
    · have := ih h; omega
theorem bulk_one {H : Type} (d : DataW H) : 1 ≤ Rows.uptoBulk d := by
  cases d with
  | lit l => cases l <;> simp [Rows.uptoBulk]
  | nil => simp [Rows.uptoBulk]
  | ptr d => simp [Rows.uptoBulk]
  | slice elems spare => simp [Rows.uptoBulk]
  | agg parts => simp [Rows.uptoBulk]
  | iface t d => simp [Rows.uptoBulk]
  | map entries => simp [Rows.uptoBulk]
  | held h => simp [Rows.uptoBulk]

section
variable {H : Type} {enc : TypeId × Value → H} {w : World} {base : Nat} {spare : Nat → Bool} {held : Bool}

theorem open_chunk {fuel : Nat} {cs : List Value} {x : DataW H × List MemPlace} (h : DataW.trod enc Try.prog w base spare held fuel 32 cs = some x) :
    ∃ a len cap l, cs = [.slice a len cap] ∧ Sl w a len cap l ∧ len * 3 ≤ Rows.uptoBulk x.1 := by
  rcases open_slice_pairs Try.underlying32 Try.underlying56 (by kernel_rfl) rfl rfl (by kernel_rfl) (by kernel_rfl) h with ⟨rfl, rfl⟩ | ⟨ad, len, cap, m, n, V0, V1, D0, D1, P0, P1, rfl, _, hl, hm, hmm, rfl, hc⟩
  · obtain ⟨l, r1, r2⟩ := open_rows h
    exact ⟨none, 0, 0, l, rfl, ⟨r1, r2⟩, by simp⟩
  · obtain ⟨l, r1, r2⟩ := open_rows h
    refine ⟨some ad, len, cap, l, rfl, ⟨r1, r2⟩, ?_⟩
    have := bulk_all (fun i => DataW.agg [D0 i, D1 i]) (fun _ => 3) (List.range len) (fun i _ => by
      have h1 := bulk_one (D0 i)
      have h2 := bulk_one (D1 i)
      simp only [Rows.uptoBulk, Rows.uptoBulkAll]; omega)
    simp only [Rows.uptoBulk]
    have e : (List.map (fun _ => 3) (List.range len)).sum = len * 3 := by
      rw [List.map_const', List.sum_replicate_nat]; simp
    omega

theorem open_level {fuel : Nat} {cs : List Value} {x : DataW H × List MemPlace} (h : DataW.trod enc Try.prog w base spare held fuel 58 cs = some x) :
    ∃ a len cap L, cs = [.slice a len cap] ∧ LvS w a len cap L ∧ L.flatten.length * 3 ≤ Rows.uptoBulk x.1 := by
  rcases open_slice1 Try.underlying58 (by kernel_rfl) h with ⟨rfl, rfl⟩ | ⟨ad, len, cap, m, n, V, D, Pl, rfl, _, hl, hm, hmm, rfl, hc⟩
  · exact ⟨none, 0, 0, [], rfl, ⟨⟨rfl, Or.inl rfl⟩, Nat.le_refl _, by simp [maxLen], fun _ => ⟨rfl, rfl⟩⟩, by simp⟩
  · have hlm : len ≤ m := by rw [hmm]; split <;> omega
    have each : ∀ i, i < len → ∃ q : (Option Addr × Nat × Nat) × List (Int × Int), w.cell? (ad.add i) = some (.slice q.1.1 q.1.2.1 q.1.2.2) ∧ Sl w q.1.1 q.1.2.1 q.1.2.2 q.2 ∧ q.2.length * 3 ≤ Rows.uptoBulk (D i) := by
      intro i hi
      obtain ⟨c0, t0⟩ := hc i (by omega)
      obtain ⟨a', n', c', l, e, hs, hb⟩ := open_chunk t0
      simp at e
      rw [e] at c0
      exact ⟨((a', n', c'), l), c0, hs, by rw [hs.1.1]; exact hb⟩
    obtain ⟨q, hq⟩ := choose_lt each
    refine ⟨some ad, len, cap, (List.range len).map fun i => (q i).2, rfl, ⟨⟨by simp, ?_⟩, hl, hm, fun h => by simp at h⟩, ?_⟩
    · by_cases h0 : len = 0
      · exact Or.inl h0
      · obtain ⟨b, off, spot⟩ := ad
        have hs : spot = none := by
          have h1 := (hq 0 (by omega)).1
          simpa [Addr.add] using World.cell?_spot h1
        subst hs
        refine Or.inr ⟨b, off, rfl, World.block_lt_of_cell? w _ (hq 0 (by omega)).1, fun i hi => ?_⟩
        have h1 := hq i hi
        rw [Addr.add_lit] at h1
        have e : ((List.range len).map fun i => (q i).2).getD i [] = (q i).2 := by simp [List.getD, hi]
        rw [e]
        exact ⟨_, _, _, h1.1, h1.2.1⟩
    · have := bulk_all D (fun i => (q i).2.length * 3) (List.range len) (fun i hi => (hq i (by simpa using hi)).2.2)
      simp only [Rows.uptoBulk]
      have e : ∀ is : List Nat, (is.map fun i => (q i).2).flatten.length * 3 = (is.map fun i => (q i).2.length * 3).sum := by
        intro is
        induction is with
        | nil => simp
        | cons i r ih => simp only [List.map_cons, List.flatten_cons, List.length_append, List.sum_cons]; omega
      rw [e]
      omega

theorem open_tree {fuel : Nat} {a : Option Addr} {len cap : Nat} {x : DataW H × List MemPlace} (h : DataW.trod enc Try.prog w base spare held fuel 22 [.slice a len cap] = some x) :
    ∃ T, TvS w a len cap T ∧ (flat T).length * 3 ≤ Rows.uptoBulk x.1 := by
  rcases open_slice1 Try.underlying22 (by kernel_rfl) h with ⟨hcs, rfl⟩ | ⟨ad, len', cap', m, n, V, D, Pl, hcs, _, hl, hm, hmm, rfl, hc⟩
  · simp at hcs
    obtain ⟨rfl, rfl, rfl⟩ := hcs
    exact ⟨[], ⟨⟨rfl, Or.inl rfl⟩, Nat.le_refl _, by simp [maxLen], fun _ => ⟨rfl, rfl⟩⟩, by simp [flat, ground]⟩
  · simp at hcs
    obtain ⟨rfl, rfl, rfl⟩ := hcs
    have hlm : len ≤ m := by rw [hmm]; split <;> omega
    have each : ∀ i, i < len → ∃ q : (Option Addr × Nat × Nat) × List (List (Int × Int)), w.cell? (ad.add i) = some (.slice q.1.1 q.1.2.1 q.1.2.2) ∧ LvS w q.1.1 q.1.2.1 q.1.2.2 q.2 ∧ q.2.flatten.length * 3 ≤ Rows.uptoBulk (D i) := by
      intro i hi
      obtain ⟨c0, t0⟩ := hc i (by omega)
      obtain ⟨a', n', c', l, e, hs, hb⟩ := open_level t0
      simp at e
      rw [e] at c0
      exact ⟨((a', n', c'), l), c0, hs, hb⟩
    obtain ⟨q, hq⟩ := choose_lt each
    refine ⟨(List.range len).map fun i => (q i).2, ⟨⟨by simp, ?_⟩, hl, hm, fun h => by simp at h⟩, ?_⟩
    · by_cases h0 : len = 0
      · exact Or.inl h0
      · obtain ⟨b, off, spot⟩ := ad
        have hs : spot = none := by
          have h1 := (hq 0 (by omega)).1
          simpa [Addr.add] using World.cell?_spot h1
        subst hs
        refine Or.inr ⟨b, off, rfl, World.block_lt_of_cell? w _ (hq 0 (by omega)).1, fun i hi => ?_⟩
        have h1 := hq i hi
        rw [Addr.add_lit] at h1
        have e : ((List.range len).map fun i => (q i).2).getD i [] = (q i).2 := by simp [List.getD, hi]
        rw [e]
        exact ⟨_, _, _, h1.1, h1.2.1⟩
    · by_cases h0 : 0 < len
      · have e : flat ((List.range len).map fun i => (q i).2) = (q 0).2.flatten := by
          unfold flat ground
          have : ((List.range len).map fun i => (q i).2).getD 0 [] = (q 0).2 := by simp [List.getD, h0]
          rw [this]
        rw [e]
        have h1 := (hq 0 h0).2.2
        have h2 := bulk_part D (List.range len) 0 (by simpa using h0)
        simp only [Rows.uptoBulk]
        omega
      · obtain rfl : len = 0 := by omega
        simp [flat, ground]
end

theorem big_of {T : List (List (List (Int × Int)))} (h : (flat T).length ≤ 900000) : Big T := by
  intro c hc
  have := (List.sublist_flatten_of_mem hc).length_le
  unfold flat at h
  omega
end Go.Proofs.Ytcgpgflnihjpiac
