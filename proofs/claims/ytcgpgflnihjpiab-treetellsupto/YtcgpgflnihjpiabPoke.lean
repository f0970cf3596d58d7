/- A tree of the call's own, one cell of it written. -/
import Derived.Test.YtcgpgflnihjpiabTRoot
import Derived.RangeFuncBox
namespace Go.Proofs.Ytcgpgflnihjpiab
open Go.RowKit

theorem ownsRow_block {W : World} {base n : Nat} {e : TypeId} {size : Nat} {v : Value} {xs : List Value} (h : W.ownsRow base e size v n xs) (hn : 0 < n) : ∃ g cap cur, v = .slice (some ⟨g, 0, none⟩) n cap ∧ base ≤ g ∧ W.heap[g]? = some (.cells cur e (0, 0)) ∧ g < W.heap.size ∧ n ≤ cap ∧ cap ≤ maxLen := by
  rcases h.2 with ⟨_, h0⟩ | ⟨g, cap, cur, hv, hb, hg, hc, hm, _⟩
  · omega
  · exact ⟨g, cap, cur, hv, hb, hg, (Array.getElem?_eq_some_iff.1 hg).1, hc, hm⟩
theorem grown_set (W : World) (p : Addr) (v : Value) : W.grownBy (W.setCell p v) (some p.block) :=
  ⟨rfl, rfl, rfl, (KeepsWalks.setCell W _ v).size, fun k _ hk => Below.heap_setCell _ _ _ k (fun e => hk (by rw [e]))⟩

theorem own_first {W : World} {m p cap : Nat} {r : Int × Int} {t : List (Int × Int)} (h : Own W m (.slice (some ⟨p, 0, none⟩) (r :: t).length cap) (r :: t)) : W.cell? ⟨p, 0, none⟩ = some (.int .i64 r.1) ∧ W.cell? ⟨p, 1, none⟩ = some (.int .i64 r.2) := by
  have e1 := World.ownsRow.cellAt h 0 (by simp)
  have e2 := World.ownsRow.cellAt h 1 (by simp; omega)
  exact ⟨e1.trans (by simp [enc]), e2.trans (by simp [enc])⟩

section
variable {W : World} {m p : Nat} {r0 : Int × Int} {cur : Array Value} (hp : W.heap[p]? = some (.cells cur 43 (0, 0))) (hc : W.cell? ⟨p, 0, none⟩ = some (.int .i64 r0.1)) (x : Value)
include hp hc

theorem poke_chunk {u : Value} {c : List (Int × Int)} (h : Own W m u c) (hd : ∀ r t, c = r :: t → r.1 ≠ r0.1) : ∃ a n c', u = .slice a n c' ∧ Sl (W.setCell ⟨p, 1, none⟩ x) a n c' c := by
  cases c with
  | nil =>
    obtain ⟨a, cap, rfl, hs⟩ := Own.sl h
    exact ⟨a, _, cap, rfl, Rd.zero rfl rfl, hs.2⟩
  | cons r t =>
    obtain ⟨g, cap, cur', rfl, _⟩ := ownsRow_block h (by simp)
    have hne : g ≠ p := by
      rintro rfl
      have := (own_first h).1
      rw [hc] at this
      exact hd r t rfl (by simpa using this.symm)
    have h' : Own (W.setCell ⟨p, 1, none⟩ x) m (.slice (some ⟨g, 0, none⟩) (r :: t).length cap) (r :: t) := World.ownsRow.kept h (grown_set W ⟨p, 1, none⟩ x) (.inr (by simp [Value.ownBlock, hne]))
    obtain ⟨a, cap', e, hs⟩ := Own.sl h'
    exact ⟨a, _, cap', e, hs⟩

omit hc in
theorem poke_row {e : TypeId} {size n : Nat} {v : Value} {xs : List Value} (h : W.ownsRow m e size v n xs) (he : e ≠ 43) : (W.setCell ⟨p, 1, none⟩ x).ownsRow m e size v n xs :=
  ownsRow_other h (grown_set W ⟨p, 1, none⟩ x) fun r e' cur' hh => by
    cases e'
    rw [show W.heap[p]? = _ from hp] at hh
    simp at hh
    exact he hh.2.symm

omit hp hc in
/-- Slices side by side in a row of the call's own. -/
theorem lv_of {W' : World} {v : Value} {L : List (List (Int × Int))} {vals : List Value} (h1 : W'.ownsRow m 22 1 v L.length vals) (h2 : ∀ i u, vals[i]? = some u → ∃ a n c', u = .slice a n c' ∧ Sl W' a n c' (L.getD i [])) : ∃ a n c, v = .slice a n c ∧ LvS W' a n c L := by
  have h0 := h1
  obtain ⟨h1, h3⟩ := h1
  rcases h3 with ⟨rfl, hn⟩ | ⟨g, cap, cur, rfl, hb, hh, hc, hm, hs, hx⟩
  · exact ⟨none, 0, 0, rfl, ⟨hn, Or.inl rfl⟩, Nat.le_refl _, by simp [maxLen], fun _ => ⟨rfl, rfl⟩⟩
  · refine ⟨_, _, cap, rfl, ⟨rfl, Or.inr ⟨g, 0, rfl, (Array.getElem?_eq_some_iff.1 hh).1, fun i hi => ?_⟩⟩, hc, hm, fun h => by simp at h⟩
    have hil : i < vals.length := by omega
    obtain ⟨u, hu⟩ : ∃ u, vals[i]? = some u := ⟨_, List.getElem?_eq_getElem hil⟩
    obtain ⟨a', n', c', rfl, r⟩ := h2 i u hu
    exact ⟨a', n', c', by rw [World.ownsRow.cellAt h0 (0 + i) (by omega), Nat.zero_add]; exact hu, r⟩

theorem poke_level {u : Value} {L : List (List (Int × Int))} (h : OwnLL W m u L) (hd : ∀ c ∈ L, ∀ r t, c = r :: t → r.1 ≠ r0.1) : ∃ a n c, u = .slice a n c ∧ LvS (W.setCell ⟨p, 1, none⟩ x) a n c L := by
  obtain ⟨vals, h1, h2⟩ := h
  refine lv_of (poke_row hp x h1 (by decide)) fun i u hu => ?_
  by_cases hi : i < L.length
  · exact poke_chunk hp hc x (h2 i u hu) (hd _ (getD_memT L [] i hi))
  · exact poke_chunk hp hc x (h2 i u hu) (by rw [show L.getD i [] = [] by simp [List.getD, Nat.le_of_not_lt hi]]; intro r t e; cases e)
end

theorem OwnT.poke {W : World} {m : Nat} {v : Value} {r0 : Int × Int} {rest : List (Int × Int)} {L0 : List (List (Int × Int))} {T0 : List (List (List (Int × Int)))} (h : OwnT W m v (((r0 :: rest) :: L0) :: T0))
    (hd0 : ∀ c ∈ L0, ∀ r t, c = r :: t → r.1 ≠ r0.1) (hd1 : ∀ L ∈ T0, ∀ c ∈ L, ∀ r t, c = r :: t → r.1 ≠ r0.1) :
    ∃ b0 c0 b1 c1 p c2, v = .slice (some ⟨b0, 0, none⟩) (T0.length + 1) c0 ∧ W.cell? ⟨b0, 0, none⟩ = some (.slice (some ⟨b1, 0, none⟩) (L0.length + 1) c1) ∧ W.cell? ⟨b1, 0, none⟩ = some (.slice (some ⟨p, 0, none⟩) (rest.length + 1) c2) ∧
      W.cell? ⟨p, 1, none⟩ = some (.int .i64 r0.2) ∧ W.frozen? ⟨p, 1, none⟩ = false ∧ m ≤ p ∧ TvS (W.setCell ⟨p, 1, none⟩ (.int .i64 9)) (some ⟨b0, 0, none⟩) (T0.length + 1) c0 ((((r0.1, 9) :: rest) :: L0) :: T0) := by
  obtain ⟨vals, h1, h2⟩ := h
  obtain ⟨b0, c0, cur0, rfl, hb0, hh0, hl0, hc0, hm0⟩ := ownsRow_block h1 (by simp)
  have hvl : vals.length = T0.length + 1 := by have := h1.1; simpa using this
  obtain ⟨u0, hu0⟩ : ∃ u, vals[0]? = some u := ⟨_, List.getElem?_eq_getElem (by omega)⟩
  have k0 : OwnLL W m u0 ((r0 :: rest) :: L0) := h2 0 u0 hu0
  obtain ⟨vals1, g1, g2⟩ := k0
  obtain ⟨b1, c1, cur1, rfl, hb1, hh1, hl1, hc1, hm1⟩ := ownsRow_block g1 (by simp)
  have hvl1 : vals1.length = L0.length + 1 := by have := g1.1; simpa using this
  obtain ⟨u1, hu1⟩ : ∃ u, vals1[0]? = some u := ⟨_, List.getElem?_eq_getElem (by omega)⟩
  have k1 : Own W m u1 (r0 :: rest) := g2 0 u1 hu1
  obtain ⟨p, c2, cur2, rfl, hb2, hh2, hl2, hc2, hm2⟩ := ownsRow_block k1 (by simp)
  obtain ⟨e0, e1⟩ := own_first k1
  have hfz : W.frozen? ⟨p, 1, none⟩ = false := by simp [World.frozen?, hh2]
  refine ⟨b0, c0, b1, c1, p, c2, by simp, ?_, ?_, e1, hfz, hb2, ?_⟩
  · rw [World.ownsRow.cellAt h1 0 (by simp)]; simpa using hu0
  · rw [World.ownsRow.cellAt g1 0 (by simp)]; simpa using hu1
  · have hw1 := poke_row hh2 (.int .i64 9) h1 (by decide)
    have hg1 := poke_row hh2 (.int .i64 9) g1 (by decide)
    have hsl : Sl (W.setCell ⟨p, 1, none⟩ (.int .i64 9)) (some ⟨p, 0, none⟩) (rest.length + 1) c2 ((r0.1, 9) :: rest) := by
      refine ⟨⟨by simp, Or.inr ⟨p, 0, rfl, Nat.lt_of_lt_of_le hl2 (grown_set W ⟨p, 1, none⟩ (.int .i64 9)).size, fun i hi => ?_⟩⟩, by simpa using hc2, hm2, fun h => by simp at h⟩
      have hR : ∀ j, j < (enc (r0 :: rest)).length → W.cell? ⟨p, j, none⟩ = (enc (r0 :: rest))[j]? := fun j hj => World.ownsRow.cellAt k1 j (by simpa [enc_length] using hj)
      have hel : (enc (r0 :: rest)).length = (rest.length + 1) * 2 := by rw [enc_length]; simp
      cases i with
      | zero =>
        refine ⟨?_, ?_⟩
        · rw [World.cell?_setCell_other _ _ _ _ (by simp)]; simpa using e0
        · rw [show (0 + 0 * 2 + 1) = 1 by omega, World.cell?_setCell_same _ _ _ e1]; simp
      | succ i =>
        refine ⟨?_, ?_⟩
        · rw [World.cell?_setCell_other _ _ _ _ (by simp), hR _ (by omega), Nat.zero_add, enc_key (r0 :: rest) (i + 1) (by simp; omega)]; simp
        · rw [World.cell?_setCell_other _ _ _ _ (by simp), hR _ (by omega), Nat.zero_add, enc_val (r0 :: rest) (i + 1) (by simp; omega)]; simp
    have hlev0 : ∃ a n c, (Value.slice (some ⟨b1, 0, none⟩) ((r0 :: rest) :: L0).length c1) = .slice a n c ∧ LvS (W.setCell ⟨p, 1, none⟩ (.int .i64 9)) a n c (((r0.1, 9) :: rest) :: L0) := by
      refine lv_of (L := ((r0.1, 9) :: rest) :: L0) hg1 fun i u hu => ?_
      cases i with
      | zero =>
        rw [hu1] at hu
        cases hu
        exact ⟨_, _, _, rfl, by simpa using hsl⟩
      | succ i =>
        have hi : i < L0.length := by have := (List.getElem?_eq_some_iff.1 hu).1; omega
        have := g2 (i + 1) u hu
        simp only [List.getD_cons_succ] at this ⊢
        exact poke_chunk hh2 e0 _ this (hd0 _ (getD_memT L0 [] i hi))
    refine ⟨⟨by simp, Or.inr ⟨b0, 0, rfl, Nat.lt_of_lt_of_le hl0 (grown_set W ⟨p, 1, none⟩ (.int .i64 9)).size, fun i hi => ?_⟩⟩, by simpa using hc0, hm0, fun h => by simp at h⟩
    obtain ⟨u, hu⟩ : ∃ u, vals[i]? = some u := ⟨_, List.getElem?_eq_getElem (by omega)⟩
    have hcell : (W.setCell ⟨p, 1, none⟩ (.int .i64 9)).cell? ⟨b0, 0 + i, none⟩ = some u := by rw [World.ownsRow.cellAt hw1 (0 + i) (by simp; omega), Nat.zero_add]; exact hu
    cases i with
    | zero =>
      rw [hu0] at hu
      cases hu
      obtain ⟨a, n, c, e, hv⟩ := hlev0
      exact ⟨a, n, c, by rw [← e]; exact hcell, hv⟩
    | succ i =>
      have := h2 (i + 1) u hu
      simp only [List.getD_cons_succ] at this ⊢
      obtain ⟨a, n, c, rfl, hv⟩ := poke_level hh2 e0 (.int .i64 9) this (hd1 _ (getD_memT T0 [] i (by omega)))
      exact ⟨a, n, c, hcell, hv⟩
end Go.Proofs.Ytcgpgflnihjpiab
