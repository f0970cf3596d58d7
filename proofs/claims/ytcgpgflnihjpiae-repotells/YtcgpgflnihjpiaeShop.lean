/- The law's shop. -/
import Derived.Test.YtcgpgflnihjpiaeInBox
namespace Go.Proofs.Ytcgpgflnihjpiae
open Go.RowKit

def sMain : ByteArray := ⟨#[109, 97, 105, 110]⟩
def sSide : ByteArray := ⟨#[115, 105, 100, 101]⟩
def shopH : List M.Hd := [(sMain, 3), (sSide, 1)]

theorem Rd.same {w w' : World} {b n : Nat} {l : List (Int × Int)} (h : Rd w (some ⟨b, 0, none⟩) n l) (hb : w'.heap[b]? = w.heap[b]?) (hs : w.heap.size ≤ w'.heap.size) : Rd w' (some ⟨b, 0, none⟩) n l := by
  obtain ⟨h1, h2⟩ := h
  refine ⟨h1, ?_⟩
  rcases h2 with h2 | ⟨b', off', ha, hlt, hc⟩
  · exact Or.inl h2
  · cases ha
    refine Or.inr ⟨b, 0, rfl, by omega, fun i hi => ?_⟩
    rw [World.cell?_of_block (a := ⟨b, 0 + i * 2, none⟩) hb, World.cell?_of_block (a := ⟨b, 0 + i * 2 + 1, none⟩) hb]
    exact hc i hi
theorem Ri.same {w w' : World} {b n : Nat} {l : List Int} (h : Ri w (some ⟨b, 0, none⟩) n l) (hb : w'.heap[b]? = w.heap[b]?) (hs : w.heap.size ≤ w'.heap.size) : Ri w' (some ⟨b, 0, none⟩) n l := by
  obtain ⟨h1, h2⟩ := h
  refine ⟨h1, ?_⟩
  rcases h2 with h2 | ⟨b', off', ha, hlt, hc⟩
  · exact Or.inl h2
  · cases ha
    refine Or.inr ⟨b, 0, rfl, by omega, fun i hi => ?_⟩
    rw [World.cell?_of_block (a := ⟨b, 0 + i, none⟩) hb]
    exact hc i hi
/-- The commits of cross, in blocks from lo to g. -/
def CrossFrom (w : World) (lo g : Nat) : Prop := ∃ f b1 b2 b3 b4, w.heap[g]? = some (.cells (crossC f b1 b2 b3 b4) 49 (0, 0)) ∧ (lo ≤ f ∧ f < g) ∧ (lo ≤ b1 ∧ b1 < g) ∧ (lo ≤ b2 ∧ b2 < g) ∧ (lo ≤ b3 ∧ b3 < g) ∧ (lo ≤ b4 ∧ b4 < g) ∧
  Rd w (some ⟨f, 0, none⟩) 3 dfew ∧ Ri w (some ⟨b1, 0, none⟩) 1 [0] ∧ Ri w (some ⟨b2, 0, none⟩) 1 [0] ∧ Ri w (some ⟨b3, 0, none⟩) 2 [1, 2] ∧ Ri w (some ⟨b4, 0, none⟩) 2 [1, 2]
theorem CrossFrom.keep {w w' : World} {lo g : Nat} (h : CrossFrom w lo g) (hk : ∀ k, lo ≤ k → k ≤ g → w'.heap[k]? = w.heap[k]?) (hs : w.heap.size ≤ w'.heap.size) : CrossFrom w' lo g := by
  obtain ⟨f, b1, b2, b3, b4, h1, k1, k2, k3, k4, k5, r1, r2, r3, r4, r5⟩ := h
  exact ⟨f, b1, b2, b3, b4, (hk g (by omega) (Nat.le_refl _)).trans h1, k1, k2, k3, k4, k5, r1.same (hk f (by omega) (by omega)) hs, r2.same (hk b1 (by omega) (by omega)) hs, r3.same (hk b2 (by omega) (by omega)) hs, r4.same (hk b3 (by omega) (by omega)) hs, r5.same (hk b4 (by omega) (by omega)) hs⟩
theorem CrossFrom.at {w : World} {lo g : Nat} (h : CrossFrom w lo g) : CrossAt w g := by
  obtain ⟨f, b1, b2, b3, b4, h1, k1, k2, k3, k4, k5, r⟩ := h
  exact ⟨f, b1, b2, b3, b4, h1, k1.2, k2.2, k3.2, k4.2, k5.2, r⟩

theorem crossF_any (w : World) : Calls Try.prog 26 #[] w fun e w' => ∃ g, e = .returned (.slice (some ⟨g, 0, none⟩) 6 6) ∧ w.heap.size ≤ g ∧ CrossFrom w' w.heap.size g ∧ Below w.heap.size w w' := by
  go_enter Try.func26, Try.ntmps26
  go_wp2_with fail
  refine (dfew_any _).mono ?_
  rintro e w1 ⟨rfl, r, hb⟩
  have R : Hid (Rd w1 (some ⟨w.heap.size, 0, none⟩) 3 dfew) := r
  have hs := hb.size
  have hlt : w.heap.size < w1.heap.size := by
    rcases r.2 with h | ⟨b, off, e, hl, _⟩
    · omega
    · cases e; exact hl
  clear r
  go_wp2
  go_ret
  have hbW := ((((hb.alloc hs (.cells #[.int .i64 0] 3)).alloc (by simp; omega) (.cells #[.int .i64 0] 3)).alloc (by simp; omega) (.cells #[.int .i64 1, .int .i64 2] 3)).alloc (by simp; omega) (.cells #[.int .i64 1, .int .i64 2] 3)).alloc (by simp; omega) (.cells (crossC w.heap.size w1.heap.size (w1.heap.size + 1) (w1.heap.size + 1 + 1) (w1.heap.size + 1 + 1 + 1)) 49)
  have hbR := (((((Below.refl w1.heap.size w1).alloc (Nat.le_refl _) (.cells #[.int .i64 0] 3)).alloc (by simp) (.cells #[.int .i64 0] 3)).alloc (by simp; omega) (.cells #[.int .i64 1, .int .i64 2] 3)).alloc (by simp; omega) (.cells #[.int .i64 1, .int .i64 2] 3)).alloc (by simp; omega) (.cells (crossC w.heap.size w1.heap.size (w1.heap.size + 1) (w1.heap.size + 1 + 1) (w1.heap.size + 1 + 1 + 1)) 49)
  refine ⟨w1.heap.size + 1 + 1 + 1 + 1, rfl, by omega, ⟨w.heap.size, w1.heap.size, w1.heap.size + 1, w1.heap.size + 1 + 1, w1.heap.size + 1 + 1 + 1, ?_, ⟨by omega, by omega⟩, ⟨by omega, by omega⟩, ⟨by omega, by omega⟩, ⟨by omega, by omega⟩, ⟨by omega, by omega⟩, R.out.below hbR (Nat.le_refl _), ⟨rfl, Or.inr ⟨_, 0, rfl, by simp <;> omega, fun i hi => ?_⟩⟩, ⟨rfl, Or.inr ⟨_, 0, rfl, by simp <;> omega, fun i hi => ?_⟩⟩, ⟨rfl, Or.inr ⟨_, 0, rfl, by simp <;> omega, fun i hi => ?_⟩⟩, ⟨rfl, Or.inr ⟨_, 0, rfl, by simp <;> omega, fun i hi => ?_⟩⟩⟩, hbW⟩
  · rw [show w1.heap.size + 1 + 1 + 1 + 1 = ((((w1.alloc (.cells #[.int .i64 0] 3)).alloc (.cells #[.int .i64 0] 3)).alloc (.cells #[.int .i64 1, .int .i64 2] 3)).alloc (.cells #[.int .i64 1, .int .i64 2] 3)).heap.size by simp]
    exact heap_alloc_new _ _
  · obtain rfl : i = 0 := by omega
    simp [go_sem]
  · obtain rfl : i = 0 := by omega
    simp [go_sem]
  · match i, hi with
    | 0, _ => simp [go_sem]
    | 1, _ => simp [go_sem]
  · match i, hi with
    | 0, _ => simp [go_sem]
    | 1, _ => simp [go_sem]

/-- Where a shop lies: its commits' row g, its heads' row h. -/
structure ShopAt (w : World) (lo g h : Nat) : Prop where
  cr : CrossFrom w lo g
  hd : w.heap[h]? = some (.cells #[.string sMain, .int .i64 3, .string sSide, .int .i64 1] 59 (0, 0))
  gh : g < h
  lg : lo ≤ g
theorem ShopAt.below {w w' : World} {lo g h : Nat} (S : ShopAt w lo g h) (hb : Below w.heap.size w w') : ShopAt w' lo g h := by
  have hlt := (Array.getElem?_eq_some_iff.1 S.hd).1
  exact ⟨S.cr.keep (fun k _ hk => hb.block k (by have := S.gh; omega)) hb.size, (hb.block h hlt).trans S.hd, S.gh, S.lg⟩
theorem hs_block {w : World} {h : Nat} {x y : ByteArray} {i j : Int} (hh : w.heap[h]? = some (.cells #[.string x, .int .i64 i, .string y, .int .i64 j] 59 (0, 0))) (hx : x.size ≤ 8) (hy : y.size ≤ 8) : Hs w (some ⟨h, 0, none⟩) 2 [(x, i), (y, j)] := by
  refine ⟨rfl, Or.inr ⟨h, 0, rfl, (Array.getElem?_eq_some_iff.1 hh).1, fun k hk => ?_⟩⟩
  rw [cell_of_row _ _ _ _ _ _ hh, cell_of_row _ _ _ _ _ _ hh]
  match k, hk with
  | 0, _ => exact ⟨rfl, rfl, by show x.size ≤ _; omega⟩
  | 1, _ => exact ⟨rfl, rfl, by show y.size ≤ _; omega⟩
theorem ShopAt.hs {w : World} {lo g h : Nat} (S : ShopAt w lo g h) : Hs w (some ⟨h, 0, none⟩) 2 shopH := hs_block S.hd (by decide) (by decide)
theorem ShopAt.cm {w : World} {lo g h : Nat} (S : ShopAt w lo g h) : Cm w (some ⟨g, 0, none⟩) 6 crossL := S.cr.at.cm

set_option maxHeartbeats 2000000 in
theorem shop_any (w : World) : Calls Try.prog 34 #[] w fun e w' => ∃ g h, e = .returned (.agg #[.slice (some ⟨g, 0, none⟩) 6 6, .slice (some ⟨h, 0, none⟩) 2 2]) ∧ ShopAt w' w.heap.size g h ∧ Below w.heap.size w w' := by
  obtain ⟨p, hp⟩ : ∃ p, p = w.heap.size := ⟨_, rfl⟩
  obtain ⟨W, hW⟩ : ∃ W, W = w.alloc (.cells #[.slice none 0 0, .slice none 0 0] 40) := ⟨_, rfl⟩
  have hb0 : Below w.heap.size w W := by rw [hW]; exact (Below.refl _ _).alloc (Nat.le_refl _) _
  have hWs : W.heap.size = p + 1 := by rw [hW, hp]; simp
  have hWp : W.heap[p]? = some (.cells #[.slice none 0 0, .slice none 0 0] 40 (0, 0)) := by rw [hW, hp]; exact heap_alloc_new _ _
  have HC : Hid (Calls Try.prog 26 #[] W fun e w' => ∃ g, e = .returned (.slice (some ⟨g, 0, none⟩) 6 6) ∧ W.heap.size ≤ g ∧ CrossFrom w' W.heap.size g ∧ Below W.heap.size W w') := crossF_any W
  have HW : Hid (W = w.alloc (.cells #[.slice none 0 0, .slice none 0 0] 40)) := hW
  have HP : Aside (p = w.heap.size) := hp
  clear hW hp
  go_enter Try.func34, Try.ntmps34
  go_wp2_with fail
  rw [← HW.out, ← HP.out]
  refine HC.out.mono ?_
  rintro e w1 ⟨g, rfl, hg, hcr, hb1⟩
  have hg1 := hcr.at.lt
  have hs1 := hb1.size
  have hp1 : w1.heap[p]? = some (.cells #[.slice none 0 0, .slice none 0 0] 40 (0, 0)) := (hb1.block p (by omega)).trans hWp
  have hp1l : p < w1.heap.size := by omega
  have j0 : w1.cell? ⟨p, 0, none⟩ = some (.slice none 0 0) := by rw [cell_of_row _ _ _ _ _ _ hp1]; rfl
  have j1 : w1.cell? ⟨p, 1, none⟩ = some (.slice none 0 0) := by rw [cell_of_row _ _ _ _ _ _ hp1]; rfl
  have f0 : w1.frozen? ⟨p, 0, none⟩ = false := frozen_of_row _ _ _ _ _ hp1
  have f1 : w1.frozen? ⟨p, 1, none⟩ = false := frozen_of_row _ _ _ _ _ hp1
  have hp3 := heap_setCell_same w1 p 0 _ _ (.slice (some ⟨g, 0, none⟩) 6 6) hp1
  have f2 : (w1.setCell ⟨p, 0, none⟩ (.slice (some ⟨g, 0, none⟩) 6 6)).frozen? ⟨p, 1, none⟩ = false := frozen_of_row _ _ _ _ _ hp3
  have f3 : ((w1.setCell ⟨p, 0, none⟩ (.slice (some ⟨g, 0, none⟩) 6 6)).alloc (.cells #[.string ⟨#[109, 97, 105, 110]⟩, .int .i64 3, .string ⟨#[115, 105, 100, 101]⟩, .int .i64 1] 59)).frozen? ⟨p, 1, none⟩ = false := frozen_of_row _ _ _ _ _ (by rw [Below.heap_alloc _ _ _ (by simp [World.setCell]; omega)]; exact hp3)
  have hp4 := heap_setCell_same _ p 1 _ _ (.slice (some ⟨w1.heap.size, 0, none⟩) 2 2) hp3
  obtain ⟨Y, hY⟩ : ∃ Y, Y = (w1.setCell ⟨p, 0, none⟩ (.slice (some ⟨g, 0, none⟩) 6 6)).setCell ⟨p, 1, none⟩ (.slice (some ⟨w1.heap.size, 0, none⟩) 2 2) := ⟨_, rfl⟩
  have hYk : ∀ k, k ≠ p → Y.heap[k]? = w1.heap[k]? := fun k hk => by rw [hY, heap_setCell_other _ _ _ _ (by exact hk), heap_setCell_other _ _ _ _ (by exact hk)]
  have hYs : Y.heap.size = w1.heap.size := by rw [hY]; simp [World.setCell]
  rw [← hY] at hp4
  obtain ⟨X, hX⟩ : ∃ X, X = Y.alloc (.cells #[.string ⟨#[109, 97, 105, 110]⟩, .int .i64 3, .string ⟨#[115, 105, 100, 101]⟩, .int .i64 1] 59) := ⟨_, rfl⟩
  have hXo : ∀ k, k < w1.heap.size → X.heap[k]? = Y.heap[k]? := fun k hk => by rw [hX]; exact Below.heap_alloc _ _ _ (by omega)
  have hXh : X.heap[w1.heap.size]? = some (.cells #[.string sMain, .int .i64 3, .string sSide, .int .i64 1] 59 (0, 0)) := by rw [hX, ← hYs]; exact heap_alloc_new _ _
  have hXp : X.heap[p]? = some (.cells #[.slice (some ⟨g, 0, none⟩) 6 6, .slice (some ⟨w1.heap.size, 0, none⟩) 2 2] 40 (0, 0)) := (hXo p hp1l).trans hp4
  have hXs : w1.heap.size ≤ X.heap.size := by rw [hX]; simp [hYs]
  have x0 : X.cell? ⟨p, 0, none⟩ = some (.slice (some ⟨g, 0, none⟩) 6 6) := by rw [cell_of_row _ _ _ _ _ _ hXp]; rfl
  have x1 : X.cell? ⟨p, 1, none⟩ = some (.slice (some ⟨w1.heap.size, 0, none⟩) 2 2) := by rw [cell_of_row _ _ _ _ _ _ hXp]; rfl
  have HE : Aside (ShopAt X p g w1.heap.size ∧ Below w.heap.size w X) := by
    have c1 : Below w.heap.size w w1 := hb0.trans (hb1.mono hb0.size)
    refine ⟨⟨?_, hXh, hg1, by omega⟩, ?_⟩
    · have h1 := hcr.keep (w' := X) (fun k h1 h2 => by rw [hXo k (by omega), hYk k (by omega)]) hXs
      obtain ⟨f, b1, b2, b3, b4, h1, k1, k2, k3, k4, k5, r⟩ := h1
      exact ⟨f, b1, b2, b3, b4, h1, ⟨by omega, k1.2⟩, ⟨by omega, k2.2⟩, ⟨by omega, k3.2⟩, ⟨by omega, k4.2⟩, ⟨by omega, k5.2⟩, r⟩
    · have c2 : Below w.heap.size w Y := by rw [hY]; exact (c1.setCell (p := ⟨p, 0, none⟩) (by show w.heap.size ≤ p; rw [HP.out]; exact Nat.le_refl _) _).setCell (p := ⟨p, 1, none⟩) (by show w.heap.size ≤ p; rw [HP.out]; exact Nat.le_refl _) _
      rw [hX]; exact c2.alloc (by rw [hYs]; exact c1.size) _
  have HX : Hid (X = ((w1.setCell ⟨p, 0, none⟩ (.slice (some ⟨g, 0, none⟩) 6 6)).setCell ⟨p, 1, none⟩ (.slice (some ⟨w1.heap.size, 0, none⟩) 2 2)).alloc (.cells #[.string ⟨#[109, 97, 105, 110]⟩, .int .i64 3, .string ⟨#[115, 105, 100, 101]⟩, .int .i64 1] 59)) := by rw [← hY]; exact hX
  rw [HP.out] at HE
  have HX0 : Aside (X.cell? ⟨p, 0, none⟩ = some (.slice (some ⟨g, 0, none⟩) 6 6)) := x0
  have HX1 : Aside (X.cell? ⟨p, 1, none⟩ = some (.slice (some ⟨w1.heap.size, 0, none⟩) 2 2)) := x1
  clear hX hY hp3 hp4 hXo hXh hXp hYk hYs hXs hp1 hWp hWs hcr x0 x1
  go_wp2
  rw [← HX.out]
  have x0 := HX0.out
  have x1 := HX1.out
  refine bodyPost_ret (v := .agg #[.slice (some ⟨g, 0, none⟩) 6 6, .slice (some ⟨w1.heap.size, 0, none⟩) 2 2]) (by simp [results, Try.results34, go_sem, x0, x1]) rfl ?_
  exact ⟨g, w1.heap.size, rfl, HE.out.1, HE.out.2⟩
end Go.Proofs.Ytcgpgflnihjpiae
