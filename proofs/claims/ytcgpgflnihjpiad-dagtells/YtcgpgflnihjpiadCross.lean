/- The commits of cross. -/
import Derived.Test.YtcgpgflnihjpiadDag1
import Derived.Test.YtcgpgflnihjpiadMemA
namespace Go.Proofs.Ytcgpgflnihjpiad
open Go.RowKit

theorem dbelow2 {w a b : World} (h : Below w.heap.size w a) (k : Below a.heap.size a b) : Below w.heap.size w b := h.trans (k.mono h.size)
def dfew : List (Int × Int) := [(2, 5), (7, 0), (9, 30)]
theorem dfew_any (w : World) : Calls Try.prog 33 #[] w fun e w' => e = .returned (.slice (some ⟨w.heap.size, 0, none⟩) 3 3) ∧ Rd w' (some ⟨w.heap.size, 0, none⟩) 3 dfew ∧ Below w.heap.size w w' := by
  go_enter Try.func33, Try.ntmps33
  go_wp2
  go_ret
  refine ⟨rfl, ⟨rfl, Or.inr ⟨w.heap.size, 0, rfl, by simp, fun i hi => ?_⟩⟩, (Below.refl _ _).alloc (Nat.le_refl _) _⟩
  match i, hi with
  | 0, _ => constructor <;> simp [go_sem, dfew]
  | 1, _ => constructor <;> simp [go_sem, dfew]
  | 2, _ => constructor <;> simp [go_sem, dfew]

def crossL : List M.Com := [([], []), (dfew, [0]), ([], [0]), ([], [1, 2]), ([], [1, 2]), ([], [])]
def crossX : List M.Com := [([], []), (dfew, [1]), ([], [0]), ([], [1, 2]), ([], [1, 2]), ([], [])]
def crossC (f b1 b2 b3 b4 : Nat) : Array Value :=
  #[.slice none 0 0, .slice none 0 0, .slice (some ⟨f, 0, none⟩) 3 3, .slice (some ⟨b1, 0, none⟩) 1 1, .slice none 0 0, .slice (some ⟨b2, 0, none⟩) 1 1,
    .slice none 0 0, .slice (some ⟨b3, 0, none⟩) 2 2, .slice none 0 0, .slice (some ⟨b4, 0, none⟩) 2 2, .slice none 0 0, .slice none 0 0]
/-- Where the commits of cross lie. -/
def CrossAt (w : World) (g : Nat) : Prop := ∃ f b1 b2 b3 b4, w.heap[g]? = some (.cells (crossC f b1 b2 b3 b4) 90 (0, 0)) ∧ f < g ∧ b1 < g ∧ b2 < g ∧ b3 < g ∧ b4 < g ∧
  Rd w (some ⟨f, 0, none⟩) 3 dfew ∧ Ri w (some ⟨b1, 0, none⟩) 1 [0] ∧ Ri w (some ⟨b2, 0, none⟩) 1 [0] ∧ Ri w (some ⟨b3, 0, none⟩) 2 [1, 2] ∧ Ri w (some ⟨b4, 0, none⟩) 2 [1, 2]
theorem CrossAt.below {w w' : World} {g : Nat} (h : CrossAt w g) (hb : Below w.heap.size w w') : CrossAt w' g := by
  obtain ⟨f, b1, b2, b3, b4, h1, k1, k2, k3, k4, k5, r1, r2, r3, r4, r5⟩ := h
  exact ⟨f, b1, b2, b3, b4, (hb.block g (Array.getElem?_eq_some_iff.1 h1).1).trans h1, k1, k2, k3, k4, k5, r1.below hb (Nat.le_refl _), r2.below hb (Nat.le_refl _), r3.below hb (Nat.le_refl _), r4.below hb (Nat.le_refl _), r5.below hb (Nat.le_refl _)⟩
theorem rd_nil (w : World) (a : Option Addr) : Rd w a 0 [] := ⟨rfl, Or.inl rfl⟩
theorem ri_nil (w : World) (a : Option Addr) : Ri w a 0 [] := ⟨rfl, Or.inl rfl⟩
theorem CrossAt.lt {w : World} {g : Nat} (h : CrossAt w g) : g < w.heap.size := by
  obtain ⟨f, b1, b2, b3, b4, h1, _⟩ := h
  exact (Array.getElem?_eq_some_iff.1 h1).1
theorem CrossAt.cm {w : World} {g : Nat} (h : CrossAt w g) : Cm w (some ⟨g, 0, none⟩) 6 crossL := by
  have hlt := h.lt
  obtain ⟨f, b1, b2, b3, b4, h1, k1, k2, k3, k4, k5, r1, r2, r3, r4, r5⟩ := h
  refine ⟨rfl, Or.inr ⟨g, 0, rfl, hlt, fun i hi => ?_⟩⟩
  rw [cell_of_row w g _ _ _ _ h1, cell_of_row w g _ _ _ _ h1]
  match i, hi with
  | 0, _ => exact ⟨_, _, _, _, _, _, rfl, rfl, rd_nil _ _, ri_nil _ _, by omega, by omega⟩
  | 1, _ => exact ⟨_, _, _, _, _, _, rfl, rfl, r1, r2, by omega, by omega⟩
  | 2, _ => exact ⟨_, _, _, _, _, _, rfl, rfl, rd_nil _ _, r3, by omega, by omega⟩
  | 3, _ => exact ⟨_, _, _, _, _, _, rfl, rfl, rd_nil _ _, r4, by omega, by omega⟩
  | 4, _ => exact ⟨_, _, _, _, _, _, rfl, rfl, rd_nil _ _, r5, by omega, by omega⟩
  | 5, _ => exact ⟨_, _, _, _, _, _, rfl, rfl, rd_nil _ _, ri_nil _ _, by omega, by omega⟩
theorem Rd.at {w w' : World} {b n B : Nat} {l : List (Int × Int)} (h : Rd w (some ⟨b, 0, none⟩) n l) (hb : b < B) (hB : Below B w w') : Rd w' (some ⟨b, 0, none⟩) n l := by
  obtain ⟨h1, h2⟩ := h
  refine ⟨h1, ?_⟩
  rcases h2 with h2 | ⟨b', off', ha, hlt, hc⟩
  · exact Or.inl h2
  · cases ha
    refine Or.inr ⟨b, 0, rfl, Nat.lt_of_lt_of_le hlt hB.size, fun i hi => ?_⟩
    rw [hB.cell (p := ⟨b, 0 + i * 2, none⟩) hb, hB.cell (p := ⟨b, 0 + i * 2 + 1, none⟩) hb]
    exact hc i hi
theorem Ri.at {w w' : World} {b n B : Nat} {l : List Int} (h : Ri w (some ⟨b, 0, none⟩) n l) (hb : b < B) (hB : Below B w w') : Ri w' (some ⟨b, 0, none⟩) n l := by
  obtain ⟨h1, h2⟩ := h
  refine ⟨h1, ?_⟩
  rcases h2 with h2 | ⟨b', off', ha, hlt, hc⟩
  · exact Or.inl h2
  · cases ha
    refine Or.inr ⟨b, 0, rfl, Nat.lt_of_lt_of_le hlt hB.size, fun i hi => ?_⟩
    rw [hB.cell (p := ⟨b, 0 + i, none⟩) hb]
    exact hc i hi
/-- With other parents of the second. -/
theorem CrossAt.poke {w : World} {g : Nat} (h : CrossAt w g) :
    Cm ((w.alloc (.cells #[.int .i64 1] 3)).setCell ⟨g, 3, none⟩ (.slice (some ⟨w.heap.size, 0, none⟩) 1 1)) (some ⟨g, 0, none⟩) 6 crossX := by
  have hlt := h.lt
  obtain ⟨f, b1, b2, b3, b4, h1, k1, k2, k3, k4, k5, r1, r2, r3, r4, r5⟩ := h.below ((Below.refl w.heap.size w).alloc (Nat.le_refl _) (.cells #[.int .i64 1] 3))
  have hb : Below g (w.alloc (.cells #[.int .i64 1] 3)) ((w.alloc (.cells #[.int .i64 1] 3)).setCell ⟨g, 3, none⟩ (.slice (some ⟨w.heap.size, 0, none⟩) 1 1)) := (Below.refl _ _).setCell (p := ⟨g, 3, none⟩) (Nat.le_refl _) _
  have h2 := heap_setCell_same _ g 3 _ _ (.slice (some ⟨w.heap.size, 0, none⟩) 1 1) h1
  have hnew : Ri ((w.alloc (.cells #[.int .i64 1] 3)).setCell ⟨g, 3, none⟩ (.slice (some ⟨w.heap.size, 0, none⟩) 1 1)) (some ⟨w.heap.size, 0, none⟩) 1 [1] := by
    refine ⟨rfl, Or.inr ⟨w.heap.size, 0, rfl, by simp [World.setCell], fun i hi => ?_⟩⟩
    have e := heap_setCell_other (w.alloc (.cells #[.int .i64 1] 3)) ⟨g, 3, none⟩ w.heap.size (.slice (some ⟨w.heap.size, 0, none⟩) 1 1) (by show w.heap.size ≠ g; omega)
    rw [World.cell?_of_block (a := ⟨w.heap.size, 0 + i, none⟩) e]
    exact ri_one w 1 i hi
  refine ⟨rfl, Or.inr ⟨g, 0, rfl, by simp [World.setCell]; omega, fun i hi => ?_⟩⟩
  rw [cell_of_row _ g _ _ _ _ h2, cell_of_row _ g _ _ _ _ h2]
  match i, hi with
  | 0, _ => exact ⟨_, _, _, _, _, _, rfl, rfl, rd_nil _ _, ri_nil _ _, by omega, by omega⟩
  | 1, _ => exact ⟨_, _, _, _, _, _, rfl, rfl, r1.at k1 hb, hnew, by omega, by omega⟩
  | 2, _ => exact ⟨_, _, _, _, _, _, rfl, rfl, rd_nil _ _, r3.at k3 hb, by omega, by omega⟩
  | 3, _ => exact ⟨_, _, _, _, _, _, rfl, rfl, rd_nil _ _, r4.at k4 hb, by omega, by omega⟩
  | 4, _ => exact ⟨_, _, _, _, _, _, rfl, rfl, rd_nil _ _, r5.at k5 hb, by omega, by omega⟩
  | 5, _ => exact ⟨_, _, _, _, _, _, rfl, rfl, rd_nil _ _, ri_nil _ _, by omega, by omega⟩

theorem cross_any (w : World) : Calls Try.prog 51 #[] w fun e w' => ∃ g, e = .returned (.slice (some ⟨g, 0, none⟩) 6 6) ∧ w.heap.size ≤ g ∧ CrossAt w' g ∧ Below w.heap.size w w' := by
  go_enter Try.func51, Try.ntmps51
  go_wp2_with fail
  refine (dfew_any _).mono ?_
  rintro e w1 ⟨rfl, r, hb⟩
  have R : Hid (Rd w1 (some ⟨w.heap.size, 0, none⟩) 3 dfew) := r
  have hs := hb.size
  have hlt : w.heap.size < w1.heap.size := by
    rcases r.2 with h | ⟨b, off, e, hl, _⟩
    · omega
    · cases e; exact hl
  clear r
  go_wp2
  go_ret
  have hbW := ((((hb.alloc hs (.cells #[.int .i64 0] 3)).alloc (by simp; omega) (.cells #[.int .i64 0] 3)).alloc (by simp; omega) (.cells #[.int .i64 1, .int .i64 2] 3)).alloc (by simp; omega) (.cells #[.int .i64 1, .int .i64 2] 3)).alloc (by simp; omega) (.cells (crossC w.heap.size w1.heap.size (w1.heap.size + 1) (w1.heap.size + 1 + 1) (w1.heap.size + 1 + 1 + 1)) 90)
  have hbR := (((((Below.refl w1.heap.size w1).alloc (Nat.le_refl _) (.cells #[.int .i64 0] 3)).alloc (by simp) (.cells #[.int .i64 0] 3)).alloc (by simp; omega) (.cells #[.int .i64 1, .int .i64 2] 3)).alloc (by simp; omega) (.cells #[.int .i64 1, .int .i64 2] 3)).alloc (by simp; omega) (.cells (crossC w.heap.size w1.heap.size (w1.heap.size + 1) (w1.heap.size + 1 + 1) (w1.heap.size + 1 + 1 + 1)) 90)
  refine ⟨w1.heap.size + 1 + 1 + 1 + 1, rfl, by omega, ⟨w.heap.size, w1.heap.size, w1.heap.size + 1, w1.heap.size + 1 + 1, w1.heap.size + 1 + 1 + 1, ?_, by omega, by omega, by omega, by omega, by omega, R.out.below hbR (Nat.le_refl _), ⟨rfl, Or.inr ⟨_, 0, rfl, by simp <;> omega, fun i hi => ?_⟩⟩, ⟨rfl, Or.inr ⟨_, 0, rfl, by simp <;> omega, fun i hi => ?_⟩⟩, ⟨rfl, Or.inr ⟨_, 0, rfl, by simp <;> omega, fun i hi => ?_⟩⟩, ⟨rfl, Or.inr ⟨_, 0, rfl, by simp <;> omega, fun i hi => ?_⟩⟩⟩, hbW⟩
  · rw [show w1.heap.size + 1 + 1 + 1 + 1 = ((((w1.alloc (.cells #[.int .i64 0] 3)).alloc (.cells #[.int .i64 0] 3)).alloc (.cells #[.int .i64 1, .int .i64 2] 3)).alloc (.cells #[.int .i64 1, .int .i64 2] 3)).heap.size by simp]
    exact heap_alloc_new _ _
  · obtain rfl : i = 0 := by omega
    simp [go_sem]
  · obtain rfl : i = 0 := by omega
    simp [go_sem]
  · match i, hi with
    | 0, _ => simp [go_sem]
    | 1, _ => simp [go_sem]
  · match i, hi with
    | 0, _ => simp [go_sem]
    | 1, _ => simp [go_sem]
end Go.Proofs.Ytcgpgflnihjpiad
