/- A pen: a number, a text, in a block of its own. -/
import Derived.Test.YtcgpgflnihjpiagPen2
namespace Go.Proofs.Ytcgpgflnihjpiag
open Go.RowKit

theorem PenAt.base {w : World} {base b : Nat} {l : M.By} {ov : Bool} (h : PenAt w base b l ov) : base ≤ w.heap.size := by
  have := h.lt
  obtain ⟨_, _, h2, _⟩ := h
  omega
/-- One number of a byte, in a block of its own. -/
theorem pbyte1_any (b base : Nat) (l : M.By) (ov : Bool) (n : Int) (w : World) (hP : PenAt w base b l ov) (hll : l.length ≤ 400000) :
    Calls Try.prog 13 #[.pointer (some ⟨b, 0, none⟩), .slice (some ⟨w.heap.size, 0, none⟩) 1 1] (w.alloc (.cells #[.int .i64 n] 3)) fun e w' => (∃ v, e = .returned v) ∧ PenAt w' base b (M.pnL false (l, ov) [n]).1 (M.pnL false (l, ov) [n]).2 ∧ Below base w w' ∧ Kp w w' := by
  have hb0 : Below w.heap.size w (w.alloc (.cells #[.int .i64 n] 3)) := (Below.refl _ _).alloc (Nat.le_refl _) _
  have hW0 : (w.alloc (.cells #[.int .i64 n] 3)).heap[w.heap.size]? = some (.cells (([n] : List Int).map (Value.int .i64)).toArray 3 (0, 0)) := heap_alloc_new _ _
  refine (pbytes_any b base l ov (some ⟨w.heap.size, 0, none⟩) 1 1 [n] _ (hP.later hb0) (fun w' _ hk => ri_kept hW0 hk) (by omega) hll).mono ?_
  rintro e w1 ⟨h1, h2, h3, h4⟩
  exact ⟨h1, h2, (hb0.mono hP.base).trans h3, (Kp.of hb0).trans h4⟩
/-- Two numbers of two bytes. -/
theorem ppair2_any (b base : Nat) (l : M.By) (ov : Bool) (n k : Int) (w : World) (hP : PenAt w base b l ov) (hll : l.length ≤ 400000) :
    Calls Try.prog 36 #[.pointer (some ⟨b, 0, none⟩), .slice (some ⟨w.heap.size, 0, none⟩) 2 2] (w.alloc (.cells #[.int .i64 n, .int .i64 k] 3)) fun e w' => (∃ v, e = .returned v) ∧ PenAt w' base b (M.pnL true (l, ov) [n, k]).1 (M.pnL true (l, ov) [n, k]).2 ∧ Below base w w' ∧ Kp w w' := by
  have hb0 : Below w.heap.size w (w.alloc (.cells #[.int .i64 n, .int .i64 k] 3)) := (Below.refl _ _).alloc (Nat.le_refl _) _
  have hW0 : (w.alloc (.cells #[.int .i64 n, .int .i64 k] 3)).heap[w.heap.size]? = some (.cells (([n, k] : List Int).map (Value.int .i64)).toArray 3 (0, 0)) := heap_alloc_new _ _
  refine (ppairs_any b base l ov (some ⟨w.heap.size, 0, none⟩) 2 2 [n, k] _ (hP.later hb0) (fun w' _ hk => ri_kept hW0 hk) (by omega) hll).mono ?_
  rintro e w1 ⟨h1, h2, h3, h4⟩
  exact ⟨h1, h2, (hb0.mono hP.base).trans h3, (Kp.of hb0).trans h4⟩
/-- One number of two bytes. -/
theorem ppair1_any (b base : Nat) (l : M.By) (ov : Bool) (n : Int) (w : World) (hP : PenAt w base b l ov) (hll : l.length ≤ 400000) :
    Calls Try.prog 36 #[.pointer (some ⟨b, 0, none⟩), .slice (some ⟨w.heap.size, 0, none⟩) 1 1] (w.alloc (.cells #[.int .i64 n] 3)) fun e w' => (∃ v, e = .returned v) ∧ PenAt w' base b (M.pnL true (l, ov) [n]).1 (M.pnL true (l, ov) [n]).2 ∧ Below base w w' ∧ Kp w w' := by
  have hb0 : Below w.heap.size w (w.alloc (.cells #[.int .i64 n] 3)) := (Below.refl _ _).alloc (Nat.le_refl _) _
  have hW0 : (w.alloc (.cells #[.int .i64 n] 3)).heap[w.heap.size]? = some (.cells (([n] : List Int).map (Value.int .i64)).toArray 3 (0, 0)) := heap_alloc_new _ _
  refine (ppairs_any b base l ov (some ⟨w.heap.size, 0, none⟩) 1 1 [n] _ (hP.later hb0) (fun w' _ hk => ri_kept hW0 hk) (by omega) hll).mono ?_
  rintro e w1 ⟨h1, h2, h3, h4⟩
  exact ⟨h1, h2, (hb0.mono hP.base).trans h3, (Kp.of hb0).trans h4⟩
end Go.Proofs.Ytcgpgflnihjpiag
