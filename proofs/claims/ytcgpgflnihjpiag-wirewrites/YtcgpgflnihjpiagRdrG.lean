/- The reader of bytes: what it keeps. -/
import Derived.Test.YtcgpgflnihjpiagRdr1
namespace Go.Proofs.Ytcgpgflnihjpiag
open Go.RowKit

theorem But.alloc (b : Nat) (w : World) (o : Obj) : But b w (w.alloc o) := But.of ((Below.refl _ _).alloc (Nat.le_refl _) _)
theorem But.setNew {b R o : Nat} {w w1 : World} (h : But b w w1) (hR : w.heap.size ≤ R) (v : Value) : But b w (w1.setCell ⟨R, o, none⟩ v) :=
  ⟨h.os, h.tape, h.output, by simpa [World.setCell] using h.size, fun k hk hne => by rw [heap_setCell_other _ _ _ _ (by show k ≠ R; omega)]; exact h.block k hk hne⟩
theorem RdAt.other {w : World} {b R o : Nat} {l : M.By} (h : RdAt w b l) (hR : b ≠ R) (v : Value) : RdAt (w.setCell ⟨R, o, none⟩ v) b l := ⟨by rw [heap_setCell_other _ _ _ _ hR]; exact h.1, h.2⟩
theorem RdAt.grown {w w' : World} {b : Nat} {l : M.By} {g : Option Nat} (h : RdAt w b l) (hg : w.grownBy w' g) (hne : g ≠ some b) : RdAt w' b l := ⟨(hg.block b h.lt (fun e => hne e.symm)).trans h.1, h.2⟩
theorem ownsRow_but {w w' : World} {b base : Nat} {e : TypeId} {size : Nat} {v : Value} {n : Nat} {xs : List Value} (h : w.ownsRow base e size v n xs) (hb : But b w w') (hlt : b < base) : w'.ownsRow base e size v n xs := by
  obtain ⟨h1, h2⟩ := h
  refine ⟨h1, ?_⟩
  rcases h2 with h2 | ⟨g, cap, cur, hv, hg, hh, r⟩
  · exact Or.inl h2
  · exact Or.inr ⟨g, cap, cur, hv, hg, (hb.block g (Array.getElem?_eq_some_iff.1 hh).1 (fun e => by cases e; omega)).trans hh, r⟩
theorem But.then {b : Nat} {w w1 w2 : World} (h : But b w w1) (k : Below w.heap.size w1 w2) : But b w w2 :=
  ⟨k.os.trans h.os, k.tape.trans h.tape, k.output.trans h.output, Nat.le_trans h.size k.size, fun i hi hne => (k.block i hi).trans (h.block i hi hne)⟩
theorem RdAt.keep {w w' : World} {b B : Nat} {l : M.By} (h : RdAt w b l) (hb : Below B w w') (hlt : b < B) : RdAt w' b l := ⟨(hb.block b hlt).trans h.1, h.2⟩
theorem M.r2_range {l t : M.By} {k : Int} (h : M.r2 l = some (k, t)) : 0 ≤ k ∧ k < 65536 := (M.r2_inv h).2
end Go.Proofs.Ytcgpgflnihjpiag
