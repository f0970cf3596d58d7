/- A repo in its box. -/
import Derived.Test.YtcgpgflnihjpiaeDag1
import Derived.Test.YtcgpgflnihjpiaeHeads1
import Derived.Test.YtcgpgflnihjpiaeCross
namespace Go.Proofs.Ytcgpgflnihjpiae
open Go.RowKit

theorem ret_two' {k : IntKind} {v : Value} {b b' : Int} (h : b = b') : Ending.returned (.tuple #[v, .int k b]) = .returned (.tuple #[v, .int k b']) := by rw [h]
theorem ret_pair {k k' : IntKind} {a a' b b' : Int} (h : a = a') (h' : b = b') : Ending.returned (.tuple #[.int k a, .int k' b]) = .returned (.tuple #[.int k a', .int k' b']) := by rw [h, h']
/-- What a call that is handed a repo has of it: its box, its commits, its heads. -/
structure InBox (w : World) (p : Nat) (a : Option Addr) (n cap : Nat) (C : List M.Com) (a2 : Option Addr) (n2 cap2 : Nat) (H : List M.Hd) : Prop where
  c0 : w.cell? ⟨p, 0, none⟩ = some (.slice a n cap)
  c1 : w.cell? ⟨p, 1, none⟩ = some (.slice a2 n2 cap2)
  lt : p < w.heap.size
  cm : Cm w a n C
  hs : Hs w a2 n2 H
theorem InBox.below {w w' : World} {p : Nat} {a : Option Addr} {n cap : Nat} {C : List M.Com} {a2 : Option Addr} {n2 cap2 : Nat} {H : List M.Hd} (h : InBox w p a n cap C a2 n2 cap2 H) (hb : Below w.heap.size w w') : InBox w' p a n cap C a2 n2 cap2 H :=
  ⟨(hb.cell (p := ⟨p, 0, none⟩) h.lt).trans h.c0, (hb.cell (p := ⟨p, 1, none⟩) h.lt).trans h.c1, Nat.lt_of_lt_of_le h.lt hb.size, h.cm.below hb (Nat.le_refl _), h.hs.below hb (Nat.le_refl _)⟩
theorem InBox.new (w : World) (a : Option Addr) (n cap : Nat) (C : List M.Com) (a2 : Option Addr) (n2 cap2 : Nat) (H : List M.Hd) (hC : Cm w a n C) (hH : Hs w a2 n2 H) : InBox (w.alloc (.cells #[.slice a n cap, .slice a2 n2 cap2] 40)) w.heap.size a n cap C a2 n2 cap2 H := by
  have hb : Below w.heap.size w (w.alloc (.cells #[.slice a n cap, .slice a2 n2 cap2] 40)) := (Below.refl _ _).alloc (Nat.le_refl _) _
  exact ⟨by simp [go_sem], by simp [go_sem], by simp, hC.below hb (Nat.le_refl _), hH.below hb (Nat.le_refl _)⟩
theorem M.hat_zero {C : List M.Com} {H : List M.Hd} {s : ByteArray} (h : M.hchk C H s ≠ 0) : M.hat C H s = 0 := by unfold M.hat; rw [if_pos h]
end Go.Proofs.Ytcgpgflnihjpiae
