/- A pen: numbers and texts that can stand where they are put. -/
import Derived.Test.YtcgpgflnihjpiagPen3
namespace Go.Proofs.Ytcgpgflnihjpiag
open Go.RowKit

theorem M.pn_byte {l : M.By} {n : Int} (h0 : 0 ≤ n) (h1 : n < 256) : M.pnL false (l, false) [n] = (l ++ [M.b1 n], false) := by
  have := (M.step_num false (l, false) n).2.1 rfl (by unfold M.pnB; simp; omega)
  rw [M.pnL_one]
  simpa [M.pnE] using this
theorem M.pn_pair {l : M.By} {n : Int} (h0 : 0 ≤ n) (h1 : n < 65536) : M.pnL true (l, false) [n] = (l ++ M.b2 n, false) := by
  have := (M.step_num true (l, false) n).2.1 rfl (by unfold M.pnB; simp; omega)
  rw [M.pnL_one]
  simpa [M.pnE] using this
theorem M.pn_text {l s : M.By} (h : s.length < 256) : M.pnT (l, false) s = (l ++ M.pT s, false) := (M.step_text (l, false) s).2.1 rfl h
theorem M.pn_list {l : M.By} {ns : List Int} (h : ∀ n ∈ ns, 0 ≤ n ∧ n < 256) : M.pnL false (l, false) ns = (l ++ ns.flatMap (fun n => [M.b1 n]), false) := by
  have := (M.step_list (M.pnS false) (fun n => M.pnB false n = true) (M.pnE false) (M.step_num false) ns (l, false)).2.1 rfl (fun n hn => by have := h n hn; unfold M.pnB; simp; omega)
  have e : ns.flatMap (M.pnE false) = ns.flatMap (fun n => [M.b1 n]) := rfl
  rw [e] at this
  exact this
/-- .. that can stand where they are put. -/
theorem gbyte_any (b base : Nat) (l : M.By) (n : Int) (w : World) (hP : PenAt w base b l false) (hll : l.length ≤ 400000) (h0 : 0 ≤ n) (h1 : n < 256) :
    Calls Try.prog 13 #[.pointer (some ⟨b, 0, none⟩), .slice (some ⟨w.heap.size, 0, none⟩) 1 1] (w.alloc (.cells #[.int .i64 n] 3)) fun e w' => (∃ v, e = .returned v) ∧ PenAt w' base b (l ++ [M.b1 n]) false ∧ Below base w w' ∧ Kp w w' := by
  have := pbyte1_any b base l false n w hP hll
  rw [M.pn_byte h0 h1] at this
  exact this
theorem gpair_any (b base : Nat) (l : M.By) (n : Int) (w : World) (hP : PenAt w base b l false) (hll : l.length ≤ 400000) (h0 : 0 ≤ n) (h1 : n < 65536) :
    Calls Try.prog 36 #[.pointer (some ⟨b, 0, none⟩), .slice (some ⟨w.heap.size, 0, none⟩) 1 1] (w.alloc (.cells #[.int .i64 n] 3)) fun e w' => (∃ v, e = .returned v) ∧ PenAt w' base b (l ++ M.b2 n) false ∧ Below base w w' ∧ Kp w w' := by
  have := ppair1_any b base l false n w hP hll
  rw [M.pn_pair h0 h1] at this
  exact this
theorem gtext_any (b base : Nat) (l : M.By) (s : M.By) (w : World) (hP : PenAt w base b l false) (hs : s.length < 256) (hll : l.length ≤ 300000) :
    Calls Try.prog 15 #[.pointer (some ⟨b, 0, none⟩), .string (M.str s)] w fun e w' => (∃ v, e = .returned v) ∧ PenAt w' base b (l ++ M.pT s) false ∧ Below base w w' ∧ Kp w w' := by
  have := ptext_any b base l false s w hP (by omega) hll
  rw [M.pn_text hs] at this
  exact this
theorem gbytes_any (b base : Nat) (l : M.By) (a : Option Addr) (m cap : Nat) (ns : List Int) (w : World) (hP : PenAt w base b l false) (hr : ∀ w', Below base w w' → Kp w w' → Ri w' a m ns) (hm : m ≤ 1000) (hll : l.length ≤ 400000) (hn : ∀ n ∈ ns, 0 ≤ n ∧ n < 256) :
    Calls Try.prog 13 #[.pointer (some ⟨b, 0, none⟩), .slice a m cap] w fun e w' => (∃ v, e = .returned v) ∧ PenAt w' base b (l ++ ns.flatMap (fun n => [M.b1 n])) false ∧ Below base w w' ∧ Kp w w' := by
  have := pbytes_any b base l false a m cap ns w hP hr hm hll
  rw [M.pn_list hn] at this
  exact this
end Go.Proofs.Ytcgpgflnihjpiag
