/- What must be in any case of chunks. -/
import Derived.Test.YtcgpgflnihjpiaaMany
import Derived.Test.YtcgpgflnihjpiaaBegun
namespace Go.Proofs.Ytcgpgflnihjpiaa
open Go.RowKit

theorem cut_many (a : Option Addr) (cap : Nat) (w : World) (h : Sl w a 12 cap (manyTo 12)) :
    Calls Try.prog 17 #[.slice a 12 cap, .int .i64 0] w fun e w' => ∃ b off c a0 a1 a3 c0 c1 c3, e = .returned (.tuple #[.slice (some ⟨b, off, none⟩) 4 c, .int .i64 0]) ∧ Hid (b < w'.heap.size ∧ w'.cell? ⟨b, off, none⟩ = some (.slice a0 4 c0) ∧ w'.cell? ⟨b, off + 1, none⟩ = some (.slice a1 3 c1) ∧ w'.cell? ⟨b, off + 3, none⟩ = some (.slice a3 2 c3)) ∧ Below w.heap.size w w' := by
  refine (cut_any a 12 cap (manyTo 12) 0 w h).mono ?_
  rintro e w' ⟨a', n', c', rfl, ⟨h1, h2⟩, _, _, _, hb⟩
  have e1 : M.cutE (manyTo 12) 0 = 0 := by decide
  have e2 : M.cutV (manyTo 12) 0 = [[(0, 0), (3, 1), (6, 2), (9, 3)], [(12, 4), (15, 5), (18, 6)], [(21, 7), (24, 8), (27, 9)], [(30, 10), (33, 11)]] := by decide
  rw [e2] at h1 h2
  rw [e1]
  obtain rfl : n' = 4 := h1.symm
  rcases h2 with h2 | ⟨b, off, rfl, hlt, hc⟩
  · omega
  · obtain ⟨a0, n0, c0, q0, s0⟩ := hc 0 (by omega)
    obtain ⟨a1, n1, c1, q1, s1⟩ := hc 1 (by omega)
    obtain ⟨a3, n3, c3, q3, s3⟩ := hc 3 (by omega)
    obtain rfl : n0 = 4 := s0.1.1.symm
    obtain rfl : n1 = 3 := s1.1.1.symm
    obtain rfl : n3 = 2 := s3.1.1.symm
    exact ⟨b, off, c', a0, a1, a3, c0, c1, c3, rfl, ⟨hlt, q0, q1, q3⟩, hb⟩

theorem few_sum (a : Option Addr) (w : World) (r : Rd w a 3 few) : Calls Try.prog 21 #[.slice a 3 3] w fun e w' => e = .returned (.tuple #[.int .i64 805, .int .i64 0]) ∧ Below w.heap.size w w' := by
  have f := sum_any a 3 3 few w r (by omega)
  rwa [show M.sumV few = 805 by decide, show M.chk few = 0 by decide] at f
theorem few_cut (b off : Nat) (w : World) (r : Rd w (some ⟨b, off, none⟩) 3 few) : Calls Try.prog 17 #[.slice (some ⟨b, off, none⟩) 3 3, .int .i64 10] w fun e w' => ∃ a n c, e = .returned (.tuple #[.slice a n c, .int .i64 3]) ∧ Below w.heap.size w w' := by
  refine (cut_any (some ⟨b, off, none⟩) 3 3 few 10 w ⟨r, by omega, by simp [maxLen], by simp⟩).mono ?_
  rintro e w' ⟨a', n', c', rfl, _, _, _, _, hb⟩
  exact ⟨a', n', c', by rw [show M.cutE few 10 = 3 by decide], hb⟩
theorem ends_93 (w : World) : Calls Try.prog 23 #[.agg #[.int .i64 9, .int .i64 3], .int .i64 0] w fun e w' => e = .returned (.bool true) ∧ Below w.heap.size w w' := by
  have f := ends_any 9 3 0 w
  rwa [show M.ends 0 9 3 = true by decide] at f
theorem ends_94 (w : World) : Calls Try.prog 23 #[.agg #[.int .i64 9, .int .i64 4], .int .i64 0] w fun e w' => e = .returned (.bool false) ∧ Below w.heap.size w w' := by
  have f := ends_any 9 4 0 w
  rwa [show M.ends 0 9 4 = false by decide] at f
theorem ends_33 (w : World) : Calls Try.prog 23 #[.agg #[.int .i64 (-3), .int .i64 3], .int .i64 0] w fun e w' => e = .returned (.bool false) ∧ Below w.heap.size w w' := by
  have f := ends_any (-3) 3 0 w
  rwa [show M.ends 0 (-3) 3 = false by decide] at f

set_option maxHeartbeats 8000000 in
theorem cbegun_any (w : World) : Calls Try.prog 19 #[] w fun e w' => e = .returned (.bool true) ∧ Below w.heap.size w w' := by
  go_enter Try.func19, Try.ntmps19
  go_wp2_with fail
  refine (many_any _).mono ?_
  rintro e w1 ⟨a, cap, rfl, s1, b1⟩
  have S1 : Hid (Sl w1 a 12 cap (manyTo 12)) := s1
  clear s1
  go_wp2_with fail
  refine (cut_many _ _ _ S1.out).mono ?_
  rintro e w2 ⟨b, off, c, a0, a1, a3, c0, c1, c3, rfl, HC, b2⟩
  have q2 := below2 b1 b2
  clear b1 b2 S1
  go_wp2_with fail
  refine (few_any _).mono ?_
  rintro e w3 ⟨rfl, r3, b3⟩
  have R3 : Hid (Rd w3 (some ⟨w2.heap.size, 0, none⟩) 3 few) := r3
  have q3 := below2 q2 b3
  have p3 := b3
  clear q2 b3 r3
  go_wp2_with fail
  refine (few_sum _ _ R3.out).mono ?_
  rintro e w4 ⟨rfl, b4⟩
  have q4 := below2 q3 b4
  have p4 := below2 p3 b4
  clear q3 b4 p3 R3
  go_wp2_with fail
  refine (few_any _).mono ?_
  rintro e w5 ⟨rfl, r5, b5⟩
  have R5 : Hid (Rd w5 (some ⟨w4.heap.size, 0, none⟩) 3 few) := r5
  have q5 := below2 q4 b5
  have p5 := below2 p4 b5
  clear q4 b5 p4 r5
  go_wp2_with fail
  refine (few_cut _ _ _ R5.out).mono ?_
  rintro e w6 ⟨x6, n6, c6, rfl, b6⟩
  have q6 := below2 q5 b6
  have p6 := below2 p5 b6
  clear q5 b6 p5 R5
  go_wp2_with fail
  refine (sum_none none 0 _).mono ?_
  rintro e w7 ⟨rfl, b7⟩
  have q7 := below2 q6 b7
  have p7 := below2 p6 b7
  clear q6 b7 p6
  have d0 := (p7.cell (p := ⟨b, off, none⟩) HC.out.1).trans HC.out.2.1
  have d1 := (p7.cell (p := ⟨b, off + 1, none⟩) HC.out.1).trans HC.out.2.2.1
  have d3 := (p7.cell (p := ⟨b, off + 3, none⟩) HC.out.1).trans HC.out.2.2.2
  go_wp2_with fail
  refine (ends_93 _).mono ?_
  rintro e w8 ⟨rfl, b8⟩
  have q8 := below2 q7 b8
  clear q7 b8 d0 d1 d3
  go_wp2_with fail
  refine (ends_94 _).mono ?_
  rintro e w9 ⟨rfl, b9⟩
  have q9 := below2 q8 b9
  clear q8 b9
  go_wp2_with fail
  refine (ends_33 _).mono ?_
  rintro e w10 ⟨rfl, b10⟩
  have q10 := below2 q9 b10
  go_wp2
  go_ret
  exact ⟨rfl, q10⟩
end Go.Proofs.Ytcgpgflnihjpiaa
