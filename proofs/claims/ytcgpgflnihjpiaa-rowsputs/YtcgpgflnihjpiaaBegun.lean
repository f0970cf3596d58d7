/- What must be in any case of rows. -/
import Derived.Test.YtcgpgflnihjpiaaPut
import Derived.Test.YtcgpgflnihjpiaaSame
import Derived.Test.YtcgpgflnihjpiaaFind
namespace Go.Proofs.Ytcgpgflnihjpiaa
open Go.RowKit

def few : List (Int × Int) := [(2, 5), (7, 0), (9, 30)]

theorem few_any (w : World) : Calls Try.prog 30 #[] w fun e w' => e = .returned (.slice (some ⟨w.heap.size, 0, none⟩) 3 3) ∧ Rd w' (some ⟨w.heap.size, 0, none⟩) 3 few ∧ Below w.heap.size w w' := by
  go_enter Try.func30, Try.ntmps30
  go_wp2
  go_ret
  refine ⟨rfl, ⟨rfl, Or.inr ⟨w.heap.size, 0, rfl, by simp, fun i hi => ?_⟩⟩, (Below.refl _ _).alloc (Nat.le_refl _) _⟩
  match i, hi with
  | 0, _ => constructor <;> simp [go_sem, few]
  | 1, _ => constructor <;> simp [go_sem, few]
  | 2, _ => constructor <;> simp [go_sem, few]

theorem few_find7 (a : Option Addr) (w : World) (r : Rd w a 3 few) : Calls Try.prog 9 #[.slice a 3 3, .int .i64 7] w fun e w' => e = .returned (.tuple #[.int .i64 0, .int .i64 0]) ∧ Below w.heap.size w w' := by
  have f := find_any a 3 3 few 7 w r (by omega)
  rwa [show M.findV few 7 = 0 by decide, show M.asked few 7 = 0 by decide] at f
theorem few_find8 (a : Option Addr) (w : World) (r : Rd w a 3 few) : Calls Try.prog 9 #[.slice a 3 3, .int .i64 8] w fun e w' => e = .returned (.tuple #[.int .i64 (-1), .int .i64 0]) ∧ Below w.heap.size w w' := by
  have f := find_any a 3 3 few 8 w r (by omega)
  rwa [show M.findV few 8 = -1 by decide, show M.asked few 8 = 0 by decide] at f
theorem few_put8 (b off : Nat) (w : World) (r : Rd w (some ⟨b, off, none⟩) 3 few) : Calls Try.prog 14 #[.slice (some ⟨b, off, none⟩) 3 3, .int .i64 8, .int .i64 1] w fun e w' => Hands w w' [(2, 5), (7, 0), (8, 1), (9, 30)] 0 e := by
  have f := put_any (some ⟨b, off, none⟩) 3 3 few 8 1 w r (by omega) (by simp [maxLen]) (by simp)
  rwa [show M.putV few 8 1 = [(2, 5), (7, 0), (8, 1), (9, 30)] by decide, show M.putE few 8 1 = 0 by decide] at f
theorem few_put7 (b off : Nat) (w : World) (r : Rd w (some ⟨b, off, none⟩) 3 few) : Calls Try.prog 14 #[.slice (some ⟨b, off, none⟩) 3 3, .int .i64 7, .int .i64 (-1)] w fun e w' => Hands w w' [(2, 5), (9, 30)] 0 e := by
  have f := put_any (some ⟨b, off, none⟩) 3 3 few 7 (-1) w r (by omega) (by simp [maxLen]) (by simp)
  rwa [show M.putV few 7 (-1) = [(2, 5), (9, 30)] by decide, show M.putE few 7 (-1) = 0 by decide] at f
theorem few_put100 (b off : Nat) (w : World) (r : Rd w (some ⟨b, off, none⟩) 3 few) : Calls Try.prog 14 #[.slice (some ⟨b, off, none⟩) 3 3, .int .i64 100, .int .i64 1] w fun e w' => Hands w w' [] 3 e := by
  have f := put_any (some ⟨b, off, none⟩) 3 3 few 100 1 w r (by omega) (by simp [maxLen]) (by simp)
  rwa [show M.putV few 100 1 = [] by decide, show M.putE few 100 1 = 3 by decide] at f
theorem few_put997 (b off : Nat) (w : World) (r : Rd w (some ⟨b, off, none⟩) 3 few) : Calls Try.prog 14 #[.slice (some ⟨b, off, none⟩) 3 3, .int .i64 1, .int .i64 997] w fun e w' => Hands w w' [] 3 e := by
  have f := put_any (some ⟨b, off, none⟩) 3 3 few 1 997 w r (by omega) (by simp [maxLen]) (by simp)
  rwa [show M.putV few 1 997 = [] by decide, show M.putE few 1 997 = 3 by decide] at f
theorem few_check (a : Option Addr) (w : World) (r : Rd w a 3 few) : Calls Try.prog 12 #[.slice a 3 3] w fun e w' => e = .returned (.int .i64 0) ∧ Below w.heap.size w w' := by
  have f := check_any a 3 3 few w r (by omega)
  rwa [show M.chk few = 0 by decide] at f
theorem two_check (b : Nat) (w : World) (r : Rd w (some ⟨b, 0, none⟩) 2 [(3, 0), (3, 0)]) : Calls Try.prog 12 #[.slice (some ⟨b, 0, none⟩) 2 2] w fun e w' => e = .returned (.int .i64 1) ∧ Below w.heap.size w w' := by
  have f := check_any (some ⟨b, 0, none⟩) 2 2 [(3, 0), (3, 0)] w r (by omega)
  rwa [show M.chk [(3, 0), (3, 0)] = 1 by decide] at f

set_option maxHeartbeats 8000000 in
theorem begun_any (w : World) : Calls Try.prog 11 #[] w fun e w' => e = .returned (.bool true) ∧ Below w.heap.size w w' := by
  obtain ⟨i0, hi, hz0, hz1, hz2⟩ := info_parts infoRow
  have hmk : ∀ W : World, (Instr.makeSlice 22 (.int .i64 41) (.int .i64 41)).run Try.prog W = .ok (.slice (some ⟨W.heap.size, 0, none⟩) 41 41) (W.alloc (.cells (madeCells (Value.agg #[.int .i64 0, .int .i64 0]).cells (41 * 2)) 39)) := fun W => by
    have h := run_make (P := Try.prog) W 22 39 i0 _ Try.underlying22 hi hz0 .i64 .i64 41 41 (by omega) (by omega) (by rw [hz2]; decide) (by decide)
    rw [hz1] at h
    exact h
  obtain ⟨MC, hMC⟩ : ∃ MC, MC = madeCells (Value.agg #[.int .i64 0, .int .i64 0]).cells (41 * 2) := ⟨_, rfl⟩
  rw [← hMC] at hmk
  clear hMC hi hz0 hz1 hz2
  go_enter Try.func11, Try.ntmps11
  go_wp2_with fail
  refine (few_any _).mono ?_
  rintro e a0 ⟨rfl, r, ba⟩
  have R : Hid (Rd a0 (some ⟨w.heap.size, 0, none⟩) 3 few) := r
  clear r
  have c0a := ba
  clear ba
  go_wp2_with fail
  refine (few_find7 _ _ R.out).mono ?_
  rintro e v0 ⟨rfl, ba⟩
  have c0b := below2 c0a ba
  clear c0a ba R
  go_wp2_with fail
  refine (few_any _).mono ?_
  rintro e a1 ⟨rfl, r, ba⟩
  have R : Hid (Rd a1 (some ⟨v0.heap.size, 0, none⟩) 3 few) := r
  clear r
  have c1a := below2 c0b ba
  clear ba
  go_wp2_with fail
  refine (few_find8 _ _ R.out).mono ?_
  rintro e v1 ⟨rfl, ba⟩
  have c1b := below2 c1a ba
  clear c1a ba R c0b
  go_wp2_with fail
  refine (few_any _).mono ?_
  rintro e a2 ⟨rfl, r, ba⟩
  have R : Hid (Rd a2 (some ⟨v1.heap.size, 0, none⟩) 3 few) := r
  clear r
  have c2a := below2 c1b ba
  clear ba
  go_wp2_with fail
  refine (few_put8 _ _ _ R.out).mono ?_
  rintro e v2 ⟨d2, n2, k2, rfl, r, hk, hm, hz, ba⟩
  obtain rfl : n2 = 4 := r.1.symm
  rcases r.cases with ⟨h, _⟩ | ⟨bc, oc, rfl, _, _, hbc, hcc⟩
  · omega
  have CC : Hid (v2.cell? ⟨bc, oc + 4, none⟩ = some (.int .i64 8) ∧ v2.cell? ⟨bc, oc + 5, none⟩ = some (.int .i64 1) ∧ bc < v2.heap.size) := ⟨(hcc 2 (by omega)).1, (hcc 2 (by omega)).2, hbc⟩
  clear hcc hbc
  clear r hk hm hz
  have c2b := below2 c2a ba
  clear c2a ba R c1b
  go_wp2_with fail
  refine (few_any _).mono ?_
  rintro e a3 ⟨rfl, r, ba⟩
  have R : Hid (Rd a3 (some ⟨v2.heap.size, 0, none⟩) 3 few) := r
  clear r
  have c3a := below2 c2b ba
  have q3a := ba
  clear ba
  go_wp2_with fail
  refine (few_put7 _ _ _ R.out).mono ?_
  rintro e v3 ⟨d3, n3, k3, rfl, r, hk, hm, hz, ba⟩
  obtain rfl : n3 = 2 := r.1.symm
  clear r hk hm hz
  have c3b := below2 c3a ba
  have q3b := below2 q3a ba
  clear c3a ba R c2b q3a
  go_wp2_with fail
  refine (few_any _).mono ?_
  rintro e a4 ⟨rfl, r, ba⟩
  have R : Hid (Rd a4 (some ⟨v3.heap.size, 0, none⟩) 3 few) := r
  clear r
  have c4a := below2 c3b ba
  have q4a := below2 q3b ba
  clear ba
  go_wp2_with fail
  refine (few_put100 _ _ _ R.out).mono ?_
  rintro e v4 ⟨d4, n4, k4, rfl, r, hk, hm, hz, ba⟩
  clear r hk hm hz
  have c4b := below2 c4a ba
  have q4b := below2 q4a ba
  clear c4a ba R c3b q4a q3b
  go_wp2_with fail
  refine (few_any _).mono ?_
  rintro e a5 ⟨rfl, r, ba⟩
  have R : Hid (Rd a5 (some ⟨v4.heap.size, 0, none⟩) 3 few) := r
  clear r
  have c5a := below2 c4b ba
  have q5a := below2 q4b ba
  clear ba
  go_wp2_with fail
  refine (few_put997 _ _ _ R.out).mono ?_
  rintro e v5 ⟨d5, n5, k5, rfl, r, hk, hm, hz, ba⟩
  clear r hk hm hz
  have c5b := below2 c5a ba
  have q5b := below2 q5a ba
  clear c5a ba R c4b q5a q4b
  go_wp2_with fail
  refine (few_any _).mono ?_
  rintro e a6 ⟨rfl, r, ba⟩
  have R : Hid (Rd a6 (some ⟨v5.heap.size, 0, none⟩) 3 few) := r
  have c6a := below2 c5b ba
  have q6a := below2 q5b ba
  clear r ba c5b q5b
  go_wp2_with fail
  refine (few_check _ _ R.out).mono ?_
  rintro e v6 ⟨rfl, ba⟩
  have c6b := below2 c6a ba
  have q6b := below2 q6a ba
  clear ba c6a q6a R
  have R2 : Hid (Rd (v6.alloc (.cells #[.int .i64 3, .int .i64 0, .int .i64 3, .int .i64 0] 39)) (some ⟨v6.heap.size, 0, none⟩) 2 [(3, 0), (3, 0)]) := by
    refine ⟨rfl, Or.inr ⟨v6.heap.size, 0, rfl, by simp, fun i hi => ?_⟩⟩
    match i, hi with
    | 0, _ => constructor <;> simp [go_sem]
    | 1, _ => constructor <;> simp [go_sem]
  have c7a := c6b.alloc c6b.size (.cells #[.int .i64 3, .int .i64 0, .int .i64 3, .int .i64 0] 39)
  have q7a := q6b.alloc q6b.size (.cells #[.int .i64 3, .int .i64 0, .int .i64 3, .int .i64 0] 39)
  clear c6b q6b
  go_wp2_with fail
  refine (two_check _ _ R2.out).mono ?_
  rintro e v7 ⟨rfl, ba⟩
  have c7b := below2 c7a ba
  have q7b := below2 q7a ba
  clear ba c7a q7a R2
  have c8 := c7b.alloc c7b.size (.cells MC 39)
  have q8 := q7b.alloc q7b.size (.cells MC 39)
  have C0 := (q8.cell (p := ⟨bc, oc + 4, none⟩) CC.out.2.2).trans CC.out.1
  have C1 := (q8.cell (p := ⟨bc, oc + 5, none⟩) CC.out.2.2).trans CC.out.2.1
  clear c7b q7b q8
  go_wp2_with fail
  refine (check_many _ 41 41 _ (by omega) (by omega)).mono ?_
  rintro e v8 ⟨rfl, rfl⟩
  go_wp2
  go_ret
  exact ⟨rfl, c8⟩
end Go.Proofs.Ytcgpgflnihjpiaa
