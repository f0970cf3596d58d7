/- chunk.Sum, chunk.Ends, chunk.levelRight, chunk.firstLen and the reference's sum, SumOf, EndsOf. -/
import Derived.Test.YtcgpgflnihjpiacRef1
import Derived.Test.YtcgpgflnihjpiacCut0
namespace Go.Proofs.Ytcgpgflnihjpiac
open Go.RowKit


theorem level_yes (x : Int) (w : World) (h1 : 0 ≤ x) (h2 : x ≤ 9) :
    Calls Try.prog 64 #[.int .i64 x] w fun e w' => e = .returned (.bool true) ∧ w' = w := by
  go_enter Try.func64, Try.ntmps64
  go_wp2
  go_ret
  exact ⟨rfl, rfl⟩
theorem level_no (x : Int) (w : World) (h : x < 0 ∨ 9 < x) :
    Calls Try.prog 64 #[.int .i64 x] w fun e w' => e = .returned (.bool false) ∧ w' = w := by
  by_cases h1 : 0 ≤ x
  · have hd : decide (x ≤ 9) = false := by simp; omega
    have h2 : 9 < x := by omega
    clear h
    go_enter Try.func64, Try.ntmps64
    go_wp2
    go_ret
    exact ⟨rfl, rfl⟩
  · have h2 : x < 0 := by omega
    clear h h1
    go_enter Try.func64, Try.ntmps64
    go_wp2
    go_ret
    exact ⟨rfl, rfl⟩

theorem sum_bad (a : Option Addr) (n cap : Nat) (l : List (Int × Int)) (w : World) (h : Rd w a n l) (hm : n ≤ 9223372036854775807) (hb : M.chk l ≠ 0) :
    Calls Try.prog 85 #[.slice a n cap] w fun e w' => e = .returned (.tuple #[.int .i64 0, .int .i64 (M.chk l)]) ∧ Below w.heap.size w w' := by
  have H := check_any a n cap l w h hm
  obtain ⟨c, hc⟩ : ∃ c, c = M.chk l := ⟨_, rfl⟩
  rw [← hc] at H hb ⊢
  clear hc h
  have hne : (c != 0) = true := by simp [hb]
  clear hb
  have HH : Hid (Calls Try.prog 36 #[.slice a n cap] w fun e w' => e = .returned (.int .i64 c) ∧ Below w.heap.size w w') := H
  clear H
  go_enter Try.func85, Try.ntmps85
  go_wp2_with (go_at_call 36; refine HH.out.mono ?_; rintro e w' ⟨rfl, hb1⟩)
  go_ret2
  exact ⟨rfl, hb1⟩

theorem sum_none (a : Option Addr) (cap : Nat) (w : World) :
    Calls Try.prog 85 #[.slice a 0 cap] w fun e w' => e = .returned (.tuple #[.int .i64 1, .int .i64 0]) ∧ Below w.heap.size w w' := by
  go_enter Try.func85, Try.ntmps85
  go_wp2_with (go_at_call 36; refine (check_none a cap _).mono ?_; rintro e w' ⟨rfl, rfl⟩)
  refine wp_loop_rounds 1 ?_
  rw [rounds_succ]
  go_wp2
  go_ret2
  exact ⟨rfl, Below.refl _ _⟩

set_option maxHeartbeats 2000000 in
theorem sum_some (b off n cap : Nat) (l : List (Int × Int)) (w : World) (hn : n ≤ 40) (hl : l.length = n) (hB : b < w.heap.size) (h0 : M.chk l = 0)
    (hc : ∀ i, i < n → w.cell? ⟨b, off + i * 2, none⟩ = some (.int .i64 (l.getD i (0, 0)).1) ∧ w.cell? ⟨b, off + i * 2 + 1, none⟩ = some (.int .i64 (l.getD i (0, 0)).2)) :
    Calls Try.prog 85 #[.slice (some ⟨b, off, none⟩) n cap] w fun e w' => e = .returned (.tuple #[.int .i64 (M.sum l), .int .i64 0]) ∧ Below w.heap.size w w' := by
  have H := check_any (some ⟨b, off, none⟩) n cap l w ⟨hl, Or.inr ⟨b, off, rfl, hB, hc⟩⟩ (by omega)
  rw [h0] at H
  have HH : Hid (Calls Try.prog 36 #[.slice (some ⟨b, off, none⟩) n cap] w fun e w' => e = .returned (.int .i64 0) ∧ Below w.heap.size w w') := H
  have HOk : Aside (M.Ok l) := ((M.chk_zero l).1 h0).2
  have HC : Aside (∀ i, i < n → w.cell? ⟨b, off + i * 2, none⟩ = some (.int .i64 (l.getD i (0, 0)).1) ∧ w.cell? ⟨b, off + i * 2 + 1, none⟩ = some (.int .i64 (l.getD i (0, 0)).2)) := hc
  have HL : Aside (l.length = n) := hl
  clear hc hl h0 H
  go_enter Try.func85, Try.ntmps85
  go_wp2_with (go_at_call 36; refine HH.out.mono ?_; rintro e w1 ⟨rfl, hb1⟩)
  go_loopg [5, 15] n (fun g s i wr => ∃ (k : Nat) (q : Int), k + g = n ∧ 0 ≤ q ∧ q ≤ 996 ∧ i = .int .i64 k ∧ s = .int .i64 q ∧ Below w.heap.size w wr ∧ Aside (M.sumFrom q (l.drop k) = M.sum l))
  case atStart => exact ⟨0, 1, by omega, by omega, by omega, rfl, rfl, hb1, by simp [Aside, M.sum]⟩
  case round =>
    obtain ⟨k, q, hk, hq0, hq1, rfl, rfl, hbel, A⟩ := hrel
    have hsz := hbel.size
    by_cases hlt : k < n
    · obtain ⟨x, y, hxy⟩ : ∃ x y, l.getD k (0, 0) = (x, y) := ⟨_, _, rfl⟩
      have c0 : wr.cell? ⟨b, off + k * 2, none⟩ = some (.int .i64 x) := by rw [hbel.cell (p := ⟨b, off + k * 2, none⟩) hB, (HC.out k hlt).1, hxy]
      have c1 : wr.cell? ⟨b, off + k * 2 + 1, none⟩ = some (.int .i64 y) := by rw [hbel.cell (p := ⟨b, off + k * 2 + 1, none⟩) hB, (HC.out k hlt).2, hxy]
      have hr := HOk.out.1 (l.getD k (0, 0)) (M.getD_mem l k (by rw [HL.out]; exact hlt))
      rw [hxy] at hr
      obtain ⟨x0, x1, y0, y1⟩ : 0 ≤ x ∧ x ≤ 99 ∧ 0 ≤ y ∧ y ≤ 996 := hr
      have HXY : Aside (l.getD k (0, 0) = (x, y)) := hxy
      clear hxy
      go_wp2
      go_roundg (gk - 1)
      case measure => omega
      case rel => exact ⟨k + 1, (31 * q + 7 * x + y + 1) % 997, by omega, by omega, by omega, by go_num, by go_num, hbel.alloc hsz _, by unfold Aside; rw [← A.out, M.sumFrom_step q l k (by rw [HL.out]; exact hlt) x y HXY.out]⟩
    · go_wp2
      go_ret2
      exact ⟨ret_two (A.out.symm.trans (M.sumFrom_end q l k (by rw [HL.out]; omega))).symm, hbel⟩

theorem sum_any (a : Option Addr) (n cap : Nat) (l : List (Int × Int)) (w : World) (h : Rd w a n l) (hm : n ≤ 9223372036854775807) :
    Calls Try.prog 85 #[.slice a n cap] w fun e w' => e = .returned (.tuple #[.int .i64 (M.sumV l), .int .i64 (M.chk l)]) ∧ Below w.heap.size w w' := by
  by_cases h0 : M.chk l = 0
  · rw [M.sumV, if_pos h0, h0]
    rcases h.cases with ⟨rfl, rfl⟩ | ⟨b, off, rfl, hn, hl, hB, hc⟩
    · exact sum_none a cap w
    · exact sum_some b off n cap l w (by rw [← hl]; exact ((M.chk_zero l).1 h0).1) hl hB h0 hc
  · rw [M.sumV, if_neg h0]
    exact sum_bad a n cap l w h hm h0

/-! ### Ends -/
theorem chk_one (x y : Int) : M.chk [(x, y)] = if 0 ≤ x ∧ x ≤ 99 ∧ 0 ≤ y ∧ y ≤ 996 then 0 else 1 := by
  unfold M.chk M.chkFrom M.bad
  by_cases h : 0 ≤ x ∧ x ≤ 99 ∧ 0 ≤ y ∧ y ≤ 996
  · rw [if_pos h]; simp [M.chkFrom]; omega
  · rw [if_neg h]; simp; omega

theorem box_rd (w : World) (x y : Int) : Rd ((w.alloc (.cells #[.int .i64 x, .int .i64 y] 56)).alloc (.cells #[.int .i64 x, .int .i64 y] 56)) (some ⟨w.heap.size + 1, 0, none⟩) 1 [(x, y)] := by
  refine ⟨rfl, Or.inr ⟨w.heap.size + 1, 0, rfl, by simp, fun i hi => ?_⟩⟩
  obtain rfl : i = 0 := by omega
  constructor <;> simp [go_sem]

set_option maxHeartbeats 2000000 in
theorem ends_any (x y level : Int) (w : World) :
    Calls Try.prog 94 #[.agg #[.int .i64 x, .int .i64 y], .int .i64 level] w fun e w' => e = .returned (.bool (M.ends level x y)) ∧ Below w.heap.size w w' := by
  have H := check_any (some ⟨w.heap.size + 1, 0, none⟩) 1 1 [(x, y)] _ (box_rd w x y) (by omega)
  rw [chk_one] at H
  obtain ⟨W, hW⟩ : ∃ W, W = (w.alloc (.cells #[.int .i64 x, .int .i64 y] 56)).alloc (.cells #[.int .i64 x, .int .i64 y] 56) := ⟨_, rfl⟩
  rw [← hW] at H
  have hbW : Below w.heap.size w W := by rw [hW]; exact ((Below.refl _ _).alloc (Nat.le_refl _) _).alloc (by simp) _
  have c0 : W.cell? ⟨w.heap.size, 0, none⟩ = some (.int .i64 x) := by rw [hW]; simp [go_sem]
  have c1 : W.cell? ⟨w.heap.size, 1, none⟩ = some (.int .i64 y) := by rw [hW]; simp [go_sem]
  have hsz : w.heap.size < W.heap.size := by rw [hW]; simp; omega
  have HW : Hid (W = (w.alloc (.cells #[.int .i64 x, .int .i64 y] 56)).alloc (.cells #[.int .i64 x, .int .i64 y] 56)) := hW
  clear hW
  by_cases h : 0 ≤ x ∧ x ≤ 99 ∧ 0 ≤ y ∧ y ≤ 996
  · rw [if_pos h] at H
    have HH : Hid (Calls Try.prog 36 #[.slice (some ⟨w.heap.size + 1, 0, none⟩) 1 1] W fun e w' => e = .returned (.int .i64 0) ∧ Below W.heap.size W w') := H
    clear H
    obtain ⟨x0, x1, y0, y1⟩ := h
    by_cases hl : 0 ≤ level ∧ level ≤ 9
    · obtain ⟨l0, l1⟩ := hl
      have e1 : M.ends level x y = ((7 * x + 13 * y + 5 * level) % 3 == 0) := by rw [M.ends_yes (by simp [M.right]; omega), M.endsB, Bool.eq_iff_iff]; simp
      have E1 : Hid (M.ends level x y = ((7 * x + 13 * y + 5 * level) % 3 == 0)) := e1
      clear e1
      go_enter Try.func94, Try.ntmps94
      go_wp2_with fail
      rw [← HW.out]
      refine HH.out.mono ?_
      rintro e w1 ⟨rfl, b1⟩
      have b2 := hbW.trans (b1.mono hbW.size)
      have d0 := (b1.cell (p := ⟨w.heap.size, 0, none⟩) hsz).trans c0
      have d1 := (b1.cell (p := ⟨w.heap.size, 1, none⟩) hsz).trans c1
      clear c0 c1 b1
      go_wp2_with fail
      refine (level_yes level _ l0 l1).mono ?_
      rintro e w2 ⟨rfl, rfl⟩
      go_wp2
      go_ret
      exact ⟨ret_bool E1.out.symm, b2⟩
    · have e1 : M.ends level x y = false := M.ends_no (by simp [M.right]; omega)
      have E1 : Hid (M.ends level x y = false) := e1
      have HL : Hid (level < 0 ∨ 9 < level) := by unfold Hid; omega
      clear e1 hl
      go_enter Try.func94, Try.ntmps94
      go_wp2_with fail
      rw [← HW.out]
      refine HH.out.mono ?_
      rintro e w1 ⟨rfl, b1⟩
      have b2 := hbW.trans (b1.mono hbW.size)
      go_wp2_with fail
      refine (level_no level _ HL.out).mono ?_
      rintro e w2 ⟨rfl, rfl⟩
      go_wp2
      go_ret
      exact ⟨ret_bool E1.out.symm, b2⟩
  · rw [if_neg h] at H
    have HH : Hid (Calls Try.prog 36 #[.slice (some ⟨w.heap.size + 1, 0, none⟩) 1 1] W fun e w' => e = .returned (.int .i64 1) ∧ Below W.heap.size W w') := H
    clear H
    have e1 : M.ends level x y = false := M.ends_no (by simp [M.right]; omega)
    have E1 : Hid (M.ends level x y = false) := e1
    clear e1 h
    go_enter Try.func94, Try.ntmps94
    go_wp2_with fail
    rw [← HW.out]
    refine HH.out.mono ?_
    rintro e w1 ⟨rfl, b1⟩
    have b2 := hbW.trans (b1.mono hbW.size)
    go_wp2
    go_ret
    exact ⟨ret_bool E1.out.symm, b2⟩

end Go.Proofs.Ytcgpgflnihjpiac
