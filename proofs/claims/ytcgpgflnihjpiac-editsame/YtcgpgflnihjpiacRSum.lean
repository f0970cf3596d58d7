/- The reference's sum and EndsOf. -/
import Derived.Test.YtcgpgflnihjpiacSum
namespace Go.Proofs.Ytcgpgflnihjpiac
open Go.RowKit

/-! ### The reference's sum -/
theorem rsum_none (a : Option Addr) (cap : Nat) (w : World) :
    Calls Try.prog 62 #[.slice a 0 cap] w fun e w' => e = .returned (.int .i64 1) ∧ Below w.heap.size w w' := by
  go_enter Try.func62, Try.ntmps62
  go_wp2
  refine wp_loop_rounds 1 ?_
  rw [rounds_succ]
  go_wp2
  go_ret
  exact ⟨rfl, Below.refl _ _⟩

set_option maxHeartbeats 2000000 in
theorem rsum_some (b off n cap : Nat) (l : List (Int × Int)) (w : World) (hn : n ≤ 40) (hl : l.length = n) (hB : b < w.heap.size) (h0 : M.chk l = 0)
    (hc : ∀ i, i < n → w.cell? ⟨b, off + i * 2, none⟩ = some (.int .i64 (l.getD i (0, 0)).1) ∧ w.cell? ⟨b, off + i * 2 + 1, none⟩ = some (.int .i64 (l.getD i (0, 0)).2)) :
    Calls Try.prog 62 #[.slice (some ⟨b, off, none⟩) n cap] w fun e w' => e = .returned (.int .i64 (M.sum l)) ∧ Below w.heap.size w w' := by
  have HOk : Aside (M.Ok l) := ((M.chk_zero l).1 h0).2
  have HC : Aside (∀ i, i < n → w.cell? ⟨b, off + i * 2, none⟩ = some (.int .i64 (l.getD i (0, 0)).1) ∧ w.cell? ⟨b, off + i * 2 + 1, none⟩ = some (.int .i64 (l.getD i (0, 0)).2)) := hc
  have HL : Aside (l.length = n) := hl
  clear hc hl h0
  go_enter Try.func62, Try.ntmps62
  go_wp2
  go_loopg [3, 4] n (fun g s i wr => ∃ (k : Nat) (q : Int), k + g = n ∧ 0 ≤ q ∧ q ≤ 996 ∧ i = .int .i64 k ∧ s = .int .i64 q ∧ Below w.heap.size w wr ∧ Aside (M.sumFrom q (l.drop k) = M.sum l))
  case atStart => exact ⟨0, 1, by omega, by omega, by omega, rfl, rfl, Below.refl _ _, by simp [Aside, M.sum]⟩
  case round =>
    obtain ⟨k, q, hk, hq0, hq1, rfl, rfl, hbel, A⟩ := hrel
    have hsz := hbel.size
    by_cases hlt : k < n
    · obtain ⟨x, y, hxy⟩ : ∃ x y, l.getD k (0, 0) = (x, y) := ⟨_, _, rfl⟩
      have c0 : wr.cell? ⟨b, off + k * 2, none⟩ = some (.int .i64 x) := by rw [hbel.cell (p := ⟨b, off + k * 2, none⟩) hB, (HC.out k hlt).1, hxy]
      have c1 : wr.cell? ⟨b, off + k * 2 + 1, none⟩ = some (.int .i64 y) := by rw [hbel.cell (p := ⟨b, off + k * 2 + 1, none⟩) hB, (HC.out k hlt).2, hxy]
      have hr := HOk.out.1 (l.getD k (0, 0)) (M.getD_mem l k (by rw [HL.out]; exact hlt))
      rw [hxy] at hr
      obtain ⟨x0, x1, y0, y1⟩ : 0 ≤ x ∧ x ≤ 99 ∧ 0 ≤ y ∧ y ≤ 996 := hr
      have HXY : Aside (l.getD k (0, 0) = (x, y)) := hxy
      clear hxy
      have hki : (k : Int) < (n : Int) := by omega
      go_wp2_with fail
      go_quiet (fail)
      go_wp2
      go_roundg (gk - 1)
      case measure => omega
      case rel => exact ⟨k + 1, (31 * q + 7 * x + y + 1) % 997, by omega, by omega, by omega, by go_num, by go_num, below_drewN hbel _, by unfold Aside; rw [← A.out, M.sumFrom_step q l k (by rw [HL.out]; exact hlt) x y HXY.out]⟩
    · go_wp2
      go_ret
      exact ⟨ret_int (A.out.symm.trans (M.sumFrom_end q l k (by rw [HL.out]; omega))).symm, hbel⟩

theorem rsum_any (a : Option Addr) (n cap : Nat) (l : List (Int × Int)) (w : World) (h : Rd w a n l) (h0 : M.chk l = 0) :
    Calls Try.prog 62 #[.slice a n cap] w fun e w' => e = .returned (.int .i64 (M.sum l)) ∧ Below w.heap.size w w' := by
  rcases h.cases with ⟨rfl, rfl⟩ | ⟨b, off, rfl, hn, hl, hB, hc⟩
  · exact rsum_none a cap w
  · exact rsum_some b off n cap l w (by rw [← hl]; exact ((M.chk_zero l).1 h0).1) hl hB h0 hc

set_option maxHeartbeats 2000000 in
theorem endsOf_any (x y level : Int) (w : World) :
    Calls Try.prog 84 #[.agg #[.int .i64 x, .int .i64 y], .int .i64 level] w fun e w' => e = .returned (.bool (M.ends level x y)) ∧ Below w.heap.size w w' := by
  have hbW : Below w.heap.size w (w.alloc (.cells #[.int .i64 x, .int .i64 y] 56)) := (Below.refl _ _).alloc (Nat.le_refl _) _
  by_cases hx : 0 ≤ x ∧ x ≤ 99
  · obtain ⟨x0, x1⟩ := hx
    by_cases hy : 0 ≤ y ∧ y ≤ 996
    · obtain ⟨y0, y1⟩ := hy
      by_cases hl : 0 ≤ level ∧ level ≤ 9
      · obtain ⟨l0, l1⟩ := hl
        have e1 : M.ends level x y = ((7 * x + 13 * y + 5 * level) % 3 == 0) := by rw [M.ends_yes (by simp [M.right]; omega), M.endsB, Bool.eq_iff_iff]; simp
        have E1 : Hid (M.ends level x y = ((7 * x + 13 * y + 5 * level) % 3 == 0)) := e1
        clear e1
        go_enter Try.func84, Try.ntmps84
        go_wp2_with fail
        refine (isKey_yes _ _ x0 x1).mono ?_
        rintro e w1 ⟨rfl, rfl⟩
        go_wp2_with fail
        refine (within_yes _ _ _ _ y0 y1).mono ?_
        rintro e w1 ⟨rfl, rfl⟩
        go_wp2_with fail
        refine (within_yes _ _ _ _ l0 l1).mono ?_
        rintro e w1 ⟨rfl, rfl⟩
        go_wp2
        go_ret
        exact ⟨ret_bool E1.out.symm, hbW⟩
      · have E1 : Hid (M.ends level x y = false) := M.ends_no (by simp [M.right]; omega)
        have HL : Hid (level < 0 ∨ 9 < level) := by unfold Hid; omega
        clear hl
        go_enter Try.func84, Try.ntmps84
        go_wp2_with fail
        refine (isKey_yes _ _ x0 x1).mono ?_
        rintro e w1 ⟨rfl, rfl⟩
        go_wp2_with fail
        refine (within_yes _ _ _ _ y0 y1).mono ?_
        rintro e w1 ⟨rfl, rfl⟩
        go_wp2_with fail
        refine (within_no _ _ _ _ HL.out).mono ?_
        rintro e w1 ⟨rfl, rfl⟩
        go_wp2
        go_ret
        exact ⟨ret_bool E1.out.symm, hbW⟩
    · have E1 : Hid (M.ends level x y = false) := M.ends_no (by simp [M.right]; omega)
      have HL : Hid (y < 0 ∨ 996 < y) := by unfold Hid; omega
      clear hy
      go_enter Try.func84, Try.ntmps84
      go_wp2_with fail
      refine (isKey_yes _ _ x0 x1).mono ?_
      rintro e w1 ⟨rfl, rfl⟩
      go_wp2_with fail
      refine (within_no _ _ _ _ HL.out).mono ?_
      rintro e w1 ⟨rfl, rfl⟩
      go_wp2
      go_ret
      exact ⟨ret_bool E1.out.symm, hbW⟩
  · have E1 : Hid (M.ends level x y = false) := M.ends_no (by simp [M.right]; omega)
    have HL : Hid (x < 0 ∨ 99 < x) := by unfold Hid; omega
    clear hx
    go_enter Try.func84, Try.ntmps84
    go_wp2_with fail
    refine (isKey_no _ _ HL.out).mono ?_
    rintro e w1 ⟨rfl, rfl⟩
    go_wp2
    go_ret
    exact ⟨ret_bool E1.out.symm, hbW⟩
end Go.Proofs.Ytcgpgflnihjpiac
