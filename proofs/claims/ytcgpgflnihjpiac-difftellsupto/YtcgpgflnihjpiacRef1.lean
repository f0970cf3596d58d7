/- The reference's small functions: within, isKey, RowsError, valueOf, FindOf. -/
import Derived.Test.YtcgpgflnihjpiacCheck
namespace Go.Proofs.Ytcgpgflnihjpiac
open Go.RowKit

theorem within_yes (x lo hi : Int) (w : World) (h1 : lo ≤ x) (h2 : x ≤ hi) :
    Calls Try.prog 60 #[.int .i64 x, .int .i64 lo, .int .i64 hi] w fun e w' => e = .returned (.bool true) ∧ w' = w := by
  go_enter Try.func60, Try.ntmps60
  go_wp2
  go_ret
  exact ⟨rfl, rfl⟩
theorem within_no (x lo hi : Int) (w : World) (h : x < lo ∨ hi < x) :
    Calls Try.prog 60 #[.int .i64 x, .int .i64 lo, .int .i64 hi] w fun e w' => e = .returned (.bool false) ∧ w' = w := by
  by_cases h1 : lo ≤ x
  · have h2 : hi < x := by omega
    have hd : decide (x ≤ hi) = false := by simp; omega
    clear h
    go_enter Try.func60, Try.ntmps60
    go_wp2
    go_ret
    exact ⟨rfl, rfl⟩
  · have h2 : x < lo := by omega
    clear h h1
    go_enter Try.func60, Try.ntmps60
    go_wp2
    go_ret
    exact ⟨rfl, rfl⟩
theorem isKey_yes (x : Int) (w : World) (h1 : 0 ≤ x) (h2 : x ≤ 99) :
    Calls Try.prog 59 #[.int .i64 x] w fun e w' => e = .returned (.bool true) ∧ w' = w := by
  go_enter Try.func59, Try.ntmps59
  go_wp2_with (go_at_call 60; refine (within_yes _ _ _ _ h1 h2).mono ?_; rintro e w' ⟨rfl, rfl⟩)
  go_ret
  exact ⟨rfl, rfl⟩
theorem isKey_no (x : Int) (w : World) (h : x < 0 ∨ 99 < x) :
    Calls Try.prog 59 #[.int .i64 x] w fun e w' => e = .returned (.bool false) ∧ w' = w := by
  have H : Hid (x < 0 ∨ 99 < x) := h
  clear h
  go_enter Try.func59, Try.ntmps59
  go_wp2_with (go_at_call 60; refine (within_no _ _ _ _ H.out).mono ?_; rintro e w' ⟨rfl, rfl⟩)
  go_ret
  exact ⟨rfl, rfl⟩

theorem error_many (a : Option Addr) (n cap : Nat) (w : World) (h : 40 < n) (hm : n ≤ 9223372036854775807) :
    Calls Try.prog 52 #[.slice a n cap] w fun e w' => e = .returned (.int .i64 2) ∧ w' = w := by
  go_enter Try.func52, Try.ntmps52
  go_wp2
  go_ret
  exact ⟨rfl, rfl⟩

theorem error_none (a : Option Addr) (cap : Nat) (w : World) :
    Calls Try.prog 52 #[.slice a 0 cap] w fun e w' => e = .returned (.int .i64 0) ∧ w' = w := by
  go_enter Try.func52, Try.ntmps52
  go_wp2
  refine wp_loop_rounds 1 ?_
  rw [rounds_succ]
  go_wp2
  go_ret
  exact ⟨rfl, rfl⟩

set_option maxHeartbeats 2000000 in
theorem error_some (b off n cap : Nat) (l : List (Int × Int)) (w : World) (hn : n ≤ 40) (hl : l.length = n) (hB : b < w.heap.size)
    (hc : ∀ i, i < n → w.cell? ⟨b, off + i * 2, none⟩ = some (.int .i64 (l.getD i (0, 0)).1) ∧ w.cell? ⟨b, off + i * 2 + 1, none⟩ = some (.int .i64 (l.getD i (0, 0)).2)) :
    Calls Try.prog 52 #[.slice (some ⟨b, off, none⟩) n cap] w fun e w' => e = .returned (.int .i64 (M.chkFrom (-1) l)) ∧ Below w.heap.size w w' := by
  have HC : Aside (∀ i, i < n → w.cell? ⟨b, off + i * 2, none⟩ = some (.int .i64 (l.getD i (0, 0)).1) ∧ w.cell? ⟨b, off + i * 2 + 1, none⟩ = some (.int .i64 (l.getD i (0, 0)).2)) := hc
  have HL : Aside (l.length = n) := hl
  clear hc hl
  go_enter Try.func52, Try.ntmps52
  go_wp2
  go_loopg [3] n (fun g i wr => ∃ (k : Nat) (q : Int), k + g = n ∧ -1 ≤ q ∧ i = .int .i64 k ∧ Below w.heap.size w wr ∧ Aside (q = M.prev l k) ∧ Aside (M.chkFrom q (l.drop k) = M.chkFrom (-1) l))
  case atStart => exact ⟨0, -1, by omega, by omega, rfl, Below.refl _ _, rfl, by simp [Aside]⟩
  case round =>
    obtain ⟨k, q, hk, hq1, rfl, hbel, A, A2⟩ := hrel
    have hsz := hbel.size
    by_cases hlt : k < n
    · obtain ⟨x, y, hxy⟩ : ∃ x y, l.getD k (0, 0) = (x, y) := ⟨_, _, rfl⟩
      have c0 : wr.cell? ⟨b, off + k * 2, none⟩ = some (.int .i64 x) := by rw [hbel.cell (p := ⟨b, off + k * 2, none⟩) hB, (HC.out k hlt).1, hxy]
      have c1 : wr.cell? ⟨b, off + k * 2 + 1, none⟩ = some (.int .i64 y) := by rw [hbel.cell (p := ⟨b, off + k * 2 + 1, none⟩) hB, (HC.out k hlt).2, hxy]
      have HXY : Aside (l.getD k (0, 0) = (x, y)) := hxy
      clear hxy
      have hki : (k : Int) < (n : Int) := by omega
      by_cases g1 : 0 ≤ x ∧ x ≤ 99
      · obtain ⟨g1, g2⟩ := g1
        by_cases g3 : 0 ≤ y ∧ y ≤ 996
        · obtain ⟨g3, g4⟩ := g3
          by_cases h0 : k = 0
          · have hg : decide (0 < k) = false := by simp; omega
            have H0 : Hid (k = 0) := h0
            clear h0
            go_wp2_with fail
            go_quiet ((first | (go_at_call 59; exact Calls.quiet_of_same (isKey_yes _ _ g1 g2)) | (go_at_call 60; exact Calls.quiet_of_same (within_yes _ _ _ _ g3 g4))))
            go_wp2
            go_roundg (gk - 1)
            case measure => omega
            case rel => exact ⟨k + 1, x, by omega, by omega, by go_num, below_drewN hbel _, by show x = (l.getD _ (0, 0)).1; rw [HXY.out], by unfold Aside; rw [← A2.out, M.chkFrom_good q l k (by rw [HL.out]; exact hlt) x y HXY.out (by have e := A.out; rw [H0.out] at e; have : q = -1 := e; omega) (by omega) (by omega) (by omega)]⟩
          · obtain ⟨j, rfl⟩ : ∃ j, k = j + 1 := ⟨k - 1, by omega⟩
            have cj : wr.cell? ⟨b, off + j * 2, none⟩ = some (.int .i64 (l.getD j (0, 0)).1) := by rw [hbel.cell (p := ⟨b, off + j * 2, none⟩) hB, (HC.out j (by omega)).1]
            obtain ⟨z, hz⟩ : ∃ z, z = (l.getD j (0, 0)).1 := ⟨_, rfl⟩
            rw [← hz] at cj
            have HZ : Hid (z = (l.getD j (0, 0)).1) := hz
            clear hz h0
            by_cases h5 : x ≤ z
            · go_wp2_with fail
              go_quiet ((first | (go_at_call 59; exact Calls.quiet_of_same (isKey_yes _ _ g1 g2)) | (go_at_call 60; exact Calls.quiet_of_same (within_yes _ _ _ _ g3 g4))))
              go_wp2
              go_ret
              exact ⟨ret_int (A2.out.symm.trans (M.chkFrom_bad q l (j + 1) (by rw [HL.out]; exact hlt) x y HXY.out (by have e := A.out; have : q = z := e.trans HZ.out.symm; omega))).symm, below_drewN hbel _⟩
            · have hg : decide (x ≤ z) = false := by simp; omega
              go_wp2_with fail
              go_quiet ((first | (go_at_call 59; exact Calls.quiet_of_same (isKey_yes _ _ g1 g2)) | (go_at_call 60; exact Calls.quiet_of_same (within_yes _ _ _ _ g3 g4))))
              go_wp2
              go_roundg (gk - 1)
              case measure => omega
              case rel => exact ⟨j + 1 + 1, x, by omega, by omega, by go_num, below_drewN hbel _, by show x = (l.getD _ (0, 0)).1; rw [HXY.out], by unfold Aside; rw [← A2.out, M.chkFrom_good q l (j + 1) (by rw [HL.out]; exact hlt) x y HXY.out (by have e := A.out; have : q = z := e.trans HZ.out.symm; omega) (by omega) (by omega) (by omega)]⟩
        · have g3' : y < 0 ∨ 996 < y := by omega
          have G : Hid (y < 0 ∨ 996 < y) := g3'
          clear g3 g3'
          go_wp2_with fail
          go_quiet ((first | (go_at_call 59; exact Calls.quiet_of_same (isKey_yes _ _ g1 g2)) | (go_at_call 60; exact Calls.quiet_of_same (within_no _ _ _ _ G.out))))
          go_wp2
          go_ret
          exact ⟨ret_int (A2.out.symm.trans (M.chkFrom_bad q l k (by rw [HL.out]; exact hlt) x y HXY.out (by have := G.out; omega))).symm, below_drewN hbel _⟩
      · have g3' : x < 0 ∨ 99 < x := by omega
        have G : Hid (x < 0 ∨ 99 < x) := g3'
        clear g1 g3'
        go_wp2_with fail
        go_quiet ((go_at_call 59; exact Calls.quiet_of_same (isKey_no _ _ G.out)))
        go_wp2
        go_ret
        exact ⟨ret_int (A2.out.symm.trans (M.chkFrom_bad q l k (by rw [HL.out]; exact hlt) x y HXY.out (by have := G.out; omega))).symm, below_drewN hbel _⟩
    · go_wp2
      go_ret
      exact ⟨ret_int (A2.out.symm.trans (M.chkFrom_end q l k (by rw [HL.out]; omega))).symm, hbel⟩

theorem error_any (a : Option Addr) (n cap : Nat) (l : List (Int × Int)) (w : World) (h : Rd w a n l) (hm : n ≤ 9223372036854775807) :
    Calls Try.prog 52 #[.slice a n cap] w fun e w' => e = .returned (.int .i64 (M.chk l)) ∧ Below w.heap.size w w' := by
  by_cases h40 : 40 < n
  · refine (error_many a n cap w h40 hm).mono ?_
    rintro e w' ⟨rfl, rfl⟩
    exact ⟨by rw [M.chk_many l (by rw [h.1]; exact h40)], Below.refl _ _⟩
  · have e := M.chk_few l (by rw [h.1]; omega)
    rcases h.cases with ⟨rfl, rfl⟩ | ⟨b, off, rfl, hn, hl, hB, hc⟩
    · refine (error_none a cap w).mono ?_
      rintro e w' ⟨rfl, rfl⟩
      exact ⟨rfl, Below.refl _ _⟩
    · rw [e]
      exact error_some b off n cap l w (by omega) hl hB hc
end Go.Proofs.Ytcgpgflnihjpiac
