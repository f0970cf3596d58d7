/- The reference's ChangesFine. -/
import Derived.Test.YtcgpgflnihjpiacCh1
import Derived.Test.YtcgpgflnihjpiacRef1
import Derived.Deep.RegionHeld3
namespace Go.Proofs.Ytcgpgflnihjpiac
namespace M
def prevC (l : List Chg) : Nat → Int
  | 0 => -1
  | k + 1 => (l.getD k (0, 0, 0)).1
end M
open Go.RowKit

theorem cfine_none (a : Option Addr) (cap : Nat) (w : World) :
    Calls Try.prog 53 #[.slice a 0 cap] w fun e w' => e = .returned (.bool true) ∧ w' = w := by
  go_enter Try.func53, Try.ntmps53
  go_wp2
  refine wp_loop_rounds 1 ?_
  rw [rounds_succ]
  go_wp2
  go_ret
  exact ⟨rfl, rfl⟩

set_option maxHeartbeats 8000000 in
theorem cfine_some (b off n cap : Nat) (l : List M.Chg) (w : World) (hm : n ≤ 9223372036854775807) (hl : l.length = n) (hB : b < w.heap.size)
    (hc : ∀ i, i < n → w.cell? ⟨b, off + i * 3, none⟩ = some (.int .i64 (l.getD i (0, 0, 0)).1) ∧ w.cell? ⟨b, off + i * 3 + 1, none⟩ = some (.int .i64 (l.getD i (0, 0, 0)).2.1) ∧ w.cell? ⟨b, off + i * 3 + 2, none⟩ = some (.int .i64 (l.getD i (0, 0, 0)).2.2)) :
    Calls Try.prog 53 #[.slice (some ⟨b, off, none⟩) n cap] w fun e w' => e = .returned (.bool (M.fine l)) ∧ Below w.heap.size w w' := by
  have HC : Aside (∀ i, i < n → w.cell? ⟨b, off + i * 3, none⟩ = some (.int .i64 (l.getD i (0, 0, 0)).1) ∧ w.cell? ⟨b, off + i * 3 + 1, none⟩ = some (.int .i64 (l.getD i (0, 0, 0)).2.1) ∧ w.cell? ⟨b, off + i * 3 + 2, none⟩ = some (.int .i64 (l.getD i (0, 0, 0)).2.2)) := hc
  have HL : Aside (l.length = n) := hl
  clear hc hl
  go_enter Try.func53, Try.ntmps53
  go_wp2
  go_loopg [3] n (fun g i wr => ∃ (k : Nat) (q : Int), k + g = n ∧ -1 ≤ q ∧ i = .int .i64 k ∧ Below w.heap.size w wr ∧ Aside (q = M.prevC l k) ∧ Aside (M.fineF q (l.drop k) = M.fine l))
  case atStart => exact ⟨0, -1, by omega, by omega, rfl, Below.refl _ _, rfl, by simp [Aside, M.fine]⟩
  case round =>
    obtain ⟨k, q, hk, hq1, rfl, hbel, A, A2⟩ := hrel
    have hsz := hbel.size
    by_cases hlt : k < n
    · obtain ⟨x, y, z, hxyz⟩ : ∃ x y z, l.getD k (0, 0, 0) = (x, y, z) := ⟨_, _, _, rfl⟩
      have c0 : wr.cell? ⟨b, off + k * 3, none⟩ = some (.int .i64 x) := by rw [hbel.cell (p := ⟨b, off + k * 3, none⟩) hB, (HC.out k hlt).1, hxyz]
      have c1 : wr.cell? ⟨b, off + k * 3 + 1, none⟩ = some (.int .i64 y) := by rw [hbel.cell (p := ⟨b, off + k * 3 + 1, none⟩) hB, (HC.out k hlt).2.1, hxyz]
      have c2 : wr.cell? ⟨b, off + k * 3 + 2, none⟩ = some (.int .i64 z) := by rw [hbel.cell (p := ⟨b, off + k * 3 + 2, none⟩) hB, (HC.out k hlt).2.2, hxyz]
      have HXY : Aside (l.getD k (0, 0, 0) = (x, y, z)) := hxyz
      have bad : Aside ((x ≤ q ∨ 99 < x ∨ y < -1 ∨ 996 < y ∨ z < -1 ∨ 996 < z ∨ y = z) → M.fine l = false) := fun h => A2.out.symm.trans (M.fineF_bad q l k (by rw [HL.out]; exact hlt) x y z hxyz h)
      have good : Aside ((q < x ∧ x ≤ 99 ∧ -1 ≤ y ∧ y ≤ 996 ∧ -1 ≤ z ∧ z ≤ 996 ∧ y ≠ z) → M.fineF x (l.drop (k + 1)) = M.fine l) := fun h => by rw [← A2.out, M.fineF_good q l k (by rw [HL.out]; exact hlt) x y z hxyz h]
      clear hxyz
      have hki : (k : Int) < (n : Int) := by omega
      by_cases g1 : 0 ≤ x ∧ x ≤ 99
      · obtain ⟨g1, g2⟩ := g1
        by_cases g3 : -1 ≤ y ∧ y ≤ 996
        · obtain ⟨g3, g4⟩ := g3
          by_cases g5 : -1 ≤ z ∧ z ≤ 996
          · obtain ⟨g5, g6⟩ := g5
            by_cases g7 : y = z
            · have hg7 : (y == z) = true := by simp [g7]
              have G : Hid (M.fine l = false) := bad.out (by omega)
              clear g7
              go_wp2_with fail
              go_quiet ((first | (go_at_call 59; exact Calls.quiet_of_same (isKey_yes _ _ g1 g2)) | (go_at_call 60; exact Calls.quiet_of_same (within_yes _ _ _ _ g3 g4)) | (go_at_call 60; exact Calls.quiet_of_same (within_yes _ _ _ _ g5 g6))))
              go_wp2
              go_ret
              exact ⟨ret_bool G.out.symm, below_drewN hbel _⟩
            · have hg7 : (y == z) = false := by simp [g7]
              have G7 : Hid (y ≠ z) := g7
              clear g7
              by_cases h0 : k = 0
              · have hg : decide (0 < k) = false := by simp; omega
                have hq : q = -1 := by have e := A.out; rw [h0] at e; exact e
                have G : Aside (M.fineF x (l.drop (k + 1)) = M.fine l) := good.out ⟨by omega, g2, g3, g4, g5, g6, G7.out⟩
                clear h0 hq
                go_wp2_with fail
                go_quiet ((first | (go_at_call 59; exact Calls.quiet_of_same (isKey_yes _ _ g1 g2)) | (go_at_call 60; exact Calls.quiet_of_same (within_yes _ _ _ _ g3 g4)) | (go_at_call 60; exact Calls.quiet_of_same (within_yes _ _ _ _ g5 g6))))
                go_wp2
                go_roundg (gk - 1)
                case measure => omega
                case rel => exact ⟨k + 1, x, by omega, by omega, by go_num, below_drewN hbel _, by show x = (l.getD _ (0, 0, 0)).1; rw [HXY.out], G⟩
              · obtain ⟨j, rfl⟩ : ∃ j, k = j + 1 := ⟨k - 1, by omega⟩
                have cj : wr.cell? ⟨b, off + j * 3, none⟩ = some (.int .i64 (l.getD j (0, 0, 0)).1) := by rw [hbel.cell (p := ⟨b, off + j * 3, none⟩) hB, (HC.out j (by omega)).1]
                obtain ⟨p, hp⟩ : ∃ p, p = (l.getD j (0, 0, 0)).1 := ⟨_, rfl⟩
                rw [← hp] at cj
                have hqp : q = p := by have e := A.out; rw [hp]; exact e
                clear hp h0
                by_cases h5 : x ≤ p
                · have G : Hid (M.fine l = false) := bad.out (by omega)
                  clear hqp
                  go_wp2_with fail
                  go_quiet ((first | (go_at_call 59; exact Calls.quiet_of_same (isKey_yes _ _ g1 g2)) | (go_at_call 60; exact Calls.quiet_of_same (within_yes _ _ _ _ g3 g4)) | (go_at_call 60; exact Calls.quiet_of_same (within_yes _ _ _ _ g5 g6))))
                  go_wp2
                  go_ret
                  exact ⟨ret_bool G.out.symm, below_drewN hbel _⟩
                · have hg : decide (x ≤ p) = false := by simp; omega
                  have G : Aside (M.fineF x (l.drop (j + 1 + 1)) = M.fine l) := good.out ⟨by omega, g2, g3, g4, g5, g6, G7.out⟩
                  clear hqp
                  go_wp2_with fail
                  go_quiet ((first | (go_at_call 59; exact Calls.quiet_of_same (isKey_yes _ _ g1 g2)) | (go_at_call 60; exact Calls.quiet_of_same (within_yes _ _ _ _ g3 g4)) | (go_at_call 60; exact Calls.quiet_of_same (within_yes _ _ _ _ g5 g6))))
                  go_wp2
                  go_roundg (gk - 1)
                  case measure => omega
                  case rel => exact ⟨j + 1 + 1, x, by omega, by omega, by go_num, below_drewN hbel _, by show x = (l.getD _ (0, 0, 0)).1; rw [HXY.out], G⟩
          · have g5' : z < -1 ∨ 996 < z := by omega
            have G : Hid (M.fine l = false) := bad.out (by omega)
            have H5 : Hid (z < -1 ∨ 996 < z) := g5'
            clear g5 g5'
            go_wp2_with fail
            go_quiet ((first | (go_at_call 59; exact Calls.quiet_of_same (isKey_yes _ _ g1 g2)) | (go_at_call 60; exact Calls.quiet_of_same (within_yes _ _ _ _ g3 g4)) | (go_at_call 60; exact Calls.quiet_of_same (within_no _ _ _ _ H5.out))))
            go_wp2
            go_ret
            exact ⟨ret_bool G.out.symm, below_drewN hbel _⟩
        · have g3' : y < -1 ∨ 996 < y := by omega
          have G : Hid (M.fine l = false) := bad.out (by omega)
          have H3 : Hid (y < -1 ∨ 996 < y) := g3'
          clear g3 g3'
          go_wp2_with fail
          go_quiet ((first | (go_at_call 59; exact Calls.quiet_of_same (isKey_yes _ _ g1 g2)) | (go_at_call 60; exact Calls.quiet_of_same (within_no _ _ _ _ H3.out))))
          go_wp2
          go_ret
          exact ⟨ret_bool G.out.symm, below_drewN hbel _⟩
      · have g1' : x < 0 ∨ 99 < x := by omega
        have G : Hid (M.fine l = false) := bad.out (by omega)
        have H1 : Hid (x < 0 ∨ 99 < x) := g1'
        clear g1 g1'
        go_wp2_with fail
        go_quiet ((go_at_call 59; exact Calls.quiet_of_same (isKey_no _ _ H1.out)))
        go_wp2
        go_ret
        exact ⟨ret_bool G.out.symm, below_drewN hbel _⟩
    · have G : Hid (M.fine l = true) := A2.out.symm.trans (M.fineF_end q l k (by rw [HL.out]; omega))
      go_wp2
      go_ret
      exact ⟨ret_bool G.out.symm, hbel⟩

theorem cfine_any (a : Option Addr) (n cap : Nat) (l : List M.Chg) (w : World) (h : Rc w a n l) (hm : n ≤ 9223372036854775807) :
    Calls Try.prog 53 #[.slice a n cap] w fun e w' => e = .returned (.bool (M.fine l)) ∧ Below w.heap.size w w' := by
  rcases h.cases with ⟨rfl, rfl⟩ | ⟨b, off, rfl, hn, hl, hB, hc⟩
  · refine (cfine_none a cap w).mono ?_
    rintro e w' ⟨rfl, rfl⟩
    exact ⟨rfl, Below.refl _ _⟩
  · exact cfine_some b off n cap l w hm hl hB hc
end Go.Proofs.Ytcgpgflnihjpiac
