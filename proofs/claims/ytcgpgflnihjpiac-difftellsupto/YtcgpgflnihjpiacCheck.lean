/- rows.Check answers what the plain function chk says. -/
import Derived.Test.YtcgpgflnihjpiacBase
namespace Go.Proofs.Ytcgpgflnihjpiac
open Go.RowKit

theorem check_many (a : Option Addr) (n cap : Nat) (w : World) (h : 40 < n) (hm : n ≤ 9223372036854775807) :
    Calls Try.prog 36 #[.slice a n cap] w fun e w' => e = .returned (.int .i64 2) ∧ w' = w := by
  go_enter Try.func36, Try.ntmps36
  go_wp2
  go_ret
  exact ⟨rfl, rfl⟩

theorem check_none (a : Option Addr) (cap : Nat) (w : World) :
    Calls Try.prog 36 #[.slice a 0 cap] w fun e w' => e = .returned (.int .i64 0) ∧ w' = w := by
  go_enter Try.func36, Try.ntmps36
  go_wp2
  refine wp_loop_rounds 1 ?_
  rw [rounds_succ]
  go_wp2
  go_ret
  exact ⟨rfl, rfl⟩

set_option maxHeartbeats 1000000 in
theorem check_some (b off n cap : Nat) (l : List (Int × Int)) (w : World) (hn : n ≤ 40) (hl : l.length = n) (hB : b < w.heap.size)
    (hc : ∀ i, i < n → w.cell? ⟨b, off + i * 2, none⟩ = some (.int .i64 (l.getD i (0, 0)).1) ∧ w.cell? ⟨b, off + i * 2 + 1, none⟩ = some (.int .i64 (l.getD i (0, 0)).2)) :
    Calls Try.prog 36 #[.slice (some ⟨b, off, none⟩) n cap] w fun e w' => e = .returned (.int .i64 (M.chkFrom (-1) l)) ∧ Below w.heap.size w w' := by
  have HC : Aside (∀ i, i < n → w.cell? ⟨b, off + i * 2, none⟩ = some (.int .i64 (l.getD i (0, 0)).1) ∧ w.cell? ⟨b, off + i * 2 + 1, none⟩ = some (.int .i64 (l.getD i (0, 0)).2)) := hc
  have HL : Aside (l.length = n) := hl
  clear hc hl
  go_enter Try.func36, Try.ntmps36
  go_wp2
  go_loopg [3, 11] n (fun g ah i wr => ∃ (k : Nat) (q : Int), k + g = n ∧ i = .int .i64 k ∧ ah = .int .i64 q ∧ Below w.heap.size w wr ∧ Aside (M.chkFrom q (l.drop k) = M.chkFrom (-1) l))
  case atStart => exact ⟨0, -1, by omega, rfl, rfl, Below.refl _ _, by simp [Aside]⟩
  case round =>
    obtain ⟨k, q, hk, rfl, rfl, hbel, A⟩ := hrel
    have hsz := hbel.size
    by_cases hlt : k < n
    · obtain ⟨x, y, hxy⟩ : ∃ x y, l.getD k (0, 0) = (x, y) := ⟨_, _, rfl⟩
      have c0 : wr.cell? ⟨b, off + k * 2, none⟩ = some (.int .i64 x) := by rw [hbel.cell (p := ⟨b, off + k * 2, none⟩) hB, (HC.out k hlt).1, hxy]
      have c1 : wr.cell? ⟨b, off + k * 2 + 1, none⟩ = some (.int .i64 y) := by rw [hbel.cell (p := ⟨b, off + k * 2 + 1, none⟩) hB, (HC.out k hlt).2, hxy]
      have HXY : Aside (l.getD k (0, 0) = (x, y)) := hxy
      clear hxy
      go_wp2
      all_goals first
        | (go_ret
           exact ⟨ret_int (A.out.symm.trans (M.chkFrom_bad q l k (by rw [HL.out]; exact hlt) x y HXY.out (by omega))).symm, hbel.alloc hsz _⟩)
        | (go_roundg (gk - 1)
           case measure => omega
           case rel => exact ⟨k + 1, x, by omega, by go_num, rfl, hbel.alloc hsz _, by unfold Aside; rw [← A.out, M.chkFrom_good q l k (by rw [HL.out]; exact hlt) x y HXY.out (by omega) (by omega) (by omega) (by omega)]⟩)
    · go_wp2
      go_ret
      exact ⟨ret_int (A.out.symm.trans (M.chkFrom_end q l k (by rw [HL.out]; omega))).symm, hbel⟩

theorem check_any (a : Option Addr) (n cap : Nat) (l : List (Int × Int)) (w : World) (h : Rd w a n l) (hm : n ≤ 9223372036854775807) :
    Calls Try.prog 36 #[.slice a n cap] w fun e w' => e = .returned (.int .i64 (M.chk l)) ∧ Below w.heap.size w w' := by
  by_cases h40 : 40 < n
  · refine (check_many a n cap w h40 hm).mono ?_
    rintro e w' ⟨rfl, rfl⟩
    exact ⟨by rw [M.chk_many l (by rw [h.1]; exact h40)], Below.refl _ _⟩
  · have e := M.chk_few l (by rw [h.1]; omega)
    rcases h.cases with ⟨rfl, rfl⟩ | ⟨b, off, rfl, hn, hl, hB, hc⟩
    · refine (check_none a cap w).mono ?_
      rintro e w' ⟨rfl, rfl⟩
      exact ⟨rfl, Below.refl _ _⟩
    · rw [e]
      exact check_some b off n cap l w (by omega) hl hB hc
end Go.Proofs.Ytcgpgflnihjpiac
