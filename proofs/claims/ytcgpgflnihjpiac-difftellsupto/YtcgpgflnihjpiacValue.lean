/- The valueOf of the reference. -/
import Derived.Test.YtcgpgflnihjpiacRef1
namespace Go.Proofs.Ytcgpgflnihjpiac
open Go.RowKit

/-! ### The reference's valueOf and FindOf -/
theorem value_none (a : Option Addr) (cap : Nat) (key : Int) (w : World) :
    Calls Try.prog 80 #[.slice a 0 cap, .int .i64 key] w fun e w' => e = .returned (.int .i64 (-1)) ∧ w' = w := by
  go_enter Try.func80, Try.ntmps80
  go_wp2
  refine wp_loop_rounds 1 ?_
  rw [rounds_succ]
  go_wp2
  go_ret
  exact ⟨rfl, rfl⟩

set_option maxHeartbeats 1000000 in
theorem value_some (b off n cap : Nat) (l : List (Int × Int)) (key : Int) (w : World) (hn : n ≤ 40) (hl : l.length = n)
    (hc : ∀ i, i < n → w.cell? ⟨b, off + i * 2, none⟩ = some (.int .i64 (l.getD i (0, 0)).1) ∧ w.cell? ⟨b, off + i * 2 + 1, none⟩ = some (.int .i64 (l.getD i (0, 0)).2)) :
    Calls Try.prog 80 #[.slice (some ⟨b, off, none⟩) n cap, .int .i64 key] w fun e w' => e = .returned (.int .i64 (M.find key l)) ∧ w' = w := by
  have HC : Aside (∀ i, i < n → w.cell? ⟨b, off + i * 2, none⟩ = some (.int .i64 (l.getD i (0, 0)).1) ∧ w.cell? ⟨b, off + i * 2 + 1, none⟩ = some (.int .i64 (l.getD i (0, 0)).2)) := hc
  have HL : Aside (l.length = n) := hl
  clear hc hl
  go_enter Try.func80, Try.ntmps80
  go_wp2
  go_loopg [5] n (fun g i wr => ∃ k : Nat, k + g = n ∧ i = .int .i64 k ∧ wr = w ∧ Aside (M.find key (l.drop k) = M.find key l))
  case atStart => exact ⟨0, by omega, rfl, rfl, by simp [Aside]⟩
  case round =>
    obtain ⟨k, hk, rfl, rfl, A⟩ := hrel
    by_cases hlt : k < n
    · obtain ⟨x, y, hxy⟩ : ∃ x y, l.getD k (0, 0) = (x, y) := ⟨_, _, rfl⟩
      have c0 : wr.cell? ⟨b, off + k * 2, none⟩ = some (.int .i64 x) := by rw [(HC.out k hlt).1, hxy]
      have c1 : wr.cell? ⟨b, off + k * 2 + 1, none⟩ = some (.int .i64 y) := by rw [(HC.out k hlt).2, hxy]
      have HXY : Aside (l.getD k (0, 0) = (x, y)) := hxy
      clear hxy
      by_cases hx : x = key
      · have HX : Aside (x = key) := hx
        have hb : (x == key) = true := by simp [hx]
        clear hx
        go_wp2
        go_ret
        exact ⟨ret_int (A.out.symm.trans (M.find_here key l k (by rw [HL.out]; exact hlt) x y HXY.out HX.out)).symm, rfl⟩
      · have hb : (x == key) = false := by simp [hx]
        go_wp2
        go_roundg (gk - 1)
        case measure => omega
        case rel => exact ⟨k + 1, by omega, by go_num, rfl, by unfold Aside; rw [← A.out, M.find_step key l k (by rw [HL.out]; exact hlt) x y HXY.out hx]⟩
    · go_wp2
      go_ret
      exact ⟨ret_int (A.out.symm.trans (M.find_end key l k (by rw [HL.out]; omega))).symm, rfl⟩

theorem value_any (a : Option Addr) (n cap : Nat) (l : List (Int × Int)) (key : Int) (w : World) (h : Rd w a n l) (hn : n ≤ 40) :
    Calls Try.prog 80 #[.slice a n cap, .int .i64 key] w fun e w' => e = .returned (.int .i64 (M.find key l)) ∧ w' = w := by
  rcases h.cases with ⟨rfl, rfl⟩ | ⟨b, off, rfl, hn0, hl, hB, hc⟩
  · exact value_none a cap key w
  · exact value_some b off n cap l key w hn hl hc

end Go.Proofs.Ytcgpgflnihjpiac
