/- The reference's IsName. -/
import Derived.Test.YtcgpgflnihjpiaeRepo0
import Derived.Test.YtcgpgflnihjpiaeRef1
namespace Go.Proofs.Ytcgpgflnihjpiae
open Go.RowKit Go.PlainAid

set_option maxHeartbeats 2000000 in
theorem rname_any (s : ByteArray) (w : World) (hm : s.size ≤ 9223372036854775807) :
    Calls Try.prog 43 #[.string s] w fun e w' => e = .returned (.bool (M.nam s)) ∧ Below w.heap.size w w' := by
  have hbt := get_bt s
  go_enter Try.func43, Try.ntmps43
  go_wp2
  go_loopg [3] s.size (fun g i wr => ∃ (k : Nat), k + g = s.size ∧ i = .int .i64 k ∧ wr = w ∧ Aside (M.lets s k = M.lets s 0))
  case atStart => exact ⟨0, by omega, rfl, rfl, rfl⟩
  case round =>
    obtain ⟨k, hk, rfl, rfl, A⟩ := hrel
    by_cases hlt : k < s.size
    · have hki : (k : Int) < (s.size : Int) := by omega
      by_cases hl : 97 ≤ bt s k ∧ bt s k ≤ 122
      · have A2 : Aside (M.lets s (k + 1) = M.lets s 0) := by unfold Aside; rw [← M.lets_good s k hl.1 hl.2]; exact A.out
        have h1 : decide (bt s k < 97) = false := by simp; omega
        have h2 : decide (122 < bt s k) = false := by simp; omega
        clear hl A
        go_wp2
        go_roundg (gk - 1)
        case measure => omega
        case rel => exact ⟨k + 1, by omega, by go_num, rfl, A2⟩
      · have A2 : Aside (M.lets s 0 = false) := by unfold Aside; rw [← A.out]; exact M.lets_bad s k hlt (by omega)
        have E : Aside (M.nam s = false) := by unfold Aside M.nam; rw [A2.out]; simp
        clear A
        by_cases h7 : bt s k < 97
        · have h1 : decide (bt s k < 97) = true := by simp [h7]
          clear hl h7
          go_wp2
          go_ret
          exact ⟨ret_bool E.out.symm, Below.refl _ _⟩
        · have h1 : decide (bt s k < 97) = false := by simp; omega
          have h2 : decide (122 < bt s k) = true := by simp; omega
          clear hl h7
          go_wp2
          go_ret
          exact ⟨ret_bool E.out.symm, Below.refl _ _⟩
    · have A2 : Aside (M.lets s 0 = true) := by unfold Aside; rw [← A.out]; exact M.lets_end s k (by omega)
      clear A
      by_cases h8 : 1 ≤ s.size ∧ s.size ≤ 8
      · have HW : Hid (∀ W, Calls Try.prog 24 #[.int .i64 (s.size : Int), .int .i64 1, .int .i64 8] W fun e w' => e = .returned (.bool true) ∧ w' = W) := fun W => within_yes _ 1 8 W (by omega) (by omega)
        have E : Aside (M.nam s = true) := by unfold Aside; rw [M.nam_few s (by omega) (by omega)]; exact A2.out
        go_wp2_with (go_at_call 24; refine (HW.out _).mono ?_; rintro e w2 ⟨rfl, rfl⟩)
        go_ret
        exact ⟨ret_bool E.out.symm, Below.refl _ _⟩
      · have HW : Hid (∀ W, Calls Try.prog 24 #[.int .i64 (s.size : Int), .int .i64 1, .int .i64 8] W fun e w' => e = .returned (.bool false) ∧ w' = W) := fun W => within_no _ 1 8 W (by omega)
        have E : Aside (M.nam s = false) := by
          unfold Aside
          by_cases h0 : s.size = 0
          · exact M.nam_none s h0
          · exact M.nam_long s (by omega)
        go_wp2_with (go_at_call 24; refine (HW.out _).mono ?_; rintro e w2 ⟨rfl, rfl⟩)
        go_ret
        exact ⟨ret_bool E.out.symm, Below.refl _ _⟩
end Go.Proofs.Ytcgpgflnihjpiae
