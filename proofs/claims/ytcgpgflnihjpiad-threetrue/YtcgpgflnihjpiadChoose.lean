/- choose. -/
import Derived.Test.YtcgpgflnihjpiadBase
namespace Go.Proofs.Ytcgpgflnihjpiad
open Go.RowKit

theorem choose_any (c : Int) (n : Nat) (w : World) (h0 : -9223372036854775808 ≤ c) (h1 : c ≤ 9223372036854775807) (hn : 0 < n) (hn2 : n ≤ 1000000) :
    Calls Try.prog 17 #[.int .i64 c, .int .i64 n] w fun e w' => ∃ r : Nat, e = .returned (.int .i64 r) ∧ r < n ∧ w' = w := by
  have hnz : ((n : Int) == 0) = false := by simp; omega
  by_cases hc : c < 0
  · obtain ⟨d, hd⟩ : ∃ d : Nat, -(c + 1) = (d : Int) := ⟨(-(c + 1)).toNat, by omega⟩
    have HD : Hid (-(c + 1) = (d : Int)) := hd
    have hd2 : (d : Int) ≤ 9223372036854775807 := by omega
    clear hd
    go_enter Try.func17, Try.ntmps17
    go_wp2
    go_ret
    refine ⟨d % n, ?_, Nat.mod_lt _ hn, rfl⟩
    refine ret_int ?_
    have e : c + 1 = -(d : Int) := by have := HD.out; omega
    rw [e, Int.neg_tmod, Int.neg_neg]
    rfl
  · obtain ⟨d, rfl⟩ := Int.eq_ofNat_of_zero_le (show 0 ≤ c by omega)
    go_enter Try.func17, Try.ntmps17
    go_wp2
    go_ret
    exact ⟨d % n, ret_int (by simp), Nat.mod_lt _ hn, rfl⟩
end Go.Proofs.Ytcgpgflnihjpiad
