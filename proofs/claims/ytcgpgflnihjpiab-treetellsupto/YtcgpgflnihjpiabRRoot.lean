/- The RootOf of the reference. -/
import Derived.Test.YtcgpgflnihjpiabRTree
import Derived.Test.YtcgpgflnihjpiabTRoot
namespace Go.Proofs.Ytcgpgflnihjpiab
open Go.RowKit

theorem rootOf_none (a : Option Addr) (cap : Nat) (w : World) :
    Calls Try.prog 17 #[.slice a 0 cap] w fun e w' => e = .returned (.int .i64 1) ∧ w' = w := by
  go_enter Try.func17, Try.ntmps17
  go_wp2
  go_ret
  exact ⟨rfl, rfl⟩

set_option maxHeartbeats 2000000 in
theorem rootOf_some (a : Option Addr) (n cap : Nat) (T : List (List (List (Int × Int)))) (w : World) (hT : TvS w a n cap T) (hn : 0 < n) (hn2 : n ≤ 1000) (hl : 0 < (T.getD (n - 1) []).length) (hk : M.chk (top T) = 0) :
    Calls Try.prog 17 #[.slice a n cap] w fun e w' => e = .returned (.int .i64 (M.sum (top T))) ∧ Below w.heap.size w w' := by
  obtain ⟨b, off, rfl, hB, hc⟩ := hT.1.at hn
  obtain ⟨m, rfl⟩ : ∃ m, n = m + 1 := ⟨n - 1, by omega⟩
  rw [Nat.add_sub_cancel] at hl
  obtain ⟨a1, n1, c1, q1, s1⟩ := hc m (by omega)
  rw [s1.1.1] at hl
  obtain ⟨b1, o1, rfl⟩ : ∃ b1 o1, a1 = some ⟨b1, o1, none⟩ := by
    rcases s1.1.2 with e | ⟨b', o', e, _⟩
    · omega
    · exact ⟨b', o', e⟩
  obtain ⟨hB1, hc1⟩ := s1.1.at hl
  obtain ⟨xa, xn, xc, q2, s2⟩ := hc1 0 hl
  obtain ⟨x, hx⟩ : ∃ x, x = top T := ⟨_, rfl⟩
  have ex : (T.getD m []).getD 0 [] = x := by rw [hx, top, hT.1.1, Nat.add_sub_cancel]
  rw [ex] at s2
  rw [← hx] at hk ⊢
  have hQ2 : w.cell? ⟨b1, o1, none⟩ = some (.slice xa xn xc) := q2
  have HS : Aside (Sl w xa xn xc x) := s2
  have HK : Aside (M.chk x = 0) := hk
  have hn1 := s1.len
  have hmw : IntKind.i64.wrap (m : Int) = (m : Int) := by rw [IntKind.wrap_i64]; omega
  have hmb : (((m : Int) + 1) == 0) = false := by simp; omega
  clear hT s1 s2 hc hc1 hx ex hk q2
  go_enter Try.func17, Try.ntmps17
  go_wp2_with fail
  refine (rsum_any xa xn xc x w HS.out.1 HK.out).mono ?_
  rintro e w2 ⟨rfl, b2⟩
  go_wp2
  go_ret
  exact ⟨rfl, b2⟩
end Go.Proofs.Ytcgpgflnihjpiab
