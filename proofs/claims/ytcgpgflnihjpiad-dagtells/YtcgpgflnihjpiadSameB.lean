/- SameBools. -/
import Derived.Test.YtcgpgflnihjpiadSameI
import Derived.Test.YtcgpgflnihjpiadDag4
namespace Go.Proofs.Ytcgpgflnihjpiad
open Go.RowKit

/-! ### SameBools -/
/-- The slice at a, of n marks, holds the marks l. -/
def Rb (w : World) (a : Option Addr) (n : Nat) (l : List Bool) : Prop :=
  l.length = n ∧ (n = 0 ∨ ∃ b off, a = some ⟨b, off, none⟩ ∧ b < w.heap.size ∧ ∀ i, i < n → w.cell? ⟨b, off + i, none⟩ = some (.bool (l.getD i false)))
theorem Rb.below {w w' : World} {a : Option Addr} {n : Nat} {l : List Bool} (h : Rb w a n l) {B : Nat} (hb : Below B w w') (hB : w.heap.size ≤ B) : Rb w' a n l := by
  obtain ⟨h1, h2⟩ := h
  refine ⟨h1, ?_⟩
  rcases h2 with h2 | ⟨b, off, ha, hlt, hc⟩
  · exact Or.inl h2
  · refine Or.inr ⟨b, off, ha, Nat.lt_of_lt_of_le hlt hb.size, fun i hi => ?_⟩
    rw [hb.cell (p := ⟨b, off + i, none⟩) (by show b < B; omega)]
    exact hc i hi
theorem Bo.rb {w : World} {g : Nat} {m : List Bool} {n : Nat} (h : Bo w g m) (hn : m.length = n) : Rb w (some ⟨g, 0, none⟩) n m :=
  ⟨hn, Or.inr ⟨g, 0, rfl, h.lt, fun i hi => by rw [Nat.zero_add]; exact h.cell (by omega)⟩⟩
theorem bdrop (l : List Bool) (k : Nat) (h : k < l.length) : l.drop k = l.getD k false :: l.drop (k + 1) := by
  rw [List.drop_eq_getElem_cons h]; simp [List.getD, h]
theorem bsame_none (a a2 : Option Addr) (cap cap2 : Nat) (w : World) :
    Calls Try.prog 29 #[.slice a 0 cap, .slice a2 0 cap2] w fun e w' => e = .returned (.bool true) ∧ w' = w := by
  go_enter Try.func29, Try.ntmps29
  go_wp2
  refine wp_loop_rounds 1 ?_
  rw [rounds_succ]
  go_wp2
  go_ret
  exact ⟨rfl, rfl⟩
/-- The same marks. -/
theorem bsame_some (b off b2 off2 n cap cap2 : Nat) (l : List Bool) (w : World) (hm : n ≤ 9223372036854775807)
    (hc : ∀ i, i < n → w.cell? ⟨b, off + i, none⟩ = some (.bool (l.getD i false)))
    (hc2 : ∀ i, i < n → w.cell? ⟨b2, off2 + i, none⟩ = some (.bool (l.getD i false))) :
    Calls Try.prog 29 #[.slice (some ⟨b, off, none⟩) n cap, .slice (some ⟨b2, off2, none⟩) n cap2] w fun e w' => e = .returned (.bool true) ∧ ∃ m, w' = w.drewN m := by
  have HC : Aside (∀ i, i < n → w.cell? ⟨b, off + i, none⟩ = some (.bool (l.getD i false))) := hc
  have HC2 : Aside (∀ i, i < n → w.cell? ⟨b2, off2 + i, none⟩ = some (.bool (l.getD i false))) := hc2
  clear hc hc2
  go_enter Try.func29, Try.ntmps29
  go_wp2
  go_loopg [5] n (fun g i wr => ∃ k m : Nat, k + g = n ∧ i = .int .i64 k ∧ wr = w.drewN m)
  case atStart => exact ⟨0, 0, by omega, rfl, rfl⟩
  case round =>
    obtain ⟨k, m, hk, rfl, rfl⟩ := hrel
    by_cases hlt : k < n
    · have c0 := HC.out k hlt
      have d0 := HC2.out k hlt
      obtain ⟨x, hx⟩ : ∃ x, l.getD k false = x := ⟨_, rfl⟩
      rw [hx] at c0 d0
      clear hx
      have hki : (k : Int) < (n : Int) := by omega
      cases x with
      | true =>
        go_wp2_with fail
        go_quiet (fail)
        go_wp2
        go_roundg (gk - 1)
        case measure => omega
        case rel => exact ⟨k + 1, m + nq, by omega, by go_num, rfl⟩
      | false =>
        go_wp2_with fail
        go_quiet (fail)
        go_wp2
        go_roundg (gk - 1)
        case measure => omega
        case rel => exact ⟨k + 1, m + nq, by omega, by go_num, rfl⟩
    · go_wp2
      go_ret
      exact ⟨rfl, m, rfl⟩
theorem bsame_any (a a2 : Option Addr) (n cap cap2 : Nat) (l : List Bool) (w : World) (h : Rb w a n l) (h2 : Rb w a2 n l) (hm : n ≤ 9223372036854775807) :
    Calls Try.prog 29 #[.slice a n cap, .slice a2 n cap2] w fun e w' => e = .returned (.bool true) ∧ Below w.heap.size w w' := by
  by_cases hn : n = 0
  · subst hn
    refine (bsame_none a a2 cap cap2 w).mono ?_
    rintro e w' ⟨rfl, rfl⟩
    exact ⟨rfl, Below.refl _ _⟩
  · obtain ⟨b, off, rfl, hB, hc⟩ := h.2.resolve_left hn
    obtain ⟨b2, off2, rfl, hB2, hc2⟩ := h2.2.resolve_left hn
    refine (bsame_some b off b2 off2 n cap cap2 l w hm hc hc2).mono ?_
    rintro e w' ⟨rfl, m, rfl⟩
    exact ⟨rfl, below_drewN (Below.refl _ _) m⟩
end Go.Proofs.Ytcgpgflnihjpiad
