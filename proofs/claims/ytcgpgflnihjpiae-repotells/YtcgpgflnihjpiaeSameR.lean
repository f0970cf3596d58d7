/- SameRepos, of two that are the same. -/
import Derived.Test.YtcgpgflnihjpiaeSame
import Derived.Test.YtcgpgflnihjpiaeSameI
import Derived.Test.YtcgpgflnihjpiaeInBox
namespace Go.Proofs.Ytcgpgflnihjpiae
open Go.RowKit

theorem same_yes (a a2 : Option Addr) (n cap cap2 : Nat) (l : List (Int × Int)) (w : World) (h : Rd w a n l) (h2 : Rd w a2 n l) (hm : n ≤ 9223372036854775807) :
    Calls Try.prog 48 #[.slice a n cap, .slice a2 n cap2] w fun e w' => e = .returned (.bool true) ∧ ∃ m, w' = w.drewN m := by
  rcases h.cases with ⟨rfl, rfl⟩ | ⟨b, off, rfl, hn, hl, hB, hc⟩
  · refine (same_none a a2 cap cap2 w).mono ?_
    rintro e w' ⟨rfl, rfl⟩
    exact ⟨rfl, 0, rfl⟩
  · rcases h2.cases with ⟨rfl, rfl⟩ | ⟨b2, off2, rfl, hn2, hl2, hB2, hc2⟩
    · omega
    · refine (same_some b off b2 off2 n cap cap2 l l w hm hl hl2 hc hc2).mono ?_
      rintro e w' ⟨rfl, m, rfl⟩
      exact ⟨ret_bool (by simp), m, rfl⟩
theorem isame_yes (a a2 : Option Addr) (n cap cap2 : Nat) (l : List Int) (w : World) (h : Ri w a n l) (h2 : Ri w a2 n l) (hm : n ≤ 9223372036854775807) :
    Calls Try.prog 10 #[.slice a n cap, .slice a2 n cap2] w fun e w' => e = .returned (.bool true) ∧ ∃ m, w' = w.drewN m := by
  rcases h.cases with ⟨rfl, rfl⟩ | ⟨b, off, rfl, hn, hl, hB, hc⟩
  · refine (isame_none a a2 cap cap2 w).mono ?_
    rintro e w' ⟨rfl, rfl⟩
    exact ⟨rfl, 0, rfl⟩
  · rcases h2.cases with ⟨rfl, rfl⟩ | ⟨b2, off2, rfl, hn2, hl2, hB2, hc2⟩
    · omega
    · refine (isame_some b off b2 off2 n cap cap2 l l w hm hl hl2 hc hc2).mono ?_
      rintro e w' ⟨rfl, m, rfl⟩
      exact ⟨ret_bool (by simp), m, rfl⟩

theorem Cm.at {w : World} {a : Option Addr} {n : Nat} {L : List M.Com} (h : Cm w a n L) {k : Nat} (hk : k < n) : ∃ b off, a = some ⟨b, off, none⟩ ∧ ∃ a1 n1 c1 a2 n2 c2, w.cell? ⟨b, off + k * 2, none⟩ = some (.slice a1 n1 c1) ∧ w.cell? ⟨b, off + k * 2 + 1, none⟩ = some (.slice a2 n2 c2) ∧ Rd w a1 n1 (L.getD k ([], [])).1 ∧ Ri w a2 n2 (L.getD k ([], [])).2 ∧ n1 ≤ 9223372036854775807 ∧ n2 ≤ 9223372036854775807 := by
  rcases h.cases with ⟨h0, _⟩ | ⟨b, off, e, _, _, _, hc⟩
  · omega
  · exact ⟨b, off, e, hc k hk⟩
theorem Hs.at {w : World} {a : Option Addr} {n : Nat} {H : List M.Hd} (h : Hs w a n H) {k : Nat} (hk : k < n) : ∃ b off, a = some ⟨b, off, none⟩ ∧ w.cell? ⟨b, off + k * 2, none⟩ = some (.string (H.getD k M.hd0).1) ∧ w.cell? ⟨b, off + k * 2 + 1, none⟩ = some (.int .i64 (H.getD k M.hd0).2) := by
  rcases h.cases with ⟨h0, _⟩ | ⟨b, off, e, _, _, _, hc⟩
  · omega
  · exact ⟨b, off, e, (hc k hk).1, (hc k hk).2.1⟩

set_option maxHeartbeats 8000000 in
theorem srepos_yes (a a' : Option Addr) (n cap cap' : Nat) (C : List M.Com) (a2 a2' : Option Addr) (n2 cap2 cap2' : Nat) (H : List M.Hd) (w : World) (hC : Cm w a n C) (hC' : Cm w a' n C) (hn : n ≤ 9223372036854775807) (hH : Hs w a2 n2 H) (hH' : Hs w a2' n2 H) (hn2 : n2 ≤ 9223372036854775807) :
    Calls Try.prog 36 #[.agg #[.slice a n cap, .slice a2 n2 cap2], .agg #[.slice a' n cap', .slice a2' n2 cap2']] w fun e w' => e = .returned (.bool true) ∧ Below w.heap.size w w' := by
  obtain ⟨p, hp⟩ : ∃ p, p = w.heap.size := ⟨_, rfl⟩
  have I0 := InBox.new w a n cap C a2 n2 cap2 H hC hH
  have hb0 : Below w.heap.size w (w.alloc (.cells #[.slice a n cap, .slice a2 n2 cap2] 40)) := (Below.refl _ _).alloc (Nat.le_refl _) _
  have I1 := InBox.new (w.alloc (.cells #[.slice a n cap, .slice a2 n2 cap2] 40)) a' n cap' C a2' n2 cap2' H (hC'.below hb0 (Nat.le_refl _)) (hH'.below hb0 (Nat.le_refl _))
  obtain ⟨W, hW⟩ : ∃ W, W = (w.alloc (.cells #[.slice a n cap, .slice a2 n2 cap2] 40)).alloc (.cells #[.slice a' n cap', .slice a2' n2 cap2'] 40) := ⟨_, rfl⟩
  have I0 := I0.below (w' := W) (by rw [hW]; exact (Below.refl _ _).alloc (Nat.le_refl _) _)
  have hb : Below w.heap.size w W := by rw [hW]; exact hb0.alloc (by simp) _
  rw [show (w.alloc (.cells #[.slice a n cap, .slice a2 n2 cap2] 40)).heap.size = p + 1 by rw [hp]; simp, ← hW] at I1
  rw [← hp] at I0
  have q0 := I0.c0
  have q1 := I0.c1
  have r0 := I1.c0
  have r1 := I1.c1
  have HI0 : Aside (InBox W p a n cap C a2 n2 cap2 H) := I0
  have HI1 : Aside (InBox W (p + 1) a' n cap' C a2' n2 cap2' H) := I1
  have HW : Hid (W = (w.alloc (.cells #[.slice a n cap, .slice a2 n2 cap2] 40)).alloc (.cells #[.slice a' n cap', .slice a2' n2 cap2'] 40)) := hW
  have HP : Aside (p = w.heap.size) := hp
  clear hW hp I0 I1 hC hH hC' hH' hb0
  go_enter Try.func36, Try.ntmps36
  go_wp2_with fail
  rw [← HW.out, ← HP.out]
  go_wp2
  go_loopg [5] n (fun g i wr => ∃ k : Nat, k + g = n ∧ i = .int .i64 k ∧ Below W.heap.size W wr)
  case atStart => exact ⟨0, by omega, rfl, Below.refl _ _⟩
  case round =>
    obtain ⟨k, hk, rfl, hbel⟩ := hrel
    have J0 := HI0.out.below hbel
    have J1 := HI1.out.below hbel
    have f0 := J0.c0
    have f1 := J1.c0
    by_cases hlt : k < n
    · obtain ⟨b, off, rfl, a1, n1, c1, a3, n3, c3, t0, t1, s0, s1, m0, m1⟩ := J0.cm.at hlt
      obtain ⟨b', off', rfl, a1', n1', c1', a3', n3', c3', t0', t1', s0', s1', m0', m1'⟩ := J1.cm.at hlt
      obtain rfl : n1 = n1' := by rw [← s0.1, ← s0'.1]
      obtain rfl : n3 = n3' := by rw [← s1.1, ← s1'.1]
      have HS1 : Hid (∀ m, Calls Try.prog 48 #[.slice a1 n1 c1, .slice a1' n1 c1'] (wr.drewN m) fun e w' => e = .returned (.bool true) ∧ ∃ m', w' = (wr.drewN m).drewN m') := fun m => same_yes a1 a1' n1 c1 c1' _ (wr.drewN m) (s0.below (drewN_below wr m) (Nat.le_refl _)) (s0'.below (drewN_below wr m) (Nat.le_refl _)) m0
      have HS2 : Hid (∀ m, Calls Try.prog 10 #[.slice a3 n3 c3, .slice a3' n3 c3'] (wr.drewN m) fun e w' => e = .returned (.bool true) ∧ ∃ m', w' = (wr.drewN m).drewN m') := fun m => isame_yes a3 a3' n3 c3 c3' _ (wr.drewN m) (s1.below (drewN_below wr m) (Nat.le_refl _)) (s1'.below (drewN_below wr m) (Nat.le_refl _)) m1
      have hki : (k : Int) < (n : Int) := by omega
      clear s0 s1 s0' s1' J0 J1 q0 q1 r0 r1
      go_wp2_with fail
      go_quiet ((first | (go_at_call 48; exact Calls.quiet_of (HS1.out _)) | (go_at_call 10; exact Calls.quiet_of (HS2.out _))))
      go_wp2
      go_roundg (gk - 1)
      case measure => omega
      case rel => exact ⟨k + 1, by omega, by go_num, below_drewN hbel _⟩
    · have hkk : decide ((k : Int) < (n : Int)) = false := by simp; omega
      obtain ⟨V, hV⟩ : ∃ V, V = wr := ⟨_, rfl⟩
      rw [← hV] at J0 J1 f0 f1 hbel ⊢
      have g0 := J0.c1
      have g1 := J1.c1
      have HJ0 : Aside (InBox V p a n cap C a2 n2 cap2 H) := J0
      have HJ1 : Aside (InBox V (p + 1) a' n cap' C a2' n2 cap2' H) := J1
      have hbw : Below w.heap.size w V := hb.trans (hbel.mono hb.size)
      clear hV J0 J1 q0 q1 r0 r1
      go_wp2
      go_loopg [6] n2 (fun g i wr => ∃ k : Nat, k + g = n2 ∧ i = .int .i64 k ∧ Below V.heap.size V wr)
      case atStart => exact ⟨0, by omega, rfl, Below.refl _ _⟩
      case round =>
        obtain ⟨k, hk, rfl, hbel⟩ := hrel
        have J0 := HJ0.out.below hbel
        have J1 := HJ1.out.below hbel
        have h0 := J0.c1
        have h1 := J1.c1
        by_cases hlt : k < n2
        · obtain ⟨b, off, rfl, t0, t1⟩ := J0.hs.at hlt
          obtain ⟨b', off', rfl, t0', t1'⟩ := J1.hs.at hlt
          obtain ⟨x, hx⟩ : ∃ x, x = H.getD k M.hd0 := ⟨_, rfl⟩
          rw [← hx] at t0 t1 t0' t1'
          have hki : (k : Int) < (n2 : Int) := by omega
          clear hx J0 J1 g0 g1 f0 f1
          go_wp2_with fail
          go_quiet (fail)
          go_wp2
          go_roundg (gk - 1)
          case measure => omega
          case rel => exact ⟨k + 1, by omega, by go_num, below_drewN hbel _⟩
        · have hkk : decide ((k : Int) < (n2 : Int)) = false := by simp; omega
          go_wp2
          go_ret
          exact ⟨rfl, hbw.trans (hbel.mono hbw.size)⟩
end Go.Proofs.Ytcgpgflnihjpiae
