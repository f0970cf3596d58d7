/- The reference's RepoError, headAt, HeadOf. -/
import Derived.Test.YtcgpgflnihjpiaeDagR
import Derived.Test.YtcgpgflnihjpiaeRName
import Derived.Test.YtcgpgflnihjpiaeHeads1
import Derived.Test.YtcgpgflnihjpiaeInBox
namespace Go.Proofs.Ytcgpgflnihjpiae
open Go.RowKit

set_option maxHeartbeats 8000000 in
theorem rerror_any (a : Option Addr) (n cap : Nat) (C : List M.Com) (a2 : Option Addr) (n2 cap2 : Nat) (H : List M.Hd) (w : World) (hC : Cm w a n C) (hn : n ≤ 9223372036854775807) (hH : Hs w a2 n2 H) (hn2 : n2 ≤ 9223372036854775807) :
    Calls Try.prog 20 #[.agg #[.slice a n cap, .slice a2 n2 cap2]] w fun e w' => e = .returned (.int .i64 (M.rchk C H)) ∧ Below w.heap.size w w' := by
  obtain ⟨p, hp⟩ : ∃ p, p = w.heap.size := ⟨_, rfl⟩
  have I0 := InBox.new w a n cap C a2 n2 cap2 H hC hH
  obtain ⟨W, hW⟩ : ∃ W, W = w.alloc (.cells #[.slice a n cap, .slice a2 n2 cap2] 40) := ⟨_, rfl⟩
  have hb : Below w.heap.size w W := by rw [hW]; exact (Below.refl _ _).alloc (Nat.le_refl _) _
  rw [← hW, ← hp] at I0
  have q0 := I0.c0
  have HD := cerror_any a n cap C W I0.cm hn
  obtain ⟨c, hc⟩ : ∃ c, c = M.dchk C := ⟨_, rfl⟩
  rw [← hc] at HD
  have HCc : Aside (c = M.dchk C) := hc
  have HDD : Hid (Calls Try.prog 23 #[.slice a n cap] W fun e w' => e = .returned (.int .i64 c) ∧ Below W.heap.size W w') := HD
  have HI : Aside (InBox W p a n cap C a2 n2 cap2 H) := I0
  have HW : Hid (W = w.alloc (.cells #[.slice a n cap, .slice a2 n2 cap2] 40)) := hW
  have HP : Aside (p = w.heap.size) := hp
  have HHl : Aside (H.length = n2) := hH.1
  have HCl : Aside (C.length = n) := hC.1
  clear hW HD hc hp I0 hC hH
  go_enter Try.func20, Try.ntmps20
  go_wp2_with fail
  rw [← HW.out, ← HP.out]
  refine HDD.out.mono ?_
  rintro e w1 ⟨rfl, hb1⟩
  have J1 := HI.out.below hb1
  have d0 := J1.c0
  have d1 := J1.c1
  have HJ : Aside (InBox w1 p a n cap C a2 n2 cap2 H) := J1
  have hbw1 : Below w.heap.size w w1 := hb.trans (hb1.mono hb.size)
  clear J1 q0 hb1
  by_cases hz : c = 0
  · have hne : (c != 0) = false := by simp [hz]
    have HZ : Aside (M.dchk C = 0) := by unfold Aside; rw [← HCc.out]; exact hz
    clear hz
    by_cases h4 : 4 < n2
    · have E : Aside (M.rchk C H = 2) := by unfold Aside M.rchk; rw [if_neg (by rw [HZ.out]; simp), if_pos (by rw [HHl.out]; exact h4)]
      have h4' : decide (4 < (n2 : Int)) = true := by simp; omega
      go_wp2
      go_ret
      exact ⟨ret_int E.out.symm, hbw1⟩
    · have h4' : decide (4 < (n2 : Int)) = false := by simp; omega
      have E1 : Aside (M.rchk C H = if M.named H = false then 4 else if M.inside C.length H = false then 1 else if M.rise H = false then 1 else 0) := by unfold Aside M.rchk; rw [if_neg (by rw [HZ.out]; simp), if_neg (by rw [HHl.out]; exact h4)]
      have hn14 : n ≤ 14 := by rw [← HCl.out]; exact (M.dchk_zero HZ.out).1
      go_wp2
      go_loopg [4] n2 (fun g i wr => ∃ (k : Nat), k + g = n2 ∧ i = .int .i64 k ∧ Below w1.heap.size w1 wr ∧ Aside (∀ j, j < k → M.nam (H.getD j M.hd0).1 = true))
      case atStart => exact ⟨0, by omega, rfl, Below.refl _ _, fun j hj => by omega⟩
      case round =>
        obtain ⟨k, hk, rfl, hbel, A⟩ := hrel
        have J2 := HJ.out.below hbel
        have e1 := J2.c1
        have hbw : Below w.heap.size w wr := hbw1.trans (hbel.mono hbw1.size)
        by_cases hlt : k < n2
        · obtain ⟨x, hx⟩ : ∃ x, H.getD k M.hd0 = x := ⟨_, rfl⟩
          obtain ⟨b, off, rfl, c3, hsz⟩ : ∃ b off, a2 = some ⟨b, off, none⟩ ∧ wr.cell? ⟨b, off + k * 2, none⟩ = some (.string x.1) ∧ x.1.size ≤ 9223372036854775807 := by
            rcases J2.hs.cases with ⟨h0, _⟩ | ⟨b, off, ea, _, _, hB, hc⟩
            · omega
            · exact ⟨b, off, ea, by rw [(hc k hlt).1, hx], by have := (hc k hlt).2.2; rw [hx] at this; exact this⟩
          have hN := rname_any x.1 wr hsz
          obtain ⟨t, ht⟩ : ∃ t, M.nam x.1 = t := ⟨_, rfl⟩
          rw [ht] at hN
          have HN : Hid (Calls Try.prog 43 #[.string x.1] wr fun e w' => e = .returned (.bool t) ∧ Below wr.heap.size wr w') := hN
          have HT : Aside (M.nam (H.getD k M.hd0).1 = t) := by unfold Aside; rw [hx]; exact ht
          have hki : (k : Int) < (n2 : Int) := by omega
          clear hx hN ht J2
          go_wp2_with fail
          refine HN.out.mono ?_
          rintro e w3 ⟨rfl, hb3⟩
          cases t with
          | true =>
            go_wp2
            go_roundg (gk - 1)
            case measure => omega
            case rel => exact ⟨k + 1, by omega, by go_num, dbelow2 hbel hb3, fun j hj => by
              by_cases e : j = k
              · subst e; exact HT.out
              · exact A.out j (by omega)⟩
          | false =>
            go_wp2
            go_ret
            exact ⟨ret_int (by rw [E1.out, if_pos (M.named_no (by rw [HHl.out]; exact hlt) HT.out)]), hbw.trans (hb3.mono hbw.size)⟩
        · obtain rfl : k = n2 := by omega
          have E2 : Aside (M.rchk C H = if M.inside C.length H = false then 1 else if M.rise H = false then 1 else 0) := by
            unfold Aside
            rw [E1.out, if_neg (by rw [M.named_at (fun j hj => A.out j (by rw [← HHl.out]; exact hj))]; simp)]
          have hkk : decide ((k : Int) < (k : Int)) = false := by simp
          obtain ⟨w4, hw4⟩ : ∃ w4, w4 = wr := ⟨_, rfl⟩
          rw [← hw4] at hbw J2 e1 ⊢
          have HJ4 : Aside (InBox w4 p a n cap C a2 k cap2 H) := J2
          clear A E1 hw4 hbel J2
          go_wp2
          go_loopg [5] k (fun g i ws => ∃ (j : Nat), j + g = k ∧ i = .int .i64 j ∧ Below w4.heap.size w4 ws ∧ Aside (M.fineTo C.length H j))
          case atStart => exact ⟨0, by omega, rfl, Below.refl _ _, fun j hj => by omega⟩
          case round =>
            obtain ⟨j, hj, rfl, hbel, A⟩ := hrel
            have J5 := HJ4.out.below hbel
            have f0 := J5.c0
            have f1 := J5.c1
            have hbs : Below w.heap.size w wr := hbw.trans (hbel.mono hbw.size)
            by_cases hjl : j < k
            · obtain ⟨x, hx⟩ : ∃ x, H.getD j M.hd0 = x := ⟨_, rfl⟩
              obtain ⟨b, off, rfl, hcc⟩ : ∃ b off, a2 = some ⟨b, off, none⟩ ∧ ∀ i, i < k → wr.cell? ⟨b, off + i * 2, none⟩ = some (.string (H.getD i M.hd0).1) ∧ wr.cell? ⟨b, off + i * 2 + 1, none⟩ = some (.int .i64 (H.getD i M.hd0).2) := by
                rcases J5.hs.cases with ⟨h0, _⟩ | ⟨b, off, ea, _, _, hB, hc⟩
                · omega
                · exact ⟨b, off, ea, fun i hi => ⟨(hc i hi).1, (hc i hi).2.1⟩⟩
              have c3 := (hcc j hjl).1
              have c4 := (hcc j hjl).2
              rw [hx] at c3 c4
              have HX : Aside (H.getD j M.hd0 = x) := hx
              have hji : (j : Int) < (k : Int) := by omega
              have hn1 : IntKind.i64.wrap ((n : Int) - 1) = (n : Int) - 1 := by rw [IntKind.wrap_i64]; omega
              by_cases hin : 0 ≤ x.2 ∧ x.2 < (n : Int)
              · have HW1 : Hid (∀ W, Calls Try.prog 24 #[.int .i64 x.2, .int .i64 0, .int .i64 ((n : Int) - 1)] W fun e w' => e = .returned (.bool true) ∧ w' = W) := fun W => within_yes x.2 0 ((n : Int) - 1) W hin.1 (by omega)
                have HIn : Aside (0 ≤ (H.getD j M.hd0).2 ∧ (H.getD j M.hd0).2 < (C.length : Int)) := by unfold Aside; rw [hx, HCl.out]; exact hin
                cases j with
                | zero =>
                  clear hin hx hcc J5
                  go_wp2_with fail
                  go_quiet ((go_at_call 24; exact Calls.quiet_of_same (HW1.out _)))
                  go_wp2
                  go_roundg (gk - 1)
                  case measure => omega
                  case rel => exact ⟨0 + 1, by omega, by go_num, below_drewN hbel _, M.fineTo_next A.out (fun i hi => by omega) HIn.out⟩
                | succ j =>
                  obtain ⟨y, hy⟩ : ∃ y, H.getD j M.hd0 = y := ⟨_, rfl⟩
                  have c5 := (hcc j (by omega)).1
                  rw [hy] at c5
                  obtain ⟨t, ht⟩ : ∃ t, M.less y.1 x.1 = t := ⟨_, rfl⟩
                  have hlt' : Op.bytesLess y.1.toList x.1.toList = t := ht
                  have HT : Aside (M.less (H.getD j M.hd0).1 (H.getD (j + 1) M.hd0).1 = t) := by unfold Aside; rw [hy, hx]; exact ht
                  have hjw : IntKind.i64.wrap (((j + 1 : Nat) : Int) - 1) = (j : Int) := by rw [IntKind.wrap_i64]; omega
                  have hjk : (j : Int) < (k : Int) := by omega
                  have hj0 : decide ((0 : Int) < ((j + 1 : Nat) : Int)) = true := decide_eq_true (by omega)
                  clear hin hx hcc J5 hy ht
                  cases t with
                  | true =>
                    go_wp2_with fail
                    go_quiet ((go_at_call 24; exact Calls.quiet_of_same (HW1.out _)))
                    go_wp2
                    go_roundg (gk - 1)
                    case measure => omega
                    case rel => exact ⟨j + 1 + 1, by omega, by go_num, below_drewN hbel _, M.fineTo_next A.out (fun i hi => by cases Nat.succ.inj hi; exact HT.out) HIn.out⟩
                  | false =>
                    go_wp2_with fail
                    go_quiet ((go_at_call 24; exact Calls.quiet_of_same (HW1.out _)))
                    go_wp2
                    go_ret
                    have hbad := M.fineTo_bad (n := C.length) (H := H) (k := j + 1) (by rw [HHl.out]; exact hjl) (Or.inl ⟨j, rfl, HT.out⟩)
                    exact ⟨ret_int (by rw [E2.out]; rcases hbad with h | h <;> simp [h]), below_drewN hbs _⟩
              · have HW1 : Hid (∀ W, Calls Try.prog 24 #[.int .i64 x.2, .int .i64 0, .int .i64 ((n : Int) - 1)] W fun e w' => e = .returned (.bool false) ∧ w' = W) := fun W => within_no x.2 0 ((n : Int) - 1) W (by omega)
                have hbad := M.fineTo_bad (n := C.length) (H := H) (k := j) (by rw [HHl.out]; exact hjl) (Or.inr (by rw [hx, HCl.out]; omega))
                have E3 : Aside (M.rchk C H = 1) := by unfold Aside; rw [E2.out]; rcases hbad with h | h <;> simp [h]
                clear hbad
                cases j with
                | zero =>
                  clear hin hx hcc J5
                  go_wp2_with fail
                  go_quiet ((go_at_call 24; exact Calls.quiet_of_same (HW1.out _)))
                  go_wp2
                  go_ret
                  exact ⟨ret_int E3.out.symm, below_drewN hbs _⟩
                | succ j =>
                  obtain ⟨y, hy⟩ : ∃ y, H.getD j M.hd0 = y := ⟨_, rfl⟩
                  have c5 := (hcc j (by omega)).1
                  rw [hy] at c5
                  obtain ⟨t, ht⟩ : ∃ t, Op.bytesLess y.1.toList x.1.toList = t := ⟨_, rfl⟩
                  have hjw : IntKind.i64.wrap (((j + 1 : Nat) : Int) - 1) = (j : Int) := by rw [IntKind.wrap_i64]; omega
                  have hjk : (j : Int) < (k : Int) := by omega
                  have hj0 : decide ((0 : Int) < ((j + 1 : Nat) : Int)) = true := decide_eq_true (by omega)
                  clear hin hx hcc J5 hy
                  cases t with
                  | true =>
                    go_wp2_with fail
                    go_quiet ((go_at_call 24; exact Calls.quiet_of_same (HW1.out _)))
                    go_wp2
                    go_ret
                    exact ⟨ret_int E3.out.symm, below_drewN hbs _⟩
                  | false =>
                    go_wp2_with fail
                    go_quiet ((go_at_call 24; exact Calls.quiet_of_same (HW1.out _)))
                    go_wp2
                    go_ret
                    exact ⟨ret_int E3.out.symm, below_drewN hbs _⟩
            · obtain rfl : j = k := by omega
              have hkk2 : decide ((j : Int) < (j : Int)) = false := by simp
              have hA := A.out
              rw [← HHl.out] at hA
              have E3 : Aside (M.rchk C H = 0) := by unfold Aside; rw [E2.out, (M.fineTo_end hA).1, (M.fineTo_end hA).2]; rfl
              clear hA A J5
              go_wp2
              go_ret
              exact ⟨ret_int E3.out.symm, hbs⟩
  · have hne : (c != 0) = true := by simp [hz]
    have E : Aside (M.rchk C H = c) := by unfold Aside M.rchk; rw [if_pos (by rw [← HCc.out]; exact hz)]; exact HCc.out.symm
    clear hz
    go_wp2
    go_ret
    exact ⟨ret_int E.out.symm, hbw1⟩
end Go.Proofs.Ytcgpgflnihjpiae
