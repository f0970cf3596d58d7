/- repo.Head. -/
import Derived.Test.YtcgpgflnihjpiaeRepo1
import Derived.Test.YtcgpgflnihjpiaeInBox
namespace Go.Proofs.Ytcgpgflnihjpiae
open Go.RowKit Go.Shelf

theorem head1_any (x : M.Hd) (q : Nat) (s : ByteArray) (w : World) (hq : w.cell? ⟨q, 0, none⟩ = some (.string s)) (hql : q < w.heap.size) :
    Calls Try.prog 31 #[.agg #[.string x.1, .int .i64 x.2], .pointer (some ⟨q, 0, none⟩)] w fun e w' => e = .returned (.bool (M.alike x.1 s)) ∧ Below w.heap.size w w' := by
  have hb : Below w.heap.size w (w.alloc (.cells #[.string x.1, .int .i64 x.2] 59)) := (Below.refl _ _).alloc (Nat.le_refl _) _
  have hq1 : (w.alloc (.cells #[.string x.1, .int .i64 x.2] 59)).cell? ⟨q, 0, none⟩ = some (.string s) := (hb.cell (p := ⟨q, 0, none⟩) hql).trans hq
  go_enter Try.func31, Try.ntmps31
  go_wp2
  go_ret
  exact ⟨rfl, hb⟩



set_option maxHeartbeats 4000000 in
theorem head_any (a : Option Addr) (n cap : Nat) (C : List M.Com) (a2 : Option Addr) (n2 cap2 : Nat) (H : List M.Hd) (s : ByteArray) (w : World) (hC : Cm w a n C) (hn : n ≤ 9223372036854775807) (hH : Hs w a2 n2 H) (hn2 : n2 ≤ 9223372036854775807) :
    Calls Try.prog 14 #[.agg #[.slice a n cap, .slice a2 n2 cap2], .string s] w fun e w' => e = .returned (.tuple #[.int .i64 (M.hat C H s), .int .i64 (M.hchk C H s)]) ∧ Below w.heap.size w w' := by
  obtain ⟨p, hp⟩ : ∃ p, p = w.heap.size := ⟨_, rfl⟩
  have I0 := InBox.new w a n cap C a2 n2 cap2 H hC hH
  have hb0 : Below w.heap.size w (w.alloc (.cells #[.slice a n cap, .slice a2 n2 cap2] 40)) := (Below.refl _ _).alloc (Nat.le_refl _) _
  obtain ⟨W, hW⟩ : ∃ W, W = (w.alloc (.cells #[.slice a n cap, .slice a2 n2 cap2] 40)).alloc (.cells #[.string s] 9) := ⟨_, rfl⟩
  have I1 := I0.below (w' := W) (by rw [hW]; exact (Below.refl _ _).alloc (Nat.le_refl _) _)
  have hb : Below w.heap.size w W := by rw [hW]; exact hb0.alloc (by simp) _
  have hq : W.cell? ⟨p + 1, 0, none⟩ = some (.string s) := by rw [hW, hp]; simp [go_sem]
  have hqW : p + 1 < W.heap.size := by rw [hW, hp]; simp
  rw [← hp] at I1
  have q0 := I1.c0
  have q1 := I1.c1
  have HK := rcheck_any a n cap C a2 n2 cap2 H W I1.cm hn I1.hs hn2
  obtain ⟨c, hc⟩ : ∃ c, c = M.rchk C H := ⟨_, rfl⟩
  rw [← hc] at HK
  have HCc : Aside (c = M.rchk C H) := hc
  have HKK : Hid (Calls Try.prog 19 #[.agg #[.slice a n cap, .slice a2 n2 cap2]] W fun e w' => e = .returned (.int .i64 c) ∧ Below W.heap.size W w') := HK
  have HI : Aside (InBox W p a n cap C a2 n2 cap2 H) := I1
  have HQ : Aside (W.cell? ⟨p + 1, 0, none⟩ = some (.string s)) := hq
  have HW : Hid (W = (w.alloc (.cells #[.slice a n cap, .slice a2 n2 cap2] 40)).alloc (.cells #[.string s] 9)) := hW
  have HP : Aside (p = w.heap.size) := hp
  have HHl : Aside (H.length = n2) := hH.1
  clear hW HK hc hp I0 I1 hb0 hC hH hq
  go_enter Try.func14, Try.ntmps14
  go_wp2_with fail
  rw [← HW.out, ← HP.out]
  go_wp2_with fail
  refine HKK.out.mono ?_
  rintro e w1 ⟨rfl, hb1⟩
  have J1 := HI.out.below hb1
  have d0 := J1.c0
  have d1 := J1.c1
  have dq : w1.cell? ⟨p + 1, 0, none⟩ = some (.string s) := (hb1.cell (p := ⟨p + 1, 0, none⟩) hqW).trans HQ.out
  have hq1 : p + 1 < w1.heap.size := Nat.lt_of_lt_of_le hqW hb1.size
  have HJ : Aside (InBox w1 p a n cap C a2 n2 cap2 H) := J1
  clear J1 q0 q1
  by_cases hz : c = 0
  · have hne : (c != 0) = false := by simp [hz]
    have HZ : Aside (M.rchk C H = 0) := by unfold Aside; rw [← HCc.out]; exact hz
    clear hz
    have K := index_any 31 [.pointer (some ⟨p + 1, 0, none⟩)] (enters_of Try.func31 (by kernel_rfl) rfl) (fun h => M.alike h.1 s) a2 n2 cap2 H w1 HJ.out.hs hn2 (fun W' x hx hbx => head1_any x (p + 1) s W' ((hbx.cell (p := ⟨p + 1, 0, none⟩) hq1).trans dq) (Nat.lt_of_lt_of_le hq1 hbx.size))
    have KK : Hid (Calls Try.prog 30 #[.slice a2 n2 cap2, .func (.func 31) #[] #[.pointer (some ⟨p + 1, 0, none⟩)]] w1 fun e w' => e = .returned (.int .i64 (M.plc H s)) ∧ Below w1.heap.size w1 w') := K
    have hpl := M.plc_lt H s
    obtain ⟨i, hi⟩ : ∃ i, M.plc H s = i := ⟨_, rfl⟩
    rw [hi] at KK hpl
    rw [HHl.out] at hpl
    have HIi : Aside (M.plc H s = i) := hi
    clear K hi dq
    go_wp2_with fail
    refine KK.out.mono ?_
    rintro e w2 ⟨rfl, hb2⟩
    have b2 := dbelow2 hb1 hb2
    have J2 := HJ.out.below hb2
    have e0 := J2.c0
    have e1 := J2.c1
    clear d0 d1
    rcases hpl with rfl | ⟨h0, h1⟩
    · have E : Aside (M.hchk C H s = 5) := by unfold Aside M.hchk; rw [if_neg (by rw [HZ.out]; simp), HIi.out, if_pos (by omega)]
      clear J2
      go_wp2
      go_ret2
      exact ⟨ret_pair (M.hat_zero (by rw [E.out]; simp)).symm E.out.symm, hb.trans (b2.mono hb.size)⟩
    · obtain ⟨k, rfl⟩ : ∃ k : Nat, i = (k : Int) := ⟨i.toNat, by omega⟩
      have hk : k < n2 := by omega
      have E : Aside (M.hchk C H s = 0) := by unfold Aside M.hchk; rw [if_neg (by rw [HZ.out]; simp), HIi.out, if_neg (by omega)]
      obtain ⟨x, hx⟩ : ∃ x, (H.getD k M.hd0).2 = x := ⟨_, rfl⟩
      have E2 : Aside (M.hat C H s = x) := by unfold Aside M.hat; rw [if_neg (by rw [E.out]; simp), HIi.out, ← hx]; rfl
      obtain ⟨hb3, ho, rfl, c3⟩ : ∃ b off, a2 = some ⟨b, off, none⟩ ∧ w2.cell? ⟨b, off + k * 2 + 1, none⟩ = some (.int .i64 x) := by
        rcases J2.hs.cases with ⟨h0, _⟩ | ⟨b, off, ea, _, _, hB, hc⟩
        · omega
        · exact ⟨b, off, ea, by rw [(hc k hk).2.1, hx]⟩
      have hlt0 : decide ((k : Int) < 0) = false := by simp
      clear J2 hx h0
      go_wp2
      go_ret2
      exact ⟨ret_pair E2.out.symm E.out.symm, hb.trans (b2.mono hb.size)⟩
  · have hne : (c != 0) = true := by simp [hz]
    have E : Aside (M.hchk C H s = c) := by unfold Aside M.hchk; rw [if_pos (by rw [← HCc.out]; exact hz)]; exact HCc.out.symm
    have HZ : Aside (c ≠ 0) := hz
    clear hz
    go_wp2
    go_ret2
    exact ⟨ret_pair (M.hat_zero (by rw [E.out]; exact HZ.out)).symm E.out.symm, hb.trans (hb1.mono hb.size)⟩
end Go.Proofs.Ytcgpgflnihjpiae
