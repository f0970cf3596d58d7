/- repo.Check, repo.Head. -/
import Derived.Test.YtcgpgflnihjpiaeDag1
import Derived.Test.YtcgpgflnihjpiaeHeads1
import Derived.Test.YtcgpgflnihjpiaeName1
import Derived.Test.YtcgpgflnihjpiaeCross
namespace Go.Proofs.Ytcgpgflnihjpiae
open Go.RowKit Go.Shelf

theorem check1_any (x : M.Hd) (w : World) (hm : x.1.size ≤ 9223372036854775807) :
    Calls Try.prog 39 #[.agg #[.string x.1, .int .i64 x.2]] w fun e w' => e = .returned (.bool (!M.nam x.1)) ∧ Below w.heap.size w w' := by
  obtain ⟨W, hW⟩ : ∃ W, W = w.alloc (.cells #[.string x.1, .int .i64 x.2] 59) := ⟨_, rfl⟩
  have hb : Below w.heap.size w W := by rw [hW]; exact (Below.refl _ _).alloc (Nat.le_refl _) _
  have HN : Hid (Calls Try.prog 40 #[.string x.1] W fun e w' => e = .returned (.bool (M.nam x.1)) ∧ Below W.heap.size W w') := isName_any x.1 W hm
  have HW : Hid (W = w.alloc (.cells #[.string x.1, .int .i64 x.2] 59)) := hW
  clear hW
  go_enter Try.func39, Try.ntmps39
  go_wp2_with fail
  rw [← HW.out]
  refine HN.out.mono ?_
  rintro e w' ⟨rfl, hb1⟩
  go_wp2
  go_ret
  exact ⟨rfl, dbelow2 hb hb1⟩

theorem check2_any (x : M.Hd) (p n cap : Nat) (a : Option Addr) (w : World) (hp : w.cell? ⟨p, 0, none⟩ = some (.slice a n cap)) (hpl : p < w.heap.size) :
    Calls Try.prog 41 #[.agg #[.string x.1, .int .i64 x.2], .pointer (some ⟨p, 0, none⟩)] w fun e w' => e = .returned (.bool (!decide (0 ≤ x.2 ∧ x.2 < (n : Int)))) ∧ Below w.heap.size w w' := by
  have hb : Below w.heap.size w (w.alloc (.cells #[.string x.1, .int .i64 x.2] 59)) := (Below.refl _ _).alloc (Nat.le_refl _) _
  have hp1 : (w.alloc (.cells #[.string x.1, .int .i64 x.2] 59)).cell? ⟨p, 0, none⟩ = some (.slice a n cap) := (hb.cell (p := ⟨p, 0, none⟩) hpl).trans hp
  go_enter Try.func41, Try.ntmps41
  go_wp2
  all_goals (go_ret; exact ⟨ret_bool (by rw [Bool.eq_iff_iff]; simp; try omega), hb⟩)

theorem rise_none (a : Option Addr) (cap : Nat) (w : World) :
    Calls Try.prog 42 #[.slice a 0 cap] w fun e w' => e = .returned (.bool true) ∧ w' = w := by
  go_enter Try.func42, Try.ntmps42
  go_wp2
  refine wp_loop_rounds 1 ?_
  rw [rounds_succ]
  go_wp2
  go_ret
  exact ⟨rfl, rfl⟩
set_option maxHeartbeats 2000000 in
theorem rise_some (b off n cap : Nat) (H : List M.Hd) (w : World) (hm : n ≤ 9223372036854775807) (hl : H.length = n) (hB : b < w.heap.size)
    (hc : ∀ i, i < n → w.cell? ⟨b, off + i * 2, none⟩ = some (.string (H.getD i M.hd0).1) ∧ w.cell? ⟨b, off + i * 2 + 1, none⟩ = some (.int .i64 (H.getD i M.hd0).2) ∧ (H.getD i M.hd0).1.size ≤ 9223372036854775807) :
    Calls Try.prog 42 #[.slice (some ⟨b, off, none⟩) n cap] w fun e w' => e = .returned (.bool (M.riseF (ByteArray.mk #[]) H)) ∧ Below w.heap.size w w' := by
  have HC : Aside (∀ i, i < n → w.cell? ⟨b, off + i * 2, none⟩ = some (.string (H.getD i M.hd0).1) ∧ w.cell? ⟨b, off + i * 2 + 1, none⟩ = some (.int .i64 (H.getD i M.hd0).2) ∧ (H.getD i M.hd0).1.size ≤ 9223372036854775807) := hc
  have HL : Aside (H.length = n) := hl
  clear hc hl
  go_enter Try.func42, Try.ntmps42
  go_wp2
  go_loopg [3, 8] n (fun g v i wr => ∃ (k : Nat) (s : ByteArray), k + g = n ∧ i = .int .i64 k ∧ v = .string s ∧ Below w.heap.size w wr ∧ Aside (M.riseF s (H.drop k) = M.riseF (ByteArray.mk #[]) H))
  case atStart => exact ⟨0, _, by omega, rfl, rfl, Below.refl _ _, by simp [Aside]⟩
  case round =>
    obtain ⟨k, s, hk, rfl, rfl, hbel, A⟩ := hrel
    have hsz := hbel.size
    by_cases hlt : k < n
    · obtain ⟨x, hx⟩ : ∃ x, H.getD k M.hd0 = x := ⟨_, rfl⟩
      have c0 : wr.cell? ⟨b, off + k * 2, none⟩ = some (.string x.1) := by rw [hbel.cell (p := ⟨b, off + k * 2, none⟩) hB, (HC.out k hlt).1, hx]
      have c1 : wr.cell? ⟨b, off + k * 2 + 1, none⟩ = some (.int .i64 x.2) := by rw [hbel.cell (p := ⟨b, off + k * 2 + 1, none⟩) hB, (HC.out k hlt).2.1, hx]
      have hA := M.riseF_at s H k (by rw [HL.out]; exact hlt) x hx
      rw [A.out] at hA
      have HA : Aside (M.riseF (ByteArray.mk #[]) H = (M.less s x.1 && M.riseF x.1 (H.drop (k + 1)))) := hA
      have hb1 := hbel.alloc hsz (.cells #[.string x.1, .int .i64 x.2] 59)
      have hle := M.leq_not x.1 s
      obtain ⟨t, ht⟩ : ∃ t, M.less s x.1 = t := ⟨_, rfl⟩
      rw [ht] at hle
      have HT : Aside (M.less s x.1 = t) := ht
      clear hx hA A ht
      have hki : (k : Int) < (n : Int) := by omega
      cases t with
      | true =>
        go_wp2
        go_roundg (gk - 1)
        case measure => omega
        case rel => exact ⟨k + 1, x.1, by omega, by go_num, rfl, hb1, by unfold Aside; rw [HA.out, HT.out]; rfl⟩
      | false =>
        go_wp2
        go_ret
        exact ⟨ret_bool (by rw [HA.out, HT.out]; rfl), hb1⟩
    · go_wp2
      go_ret
      exact ⟨ret_bool (by rw [← A.out]; exact (M.riseF_end s H k (by rw [HL.out]; omega)).symm), hbel⟩
theorem rise_any (a : Option Addr) (n cap : Nat) (H : List M.Hd) (w : World) (h : Hs w a n H) (hm : n ≤ 9223372036854775807) :
    Calls Try.prog 42 #[.slice a n cap] w fun e w' => e = .returned (.bool (M.riseF (ByteArray.mk #[]) H)) ∧ Below w.heap.size w w' := by
  rcases h.cases with ⟨rfl, rfl⟩ | ⟨b, off, rfl, hn, hl, hB, hc⟩
  · refine (rise_none a cap w).mono ?_
    rintro e w' ⟨rfl, rfl⟩
    exact ⟨rfl, Below.refl _ _⟩
  · exact rise_some b off n cap H w hm hl hB hc

set_option maxHeartbeats 4000000 in
theorem rcheck_any (a : Option Addr) (n cap : Nat) (C : List M.Com) (a2 : Option Addr) (n2 cap2 : Nat) (H : List M.Hd) (w : World) (hC : Cm w a n C) (hn : n ≤ 9223372036854775807) (hH : Hs w a2 n2 H) (hn2 : n2 ≤ 9223372036854775807) :
    Calls Try.prog 19 #[.agg #[.slice a n cap, .slice a2 n2 cap2]] w fun e w' => e = .returned (.int .i64 (M.rchk C H)) ∧ Below w.heap.size w w' := by
  obtain ⟨p, hp⟩ : ∃ p, p = w.heap.size := ⟨_, rfl⟩
  obtain ⟨W, hW⟩ : ∃ W, W = w.alloc (.cells #[.slice a n cap, .slice a2 n2 cap2] 40) := ⟨_, rfl⟩
  have hb : Below w.heap.size w W := by rw [hW]; exact (Below.refl _ _).alloc (Nat.le_refl _) _
  have q0 : W.cell? ⟨p, 0, none⟩ = some (.slice a n cap) := by rw [hW, hp]; simp [go_sem]
  have q1 : W.cell? ⟨p, 1, none⟩ = some (.slice a2 n2 cap2) := by rw [hW, hp]; simp [go_sem]
  have hpW : p < W.heap.size := by rw [hW, hp]; simp
  have HD := dcheck_any a n cap C W (hC.below hb (Nat.le_refl _)) hn
  have HHs : Aside (Hs W a2 n2 H) := hH.below hb (Nat.le_refl _)
  have hCl : C.length = n := hC.1
  have hHl : H.length = n2 := hH.1
  have HCl : Aside (C.length = n) := hCl
  have HHl : Aside (H.length = n2) := hHl
  obtain ⟨c, hc⟩ : ∃ c, c = M.dchk C := ⟨_, rfl⟩
  rw [← hc] at HD
  have HCc : Aside (c = M.dchk C) := hc
  have HDD : Hid (Calls Try.prog 11 #[.slice a n cap] W fun e w' => e = .returned (.int .i64 c) ∧ Below W.heap.size W w') := HD
  have HW : Hid (W = w.alloc (.cells #[.slice a n cap, .slice a2 n2 cap2] 40)) := hW
  have HP : Aside (p = w.heap.size) := hp
  clear hW HD hc hCl hHl hC hH hp
  have after : ∀ w1, Below W.heap.size W w1 → w1.cell? ⟨p, 0, none⟩ = some (.slice a n cap) ∧ w1.cell? ⟨p, 1, none⟩ = some (.slice a2 n2 cap2) ∧ Hs w1 a2 n2 H := fun w1 h => ⟨(h.cell (p := ⟨p, 0, none⟩) hpW).trans q0, (h.cell (p := ⟨p, 1, none⟩) hpW).trans q1, HHs.out.below h (Nat.le_refl _)⟩
  have HAf : Aside (∀ w1, Below W.heap.size W w1 → w1.cell? ⟨p, 0, none⟩ = some (.slice a n cap) ∧ w1.cell? ⟨p, 1, none⟩ = some (.slice a2 n2 cap2) ∧ Hs w1 a2 n2 H) := after
  clear after q0 q1
  go_enter Try.func19, Try.ntmps19
  go_wp2_with fail
  rw [← HW.out, ← HP.out]
  refine HDD.out.mono ?_
  rintro e w1 ⟨rfl, hb1⟩
  obtain ⟨d0, d1, hs1⟩ := HAf.out w1 hb1
  by_cases hz : c = 0
  · have hne : (c != 0) = false := by simp [hz]
    have HZ : Aside (M.dchk C = 0) := by unfold Aside; rw [← HCc.out]; exact hz
    clear hz
    by_cases h4 : 4 < n2
    · have E : Aside (M.rchk C H = 2) := by unfold Aside M.rchk; rw [if_neg (by rw [HZ.out]; simp), if_pos (by rw [HHl.out]; exact h4)]
      have h4' : decide (4 < (n2 : Int)) = true := by simp; omega
      go_wp2
      go_ret
      exact ⟨ret_int E.out.symm, hb.trans (hb1.mono hb.size)⟩
    · have h4' : decide (4 < (n2 : Int)) = false := by simp; omega
      have E1 : Aside (M.rchk C H = if M.named H = false then 4 else if M.inside C.length H = false then 1 else if M.rise H = false then 1 else 0) := by unfold Aside M.rchk; rw [if_neg (by rw [HZ.out]; simp), if_neg (by rw [HHl.out]; exact h4)]
      have K1 := hcontains_any 39 [] (enters_of Try.func39 (by kernel_rfl) rfl) (fun h => !M.nam h.1) a2 n2 cap2 H w1 hs1 hn2 (fun W' x hx hbx => check1_any x W' (hs1.small x hx))
      rw [M.named_any] at K1
      obtain ⟨t, ht⟩ : ∃ t, M.named H = t := ⟨_, rfl⟩
      rw [ht] at K1
      have HT : Aside (M.named H = t) := ht
      have KK1 : Hid (Calls Try.prog 38 #[.slice a2 n2 cap2, .func (.func 39) #[] #[]] w1 fun e w' => e = .returned (.bool (!t)) ∧ Below w1.heap.size w1 w') := K1
      clear K1 ht hs1
      go_wp2_with fail
      refine KK1.out.mono ?_
      rintro e w2 ⟨rfl, hb2⟩
      have b2 := dbelow2 hb1 hb2
      obtain ⟨d0', d1', hs2⟩ := HAf.out w2 b2
      have hp2 : p < w2.heap.size := Nat.lt_of_lt_of_le hpW b2.size
      clear d0 d1 hb1 hb2
      cases t with
      | false =>
        go_wp2
        go_ret
        exact ⟨ret_int (by rw [E1.out, HT.out]; rfl), hb.trans (b2.mono hb.size)⟩
      | true =>
        have K2 := hcontains_any 41 [.pointer (some ⟨p, 0, none⟩)] (enters_of Try.func41 (by kernel_rfl) rfl) (fun h => !decide (0 ≤ h.2 ∧ h.2 < (n : Int))) a2 n2 cap2 H w2 hs2 hn2 (fun W' x hx hbx => check2_any x p n cap a W' ((hbx.cell (p := ⟨p, 0, none⟩) hp2).trans d0') (Nat.lt_of_lt_of_le hp2 hbx.size))
        rw [M.inside_any] at K2
        obtain ⟨u, hu⟩ : ∃ u, M.inside n H = u := ⟨_, rfl⟩
        rw [hu] at K2
        have HU : Aside (M.inside C.length H = u) := by unfold Aside; rw [HCl.out]; exact hu
        have KK2 : Hid (Calls Try.prog 38 #[.slice a2 n2 cap2, .func (.func 41) #[] #[.pointer (some ⟨p, 0, none⟩)]] w2 fun e w' => e = .returned (.bool (!u)) ∧ Below w2.heap.size w2 w') := K2
        clear K2 hu hs2
        go_wp2_with fail
        refine KK2.out.mono ?_
        rintro e w3 ⟨rfl, hb3⟩
        have b3 := dbelow2 b2 hb3
        obtain ⟨e0, e1, hs3⟩ := HAf.out w3 b3
        clear d0' d1' hb3 b2
        cases u with
        | false =>
          go_wp2
          go_ret
          exact ⟨ret_int (by rw [E1.out, HT.out, HU.out]; rfl), hb.trans (b3.mono hb.size)⟩
        | true =>
          have K3 := rise_any a2 n2 cap2 H w3 hs3 hn2
          rw [M.riseF_none H HT.out] at K3
          obtain ⟨v, hv⟩ : ∃ v, M.rise H = v := ⟨_, rfl⟩
          rw [hv] at K3
          have HV : Aside (M.rise H = v) := hv
          have KK3 : Hid (Calls Try.prog 42 #[.slice a2 n2 cap2] w3 fun e w' => e = .returned (.bool v) ∧ Below w3.heap.size w3 w') := K3
          clear K3 hv hs3
          go_wp2_with fail
          refine KK3.out.mono ?_
          rintro e w4 ⟨rfl, hb4⟩
          have b4 := dbelow2 b3 hb4
          cases v with
          | false =>
            go_wp2
            go_ret
            exact ⟨ret_int (by rw [E1.out, HT.out, HU.out, HV.out]; rfl), hb.trans (b4.mono hb.size)⟩
          | true =>
            go_wp2
            go_ret
            exact ⟨ret_int (by rw [E1.out, HT.out, HU.out, HV.out]; rfl), hb.trans (b4.mono hb.size)⟩
  · have hne : (c != 0) = true := by simp [hz]
    have E : Aside (M.rchk C H = c) := by unfold Aside M.rchk; rw [if_pos (by rw [← HCc.out]; exact hz)]; exact HCc.out.symm
    clear hz
    go_wp2
    go_ret
    exact ⟨ret_int E.out.symm, hb.trans (hb1.mono hb.size)⟩
end Go.Proofs.Ytcgpgflnihjpiae
