/- repo.Check, repo.Head. -/
import Derived.Test.YtcgpgflnihjpiafGreatBWorkRight01
import Derived.Lib.SliceRun
import Derived.RangeFuncBox
import Derived.Deep.RegionHeld
import Derived.Deep.AppendLies
import Derived.Maps.AppendAt
namespace Go.Proofs.YtcgpgflnihjpiafGreat
open Go.RowKit Go.Shelf

theorem check1_any (x : M.Hd) (w : World) (hm : x.1.size ≤ 9223372036854775807) :
    Calls Tryz.prog 34 #[.agg #[.string x.1, .int .i64 x.2]] w fun e w' => e = .returned (.bool (!M.nam x.1)) ∧ Below w.heap.size w w' := by
  obtain ⟨W, hW⟩ : ∃ W, W = w.alloc (.cells #[.string x.1, .int .i64 x.2] 71) := ⟨_, rfl⟩
  have hb : Below w.heap.size w W := by rw [hW]; exact (Below.refl _ _).alloc (Nat.le_refl _) _
  have HN : Hid (Calls Tryz.prog 35 #[.string x.1] W fun e w' => e = .returned (.bool (M.nam x.1)) ∧ Below W.heap.size W w') := isName_any x.1 W hm
  have HW : Hid (W = w.alloc (.cells #[.string x.1, .int .i64 x.2] 71)) := hW
  clear hW
  go_enter Tryz.func34, Tryz.ntmps34
  go_wp2_with fail
  rw [← HW.out]
  refine HN.out.mono ?_
  rintro e w' ⟨rfl, hb1⟩
  go_wp2
  go_ret
  exact ⟨rfl, dbelow2 hb hb1⟩

theorem check2_any (x : M.Hd) (p n cap : Nat) (a : Option Addr) (w : World) (hp : w.cell? ⟨p, 0, none⟩ = some (.slice a n cap)) (hpl : p < w.heap.size) :
    Calls Tryz.prog 36 #[.agg #[.string x.1, .int .i64 x.2], .pointer (some ⟨p, 0, none⟩)] w fun e w' => e = .returned (.bool (!decide (0 ≤ x.2 ∧ x.2 < (n : Int)))) ∧ Below w.heap.size w w' := by
  have hb : Below w.heap.size w (w.alloc (.cells #[.string x.1, .int .i64 x.2] 71)) := (Below.refl _ _).alloc (Nat.le_refl _) _
  have hp1 : (w.alloc (.cells #[.string x.1, .int .i64 x.2] 71)).cell? ⟨p, 0, none⟩ = some (.slice a n cap) := (hb.cell (p := ⟨p, 0, none⟩) hpl).trans hp
  go_enter Tryz.func36, Tryz.ntmps36
  go_wp2
  all_goals (go_ret; exact ⟨ret_bool (by rw [Bool.eq_iff_iff]; simp; try omega), hb⟩)

theorem rise_none (a : Option Addr) (cap : Nat) (w : World) :
    Calls Tryz.prog 37 #[.slice a 0 cap] w fun e w' => e = .returned (.bool true) ∧ w' = w := by
  go_enter Tryz.func37, Tryz.ntmps37
  go_wp2
  refine wp_loop_rounds 1 ?_
  rw [rounds_succ]
  go_wp2
  go_ret
  exact ⟨rfl, rfl⟩
set_option maxHeartbeats 2000000 in
theorem rise_some (b off n cap : Nat) (H : List M.Hd) (w : World) (hm : n ≤ 9223372036854775807) (hl : H.length = n) (hB : b < w.heap.size)
    (hc : ∀ i, i < n → w.cell? ⟨b, off + i * 2, none⟩ = some (.string (H.getD i M.hd0).1) ∧ w.cell? ⟨b, off + i * 2 + 1, none⟩ = some (.int .i64 (H.getD i M.hd0).2) ∧ (H.getD i M.hd0).1.size ≤ 9223372036854775807) :
    Calls Tryz.prog 37 #[.slice (some ⟨b, off, none⟩) n cap] w fun e w' => e = .returned (.bool (M.riseF (ByteArray.mk #[]) H)) ∧ Below w.heap.size w w' := by
  have HC : Aside (∀ i, i < n → w.cell? ⟨b, off + i * 2, none⟩ = some (.string (H.getD i M.hd0).1) ∧ w.cell? ⟨b, off + i * 2 + 1, none⟩ = some (.int .i64 (H.getD i M.hd0).2) ∧ (H.getD i M.hd0).1.size ≤ 9223372036854775807) := hc
  have HL : Aside (H.length = n) := hl
  clear hc hl
  go_enter Tryz.func37, Tryz.ntmps37
  go_wp2
  go_loopg [3, 8] n (fun g v i wr => ∃ (k : Nat) (s : ByteArray), k + g = n ∧ i = .int .i64 k ∧ v = .string s ∧ Below w.heap.size w wr ∧ Aside (M.riseF s (H.drop k) = M.riseF (ByteArray.mk #[]) H))
  case atStart => exact ⟨0, _, by omega, rfl, rfl, Below.refl _ _, by simp [Aside]⟩
  case round =>
    obtain ⟨k, s, hk, rfl, rfl, hbel, A⟩ := hrel
    have hsz := hbel.size
    by_cases hlt : k < n
    · obtain ⟨x, hx⟩ : ∃ x, H.getD k M.hd0 = x := ⟨_, rfl⟩
      have c0 : wr.cell? ⟨b, off + k * 2, none⟩ = some (.string x.1) := by rw [hbel.cell (p := ⟨b, off + k * 2, none⟩) hB, (HC.out k hlt).1, hx]
      have c1 : wr.cell? ⟨b, off + k * 2 + 1, none⟩ = some (.int .i64 x.2) := by rw [hbel.cell (p := ⟨b, off + k * 2 + 1, none⟩) hB, (HC.out k hlt).2.1, hx]
      have hA := M.riseF_at s H k (by rw [HL.out]; exact hlt) x hx
      rw [A.out] at hA
      have HA : Aside (M.riseF (ByteArray.mk #[]) H = (M.less s x.1 && M.riseF x.1 (H.drop (k + 1)))) := hA
      have hb1 := hbel.alloc hsz (.cells #[.string x.1, .int .i64 x.2] 71)
      have hle := M.leq_not x.1 s
      obtain ⟨t, ht⟩ : ∃ t, M.less s x.1 = t := ⟨_, rfl⟩
      rw [ht] at hle
      have HT : Aside (M.less s x.1 = t) := ht
      clear hx hA A ht
      have hki : (k : Int) < (n : Int) := by omega
      cases t with
      | true =>
        go_wp2
        go_roundg (gk - 1)
        case measure => omega
        case rel => exact ⟨k + 1, x.1, by omega, by go_num, rfl, hb1, by unfold Aside; rw [HA.out, HT.out]; rfl⟩
      | false =>
        go_wp2
        go_ret
        exact ⟨ret_bool (by rw [HA.out, HT.out]; rfl), hb1⟩
    · go_wp2
      go_ret
      exact ⟨ret_bool (by rw [← A.out]; exact (M.riseF_end s H k (by rw [HL.out]; omega)).symm), hbel⟩
theorem rise_any (a : Option Addr) (n cap : Nat) (H : List M.Hd) (w : World) (h : Hs w a n H) (hm : n ≤ 9223372036854775807) :
    Calls Tryz.prog 37 #[.slice a n cap] w fun e w' => e = .returned (.bool (M.riseF (ByteArray.mk #[]) H)) ∧ Below w.heap.size w w' := by
  rcases h.cases with ⟨rfl, rfl⟩ | ⟨b, off, rfl, hn, hl, hB, hc⟩
  · refine (rise_none a cap w).mono ?_
    rintro e w' ⟨rfl, rfl⟩
    exact ⟨rfl, Below.refl _ _⟩
  · exact rise_some b off n cap H w hm hl hB hc

set_option maxHeartbeats 4000000 in
theorem rcheck_any (a : Option Addr) (n cap : Nat) (C : List M.Com) (a2 : Option Addr) (n2 cap2 : Nat) (H : List M.Hd) (w : World) (hC : Cm w a n C) (hn : n ≤ 9223372036854775807) (hH : Hs w a2 n2 H) (hn2 : n2 ≤ 9223372036854775807) :
    Calls Tryz.prog 11 #[.agg #[.slice a n cap, .slice a2 n2 cap2]] w fun e w' => e = .returned (.int .i64 (M.rchk C H)) ∧ Below w.heap.size w w' := by
  obtain ⟨p, hp⟩ : ∃ p, p = w.heap.size := ⟨_, rfl⟩
  obtain ⟨W, hW⟩ : ∃ W, W = w.alloc (.cells #[.slice a n cap, .slice a2 n2 cap2] 25) := ⟨_, rfl⟩
  have hb : Below w.heap.size w W := by rw [hW]; exact (Below.refl _ _).alloc (Nat.le_refl _) _
  have q0 : W.cell? ⟨p, 0, none⟩ = some (.slice a n cap) := by rw [hW, hp]; simp [go_sem]
  have q1 : W.cell? ⟨p, 1, none⟩ = some (.slice a2 n2 cap2) := by rw [hW, hp]; simp [go_sem]
  have hpW : p < W.heap.size := by rw [hW, hp]; simp
  have HD := dcheck_any a n cap C W (hC.below hb (Nat.le_refl _)) hn
  have HHs : Aside (Hs W a2 n2 H) := hH.below hb (Nat.le_refl _)
  have hCl : C.length = n := hC.1
  have hHl : H.length = n2 := hH.1
  have HCl : Aside (C.length = n) := hCl
  have HHl : Aside (H.length = n2) := hHl
  obtain ⟨c, hc⟩ : ∃ c, c = M.dchk C := ⟨_, rfl⟩
  rw [← hc] at HD
  have HCc : Aside (c = M.dchk C) := hc
  have HDD : Hid (Calls Tryz.prog 32 #[.slice a n cap] W fun e w' => e = .returned (.int .i64 c) ∧ Below W.heap.size W w') := HD
  have HW : Hid (W = w.alloc (.cells #[.slice a n cap, .slice a2 n2 cap2] 25)) := hW
  have HP : Aside (p = w.heap.size) := hp
  clear hW HD hc hCl hHl hC hH hp
  have after : ∀ w1, Below W.heap.size W w1 → w1.cell? ⟨p, 0, none⟩ = some (.slice a n cap) ∧ w1.cell? ⟨p, 1, none⟩ = some (.slice a2 n2 cap2) ∧ Hs w1 a2 n2 H := fun w1 h => ⟨(h.cell (p := ⟨p, 0, none⟩) hpW).trans q0, (h.cell (p := ⟨p, 1, none⟩) hpW).trans q1, HHs.out.below h (Nat.le_refl _)⟩
  have HAf : Aside (∀ w1, Below W.heap.size W w1 → w1.cell? ⟨p, 0, none⟩ = some (.slice a n cap) ∧ w1.cell? ⟨p, 1, none⟩ = some (.slice a2 n2 cap2) ∧ Hs w1 a2 n2 H) := after
  clear after q0 q1
  go_enter Tryz.func11, Tryz.ntmps11
  go_wp2_with fail
  rw [← HW.out, ← HP.out]
  refine HDD.out.mono ?_
  rintro e w1 ⟨rfl, hb1⟩
  obtain ⟨d0, d1, hs1⟩ := HAf.out w1 hb1
  by_cases hz : c = 0
  · have hne : (c != 0) = false := by simp [hz]
    have HZ : Aside (M.dchk C = 0) := by unfold Aside; rw [← HCc.out]; exact hz
    clear hz
    by_cases h4 : 4 < n2
    · have E : Aside (M.rchk C H = 2) := by unfold Aside M.rchk; rw [if_neg (by rw [HZ.out]; simp), if_pos (by rw [HHl.out]; exact h4)]
      have h4' : decide (4 < (n2 : Int)) = true := by simp; omega
      go_wp2
      go_ret
      exact ⟨ret_int E.out.symm, hb.trans (hb1.mono hb.size)⟩
    · have h4' : decide (4 < (n2 : Int)) = false := by simp; omega
      have E1 : Aside (M.rchk C H = if M.named H = false then 4 else if M.inside C.length H = false then 1 else if M.rise H = false then 1 else 0) := by unfold Aside M.rchk; rw [if_neg (by rw [HZ.out]; simp), if_neg (by rw [HHl.out]; exact h4)]
      have K1 := hcontains_any 34 [] (enters_of Tryz.func34 (by kernel_rfl) rfl) (fun h => !M.nam h.1) a2 n2 cap2 H w1 hs1 hn2 (fun W' x hx hbx => check1_any x W' (hs1.small x hx))
      rw [M.named_any] at K1
      obtain ⟨t, ht⟩ : ∃ t, M.named H = t := ⟨_, rfl⟩
      rw [ht] at K1
      have HT : Aside (M.named H = t) := ht
      have KK1 : Hid (Calls Tryz.prog 33 #[.slice a2 n2 cap2, .func (.func 34) #[] #[]] w1 fun e w' => e = .returned (.bool (!t)) ∧ Below w1.heap.size w1 w') := K1
      clear K1 ht hs1
      go_wp2_with fail
      refine KK1.out.mono ?_
      rintro e w2 ⟨rfl, hb2⟩
      have b2 := dbelow2 hb1 hb2
      obtain ⟨d0', d1', hs2⟩ := HAf.out w2 b2
      have hp2 : p < w2.heap.size := Nat.lt_of_lt_of_le hpW b2.size
      clear d0 d1 hb1 hb2
      cases t with
      | false =>
        go_wp2
        go_ret
        exact ⟨ret_int (by rw [E1.out, HT.out]; rfl), hb.trans (b2.mono hb.size)⟩
      | true =>
        have K2 := hcontains_any 36 [.pointer (some ⟨p, 0, none⟩)] (enters_of Tryz.func36 (by kernel_rfl) rfl) (fun h => !decide (0 ≤ h.2 ∧ h.2 < (n : Int))) a2 n2 cap2 H w2 hs2 hn2 (fun W' x hx hbx => check2_any x p n cap a W' ((hbx.cell (p := ⟨p, 0, none⟩) hp2).trans d0') (Nat.lt_of_lt_of_le hp2 hbx.size))
        rw [M.inside_any] at K2
        obtain ⟨u, hu⟩ : ∃ u, M.inside n H = u := ⟨_, rfl⟩
        rw [hu] at K2
        have HU : Aside (M.inside C.length H = u) := by unfold Aside; rw [HCl.out]; exact hu
        have KK2 : Hid (Calls Tryz.prog 33 #[.slice a2 n2 cap2, .func (.func 36) #[] #[.pointer (some ⟨p, 0, none⟩)]] w2 fun e w' => e = .returned (.bool (!u)) ∧ Below w2.heap.size w2 w') := K2
        clear K2 hu hs2
        go_wp2_with fail
        refine KK2.out.mono ?_
        rintro e w3 ⟨rfl, hb3⟩
        have b3 := dbelow2 b2 hb3
        obtain ⟨e0, e1, hs3⟩ := HAf.out w3 b3
        clear d0' d1' hb3 b2
        cases u with
        | false =>
          go_wp2
          go_ret
          exact ⟨ret_int (by rw [E1.out, HT.out, HU.out]; rfl), hb.trans (b3.mono hb.size)⟩
        | true =>
          have K3 := rise_any a2 n2 cap2 H w3 hs3 hn2
          rw [M.riseF_none H HT.out] at K3
          obtain ⟨v, hv⟩ : ∃ v, M.rise H = v := ⟨_, rfl⟩
          rw [hv] at K3
          have HV : Aside (M.rise H = v) := hv
          have KK3 : Hid (Calls Tryz.prog 37 #[.slice a2 n2 cap2] w3 fun e w' => e = .returned (.bool v) ∧ Below w3.heap.size w3 w') := K3
          clear K3 hv hs3
          go_wp2_with fail
          refine KK3.out.mono ?_
          rintro e w4 ⟨rfl, hb4⟩
          have b4 := dbelow2 b3 hb4
          cases v with
          | false =>
            go_wp2
            go_ret
            exact ⟨ret_int (by rw [E1.out, HT.out, HU.out, HV.out]; rfl), hb.trans (b4.mono hb.size)⟩
          | true =>
            go_wp2
            go_ret
            exact ⟨ret_int (by rw [E1.out, HT.out, HU.out, HV.out]; rfl), hb.trans (b4.mono hb.size)⟩
  · have hne : (c != 0) = true := by simp [hz]
    have E : Aside (M.rchk C H = c) := by unfold Aside M.rchk; rw [if_pos (by rw [← HCc.out]; exact hz)]; exact HCc.out.symm
    clear hz
    go_wp2
    go_ret
    exact ⟨ret_int E.out.symm, hb.trans (hb1.mono hb.size)⟩
end Go.Proofs.YtcgpgflnihjpiafGreat

/- A repo in its box. -/
namespace Go.Proofs.YtcgpgflnihjpiafGreat
open Go.RowKit

theorem ret_two' {k : IntKind} {v : Value} {b b' : Int} (h : b = b') : Ending.returned (.tuple #[v, .int k b]) = .returned (.tuple #[v, .int k b']) := by rw [h]
theorem ret_pair {k k' : IntKind} {a a' b b' : Int} (h : a = a') (h' : b = b') : Ending.returned (.tuple #[.int k a, .int k' b]) = .returned (.tuple #[.int k a', .int k' b']) := by rw [h, h']
/-- What a call that is handed a repo has of it: its box, its commits, its heads. -/
structure InBox (w : World) (p : Nat) (a : Option Addr) (n cap : Nat) (C : List M.Com) (a2 : Option Addr) (n2 cap2 : Nat) (H : List M.Hd) : Prop where
  c0 : w.cell? ⟨p, 0, none⟩ = some (.slice a n cap)
  c1 : w.cell? ⟨p, 1, none⟩ = some (.slice a2 n2 cap2)
  lt : p < w.heap.size
  cm : Cm w a n C
  hs : Hs w a2 n2 H
theorem InBox.below {w w' : World} {p : Nat} {a : Option Addr} {n cap : Nat} {C : List M.Com} {a2 : Option Addr} {n2 cap2 : Nat} {H : List M.Hd} (h : InBox w p a n cap C a2 n2 cap2 H) (hb : Below w.heap.size w w') : InBox w' p a n cap C a2 n2 cap2 H :=
  ⟨(hb.cell (p := ⟨p, 0, none⟩) h.lt).trans h.c0, (hb.cell (p := ⟨p, 1, none⟩) h.lt).trans h.c1, Nat.lt_of_lt_of_le h.lt hb.size, h.cm.below hb (Nat.le_refl _), h.hs.below hb (Nat.le_refl _)⟩
theorem InBox.new (w : World) (a : Option Addr) (n cap : Nat) (C : List M.Com) (a2 : Option Addr) (n2 cap2 : Nat) (H : List M.Hd) (hC : Cm w a n C) (hH : Hs w a2 n2 H) : InBox (w.alloc (.cells #[.slice a n cap, .slice a2 n2 cap2] 25)) w.heap.size a n cap C a2 n2 cap2 H := by
  have hb : Below w.heap.size w (w.alloc (.cells #[.slice a n cap, .slice a2 n2 cap2] 25)) := (Below.refl _ _).alloc (Nat.le_refl _) _
  exact ⟨by simp [go_sem], by simp [go_sem], by simp, hC.below hb (Nat.le_refl _), hH.below hb (Nat.le_refl _)⟩
theorem M.hat_zero {C : List M.Com} {H : List M.Hd} {s : ByteArray} (h : M.hchk C H s ≠ 0) : M.hat C H s = 0 := by unfold M.hat; rw [if_pos h]
end Go.Proofs.YtcgpgflnihjpiafGreat

/- repo.Head. -/
namespace Go.Proofs.YtcgpgflnihjpiafGreat
open Go.RowKit Go.Shelf

theorem head1_any (x : M.Hd) (q : Nat) (s : ByteArray) (w : World) (hq : w.cell? ⟨q, 0, none⟩ = some (.string s)) (hql : q < w.heap.size) :
    Calls Tryz.prog 39 #[.agg #[.string x.1, .int .i64 x.2], .pointer (some ⟨q, 0, none⟩)] w fun e w' => e = .returned (.bool (M.alike x.1 s)) ∧ Below w.heap.size w w' := by
  have hb : Below w.heap.size w (w.alloc (.cells #[.string x.1, .int .i64 x.2] 71)) := (Below.refl _ _).alloc (Nat.le_refl _) _
  have hq1 : (w.alloc (.cells #[.string x.1, .int .i64 x.2] 71)).cell? ⟨q, 0, none⟩ = some (.string s) := (hb.cell (p := ⟨q, 0, none⟩) hql).trans hq
  go_enter Tryz.func39, Tryz.ntmps39
  go_wp2
  go_ret
  exact ⟨rfl, hb⟩



set_option maxHeartbeats 4000000 in
theorem head_any (a : Option Addr) (n cap : Nat) (C : List M.Com) (a2 : Option Addr) (n2 cap2 : Nat) (H : List M.Hd) (s : ByteArray) (w : World) (hC : Cm w a n C) (hn : n ≤ 9223372036854775807) (hH : Hs w a2 n2 H) (hn2 : n2 ≤ 9223372036854775807) :
    Calls Tryz.prog 13 #[.agg #[.slice a n cap, .slice a2 n2 cap2], .string s] w fun e w' => e = .returned (.tuple #[.int .i64 (M.hat C H s), .int .i64 (M.hchk C H s)]) ∧ Below w.heap.size w w' := by
  obtain ⟨p, hp⟩ : ∃ p, p = w.heap.size := ⟨_, rfl⟩
  have I0 := InBox.new w a n cap C a2 n2 cap2 H hC hH
  have hb0 : Below w.heap.size w (w.alloc (.cells #[.slice a n cap, .slice a2 n2 cap2] 25)) := (Below.refl _ _).alloc (Nat.le_refl _) _
  obtain ⟨W, hW⟩ : ∃ W, W = (w.alloc (.cells #[.slice a n cap, .slice a2 n2 cap2] 25)).alloc (.cells #[.string s] 9) := ⟨_, rfl⟩
  have I1 := I0.below (w' := W) (by rw [hW]; exact (Below.refl _ _).alloc (Nat.le_refl _) _)
  have hb : Below w.heap.size w W := by rw [hW]; exact hb0.alloc (by simp) _
  have hq : W.cell? ⟨p + 1, 0, none⟩ = some (.string s) := by rw [hW, hp]; simp [go_sem]
  have hqW : p + 1 < W.heap.size := by rw [hW, hp]; simp
  rw [← hp] at I1
  have q0 := I1.c0
  have q1 := I1.c1
  have HK := rcheck_any a n cap C a2 n2 cap2 H W I1.cm hn I1.hs hn2
  obtain ⟨c, hc⟩ : ∃ c, c = M.rchk C H := ⟨_, rfl⟩
  rw [← hc] at HK
  have HCc : Aside (c = M.rchk C H) := hc
  have HKK : Hid (Calls Tryz.prog 11 #[.agg #[.slice a n cap, .slice a2 n2 cap2]] W fun e w' => e = .returned (.int .i64 c) ∧ Below W.heap.size W w') := HK
  have HI : Aside (InBox W p a n cap C a2 n2 cap2 H) := I1
  have HQ : Aside (W.cell? ⟨p + 1, 0, none⟩ = some (.string s)) := hq
  have HW : Hid (W = (w.alloc (.cells #[.slice a n cap, .slice a2 n2 cap2] 25)).alloc (.cells #[.string s] 9)) := hW
  have HP : Aside (p = w.heap.size) := hp
  have HHl : Aside (H.length = n2) := hH.1
  clear hW HK hc hp I0 I1 hb0 hC hH hq
  go_enter Tryz.func13, Tryz.ntmps13
  go_wp2_with fail
  rw [← HW.out, ← HP.out]
  go_wp2_with fail
  refine HKK.out.mono ?_
  rintro e w1 ⟨rfl, hb1⟩
  have J1 := HI.out.below hb1
  have d0 := J1.c0
  have d1 := J1.c1
  have dq : w1.cell? ⟨p + 1, 0, none⟩ = some (.string s) := (hb1.cell (p := ⟨p + 1, 0, none⟩) hqW).trans HQ.out
  have hq1 : p + 1 < w1.heap.size := Nat.lt_of_lt_of_le hqW hb1.size
  have HJ : Aside (InBox w1 p a n cap C a2 n2 cap2 H) := J1
  clear J1 q0 q1
  by_cases hz : c = 0
  · have hne : (c != 0) = false := by simp [hz]
    have HZ : Aside (M.rchk C H = 0) := by unfold Aside; rw [← HCc.out]; exact hz
    clear hz
    have K := index_any 39 [.pointer (some ⟨p + 1, 0, none⟩)] (enters_of Tryz.func39 (by kernel_rfl) rfl) (fun h => M.alike h.1 s) a2 n2 cap2 H w1 HJ.out.hs hn2 (fun W' x hx hbx => head1_any x (p + 1) s W' ((hbx.cell (p := ⟨p + 1, 0, none⟩) hq1).trans dq) (Nat.lt_of_lt_of_le hq1 hbx.size))
    have KK : Hid (Calls Tryz.prog 38 #[.slice a2 n2 cap2, .func (.func 39) #[] #[.pointer (some ⟨p + 1, 0, none⟩)]] w1 fun e w' => e = .returned (.int .i64 (M.plc H s)) ∧ Below w1.heap.size w1 w') := K
    have hpl := M.plc_lt H s
    obtain ⟨i, hi⟩ : ∃ i, M.plc H s = i := ⟨_, rfl⟩
    rw [hi] at KK hpl
    rw [HHl.out] at hpl
    have HIi : Aside (M.plc H s = i) := hi
    clear K hi dq
    go_wp2_with fail
    refine KK.out.mono ?_
    rintro e w2 ⟨rfl, hb2⟩
    have b2 := dbelow2 hb1 hb2
    have J2 := HJ.out.below hb2
    have e0 := J2.c0
    have e1 := J2.c1
    clear d0 d1
    rcases hpl with rfl | ⟨h0, h1⟩
    · have E : Aside (M.hchk C H s = 5) := by unfold Aside M.hchk; rw [if_neg (by rw [HZ.out]; simp), HIi.out, if_pos (by omega)]
      clear J2
      go_wp2
      go_ret2
      exact ⟨ret_pair (M.hat_zero (by rw [E.out]; simp)).symm E.out.symm, hb.trans (b2.mono hb.size)⟩
    · obtain ⟨k, rfl⟩ : ∃ k : Nat, i = (k : Int) := ⟨i.toNat, by omega⟩
      have hk : k < n2 := by omega
      have E : Aside (M.hchk C H s = 0) := by unfold Aside M.hchk; rw [if_neg (by rw [HZ.out]; simp), HIi.out, if_neg (by omega)]
      obtain ⟨x, hx⟩ : ∃ x, (H.getD k M.hd0).2 = x := ⟨_, rfl⟩
      have E2 : Aside (M.hat C H s = x) := by unfold Aside M.hat; rw [if_neg (by rw [E.out]; simp), HIi.out, ← hx]; rfl
      obtain ⟨hb3, ho, rfl, c3⟩ : ∃ b off, a2 = some ⟨b, off, none⟩ ∧ w2.cell? ⟨b, off + k * 2 + 1, none⟩ = some (.int .i64 x) := by
        rcases J2.hs.cases with ⟨h0, _⟩ | ⟨b, off, ea, _, _, hB, hc⟩
        · omega
        · exact ⟨b, off, ea, by rw [(hc k hk).2.1, hx]⟩
      have hlt0 : decide ((k : Int) < 0) = false := by simp
      clear J2 hx h0
      go_wp2
      go_ret2
      exact ⟨ret_pair E2.out.symm E.out.symm, hb.trans (b2.mono hb.size)⟩
  · have hne : (c != 0) = true := by simp [hz]
    have E : Aside (M.hchk C H s = c) := by unfold Aside M.hchk; rw [if_pos (by rw [← HCc.out]; exact hz)]; exact HCc.out.symm
    have HZ : Aside (c ≠ 0) := hz
    clear hz
    go_wp2
    go_ret2
    exact ⟨ret_pair (M.hat_zero (by rw [E.out]; exact HZ.out)).symm E.out.symm, hb.trans (hb1.mono hb.size)⟩
end Go.Proofs.YtcgpgflnihjpiafGreat

/- slices.Clone of rows, whatever they are. -/
namespace Go.Proofs.YtcgpgflnihjpiafGreat
open Go.RowKit

/-- slices.Clone of rows that are there. -/
theorem cloned_some (ad : Addr) (n cap : Nat) (l : List (Int × Int)) (w : World) (hn : n ≤ 1000) (h : Rd w (some ad) n l) :
    Calls Tryz.prog 88 #[.slice (some ad) n cap] w fun e w' => ∃ v, e = .returned v ∧ Own w' w.heap.size v l ∧ Below w.heap.size w w' := by
  have hnn : ∀ W, (binOp .eql 49 (.slice (some ad) n cap) (.slice none 0 0)).run Tryz.prog W = .ok (.bool false) W := fun W => by
    have h := Lib.run_eql_slice_nil (P := Tryz.prog) W 49 98 (some ad) n cap 0 0 Tryz.underlying49
    simpa using h
  have HR : Hid (Rd (w.alloc (.cells #[] 98)) (some ad) n l) := h.below ((Below.refl _ _).alloc (Nat.le_refl _) _) (Nat.le_refl _)
  have HO : Hid (Own (w.alloc (.cells #[] 98)) w.heap.size (.slice (some ⟨w.heap.size, 0, none⟩) 0 0) []) := World.ownsRow_made (base := w.heap.size) (e := 98) (size := 2) w #[] 0 (Nat.le_refl _) (by simp [maxLen]) rfl
  clear h
  go_enter Tryz.func88, Tryz.ntmps88
  go_wp2_with (at_builtin; refine append_rd rfl _ _ rfl w.heap.size _ [] rfl HO.out (some ad) n cap l rfl HR.out (by simp) (by simp; omega) (by simp) ?_)
  intro v' w' ho' hb3
  have HO' : Hid (Own w' w.heap.size v' l) := ho'
  have hb4 : Below w.heap.size w w' := ((Below.refl _ _).alloc (Nat.le_refl _) _).trans hb3
  clear ho' hb3
  go_wp2
  go_ret
  exact ⟨_, rfl, HO'.out, hb4⟩

theorem cloned_nil (w : World) :
    Calls Tryz.prog 88 #[.slice none 0 0] w fun e w' => e = .returned (.slice none 0 0) ∧ w' = w := by
  have hnn : ∀ W, (binOp .eql 49 (.slice none 0 0) (.slice none 0 0)).run Tryz.prog W = .ok (.bool true) W := fun W => by
    have h := Lib.run_eql_slice_nil (P := Tryz.prog) W 49 98 none 0 0 0 0 Tryz.underlying49
    simpa using h
  go_enter Tryz.func88, Tryz.ntmps88
  go_wp2
  go_ret
  exact ⟨rfl, rfl⟩
theorem cloned_any (a : Option Addr) (n cap : Nat) (l : List (Int × Int)) (w : World) (hn : n ≤ 1000) (h : Rd w a n l) (hnil : a = none → n = 0 ∧ cap = 0) :
    Calls Tryz.prog 88 #[.slice a n cap] w fun e w' => ∃ v, e = .returned v ∧ Own w' w.heap.size v l ∧ Below w.heap.size w w' := by
  cases a with
  | none =>
    obtain ⟨rfl, rfl⟩ := hnil rfl
    have e : l = [] := List.eq_nil_of_length_eq_zero h.1
    subst e
    refine (cloned_nil w).mono ?_
    rintro e w' ⟨rfl, rfl⟩
    exact ⟨_, rfl, World.ownsRow_nil _ _ _ _, Below.refl _ _⟩
  | some ad => exact cloned_some ad n cap l w hn h
end Go.Proofs.YtcgpgflnihjpiafGreat

/- Heads and commits that are the call's own; a desk. -/
namespace Go.Proofs.YtcgpgflnihjpiafGreat
open Go.RowKit

/-! ### rows of the call's own, in whatever memory that changes elsewhere -/
theorem ownsRow_elsewhere {W W' : World} {base : Nat} {e : TypeId} {size : Nat} {v : Value} {n : Nat} {xs : List Value} (h : W.ownsRow base e size v n xs) {row : Option Nat} (hg : W.grownBy W' row)
    (hrow : ∀ r, row = some r → ∀ cur, W.heap[r]? ≠ some (.cells cur e (0, 0))) : W'.ownsRow base e size v n xs := by
  refine h.kept hg ?_
  rcases h.2 with ⟨rfl, _⟩ | ⟨g, cap, cur, rfl, _, hgb, _⟩
  · exact .inl rfl
  · exact .inr fun e' => hrow g (by simpa [Value.ownBlock] using e'.symm) cur hgb
theorem ownsRow_later {w w' : World} {base : Nat} {e : TypeId} {size : Nat} {v : Value} {n : Nat} {xs : List Value} (h : w.ownsRow base e size v n xs) (hb : Below w.heap.size w w') : w'.ownsRow base e size v n xs := by
  obtain ⟨h1, h2⟩ := h
  refine ⟨h1, ?_⟩
  rcases h2 with h2 | ⟨g, cap, cur, hv, hg, hh, r⟩
  · exact Or.inl h2
  · exact Or.inr ⟨g, cap, cur, hv, hg, (hb.block g (Array.getElem?_eq_some_iff.1 hh).1).trans hh, r⟩
theorem ownsRow_lower {w : World} {base base' : Nat} {e : TypeId} {size : Nat} {v : Value} {n : Nat} {xs : List Value} (h : w.ownsRow base e size v n xs) (hb : base' ≤ base) : w.ownsRow base' e size v n xs := by
  obtain ⟨h1, h2⟩ := h
  refine ⟨h1, ?_⟩
  rcases h2 with h2 | ⟨g, cap, cur, hv, hg, r⟩
  · exact Or.inl h2
  · exact Or.inr ⟨g, cap, cur, hv, Nat.le_trans hb hg, r⟩
theorem grownBy_set (W : World) (a : Addr) (v : Value) : W.grownBy (W.setCell a v) (some a.block) :=
  ⟨rfl, rfl, rfl, by simp [World.setCell], fun k _ hne => heap_setCell_other W a k v (fun e => hne (by rw [e]))⟩
theorem grown_later {w w' : World} (h : Below w.heap.size w w') : w.grownBy w' none := ⟨h.os, h.tape, h.output, h.size, fun k hk _ => h.block k hk⟩

/-! ### heads -/
def encH (H : List M.Hd) : List Value := H.flatMap fun h => [.string h.1, .int .i64 h.2]
theorem encH_length (H : List M.Hd) : (encH H).length = H.length * 2 := by
  induction H with
  | nil => rfl
  | cons r t ih => simp [encH] at ih ⊢; omega
theorem encH_append (a b : List M.Hd) : encH (a ++ b) = encH a ++ encH b := by simp [encH]
theorem encH_cons (r : M.Hd) (t : List M.Hd) : encH (r :: t) = .string r.1 :: .int .i64 r.2 :: encH t := by simp [encH]
theorem encH_name (l : List M.Hd) (i : Nat) (h : i < l.length) : (encH l)[i * 2]? = some (.string (l.getD i M.hd0).1) := by
  induction l generalizing i with
  | nil => simp at h
  | cons r t ih =>
    rw [encH_cons]
    cases i with
    | zero => simp
    | succ i => rw [show (i + 1) * 2 = i * 2 + 1 + 1 by omega, List.getElem?_cons_succ, List.getElem?_cons_succ, ih i (by simpa using h)]; simp
theorem encH_at (l : List M.Hd) (i : Nat) (h : i < l.length) : (encH l)[i * 2 + 1]? = some (.int .i64 (l.getD i M.hd0).2) := by
  induction l generalizing i with
  | nil => simp at h
  | cons r t ih =>
    rw [encH_cons]
    cases i with
    | zero => simp
    | succ i => rw [show (i + 1) * 2 + 1 = i * 2 + 1 + 1 + 1 by omega, List.getElem?_cons_succ, List.getElem?_cons_succ, ih i (by simpa using h)]; simp
theorem encH_one (l : List M.Hd) : ∀ u ∈ encH l, u.oneCell' = true := by
  intro u hu
  simp only [encH, List.mem_flatMap] at hu
  obtain ⟨r, _, h⟩ := hu
  simp at h
  rcases h with rfl | rfl <;> rfl
/-- The heads H lie in a row of the call's own. -/
def OwnH (w : World) (base : Nat) (v : Value) (H : List M.Hd) : Prop := w.ownsRow base 71 2 v H.length (encH H) ∧ ∀ x ∈ H, x.1.size ≤ 9223372036854775807
theorem OwnH.hs {w : World} {base : Nat} {v : Value} {H : List M.Hd} (h : OwnH w base v H) : ∃ a cap, v = .slice a H.length cap ∧ Hs w a H.length H ∧ H.length ≤ cap ∧ cap ≤ maxLen ∧ (a = none → H.length = 0 ∧ cap = 0) := by
  have h0 := h.1
  obtain ⟨⟨h1, h2⟩, hs⟩ := h
  rcases h2 with ⟨rfl, hn⟩ | ⟨g, cap, cur, rfl, hb, hh, hc, hm, hz, hx⟩
  · exact ⟨none, 0, by rw [hn], ⟨rfl, Or.inl hn⟩, by omega, by simp [maxLen], fun _ => ⟨hn, rfl⟩⟩
  · refine ⟨_, cap, rfl, ⟨rfl, ?_⟩, hc, hm, fun h => by simp at h⟩
    have hlt : g < w.heap.size := (Array.getElem?_eq_some_iff.1 hh).1
    refine Or.inr ⟨g, 0, rfl, hlt, fun i hi => ⟨?_, ?_, ?_⟩⟩
    · rw [World.ownsRow.cellAt h0 (0 + i * 2) (by omega), Nat.zero_add, encH_name H i hi]
    · rw [World.ownsRow.cellAt h0 (0 + i * 2 + 1) (by omega), Nat.zero_add, encH_at H i hi]
    · exact hs _ (by simp [List.getD, hi])
theorem OwnH.later {w w' : World} {base : Nat} {v : Value} {H : List M.Hd} (h : OwnH w base v H) (hb : Below w.heap.size w w') : OwnH w' base v H := ⟨ownsRow_later h.1 hb, h.2⟩
theorem OwnH.lower {w : World} {base base' : Nat} {v : Value} {H : List M.Hd} (h : OwnH w base v H) (hb : base' ≤ base) : OwnH w base' v H := ⟨ownsRow_lower h.1 hb, h.2⟩
theorem OwnH.nil (w : World) (base : Nat) : OwnH w base (.slice none 0 0) [] := ⟨World.ownsRow_nil _ _ _ _, fun x hx => by simp at hx⟩

/-! ### commits -/
def encP (l : List (Value × Value)) : List Value := l.flatMap fun p => [p.1, p.2]
theorem encP_length (l : List (Value × Value)) : (encP l).length = l.length * 2 := by
  induction l with
  | nil => rfl
  | cons r t ih => simp [encP] at ih ⊢; omega
theorem encP_append (a b : List (Value × Value)) : encP (a ++ b) = encP a ++ encP b := by simp [encP]
theorem encP_cons (r : Value × Value) (t : List (Value × Value)) : encP (r :: t) = r.1 :: r.2 :: encP t := by simp [encP]
def vp0 : Value × Value := (.slice none 0 0, .slice none 0 0)
theorem encP_fst (l : List (Value × Value)) (i : Nat) (h : i < l.length) : (encP l)[i * 2]? = some (l.getD i vp0).1 := by
  induction l generalizing i with
  | nil => simp at h
  | cons r t ih =>
    rw [encP_cons]
    cases i with
    | zero => simp
    | succ i => rw [show (i + 1) * 2 = i * 2 + 1 + 1 by omega, List.getElem?_cons_succ, List.getElem?_cons_succ, ih i (by simpa using h)]; simp
theorem encP_snd (l : List (Value × Value)) (i : Nat) (h : i < l.length) : (encP l)[i * 2 + 1]? = some (l.getD i vp0).2 := by
  induction l generalizing i with
  | nil => simp at h
  | cons r t ih =>
    rw [encP_cons]
    cases i with
    | zero => simp
    | succ i => rw [show (i + 1) * 2 + 1 = i * 2 + 1 + 1 + 1 by omega, List.getElem?_cons_succ, List.getElem?_cons_succ, ih i (by simpa using h)]; simp
/-- One commit, its rows and its parents the call's own. -/
def OwnCo (w : World) (base : Nat) (p : Value × Value) (c : M.Com) : Prop := Own w base p.1 c.1 ∧ OwnI w base p.2 c.2 ∧ c.1.length ≤ 1000000 ∧ c.2.length ≤ 1000000
/-- The commits C lie in a row of the call's own, and all that they hold. -/
def OwnK (w : World) (base : Nat) (v : Value) (C : List M.Com) : Prop :=
  ∃ vals : List (Value × Value), vals.length = C.length ∧ w.ownsRow base 51 2 v C.length (encP vals) ∧ ∀ i, i < C.length → OwnCo w base (vals.getD i vp0) (C.getD i ([], []))
theorem OwnK.nil (w : World) (base : Nat) : OwnK w base (.slice none 0 0) [] := ⟨[], rfl, World.ownsRow_nil _ _ _ _, fun i hi => by simp at hi⟩
theorem OwnCo.later {w w' : World} {base : Nat} {p : Value × Value} {c : M.Com} (h : OwnCo w base p c) (hb : Below w.heap.size w w') : OwnCo w' base p c := ⟨ownsRow_later h.1 hb, ownsRow_later h.2.1 hb, h.2.2⟩
theorem OwnK.later {w w' : World} {base : Nat} {v : Value} {C : List M.Com} (h : OwnK w base v C) (hb : Below w.heap.size w w') : OwnK w' base v C := by
  obtain ⟨vals, h1, h2, h3⟩ := h
  exact ⟨vals, h1, ownsRow_later h2 hb, fun i hi => (h3 i hi).later hb⟩
theorem OwnK.lower {w : World} {base base' : Nat} {v : Value} {C : List M.Com} (h : OwnK w base v C) (hb : base' ≤ base) : OwnK w base' v C := by
  obtain ⟨vals, h1, h2, h3⟩ := h
  exact ⟨vals, h1, ownsRow_lower h2 hb, fun i hi => ⟨ownsRow_lower (h3 i hi).1 hb, ownsRow_lower (h3 i hi).2.1 hb, (h3 i hi).2.2⟩⟩
/-- A block of another kind changes. -/
theorem OwnK.elsewhere {w w' : World} {base : Nat} {v : Value} {C : List M.Com} (h : OwnK w base v C) {r : Nat} (hg : w.grownBy w' (some r)) {cur0 : Array Value} {t : TypeId} (hr : w.heap[r]? = some (.cells cur0 t (0, 0))) (h1 : t ≠ 51) (h2 : t ≠ 98) (h3 : t ≠ 3) : OwnK w' base v C := by
  have no : ∀ e, t ≠ e → ∀ r', some r = some r' → ∀ cur, w.heap[r']? ≠ some (.cells cur e (0, 0)) := fun e he r' hr' cur hc => by
    cases hr'
    rw [hr] at hc
    simp at hc
    exact he hc.2
  obtain ⟨vals, k1, k2, k3⟩ := h
  exact ⟨vals, k1, ownsRow_elsewhere k2 hg (no _ h1), fun i hi => ⟨ownsRow_elsewhere (k3 i hi).1 hg (no _ h2), ownsRow_elsewhere (k3 i hi).2.1 hg (no _ h3), (k3 i hi).2.2⟩⟩
theorem OwnH.elsewhere {w w' : World} {base : Nat} {v : Value} {H : List M.Hd} (h : OwnH w base v H) {r : Nat} (hg : w.grownBy w' (some r)) {cur0 : Array Value} {t : TypeId} (hr : w.heap[r]? = some (.cells cur0 t (0, 0))) (h1 : t ≠ 71) : OwnH w' base v H :=
  ⟨ownsRow_elsewhere h.1 hg (fun r' hr' cur hc => by
    cases hr'
    rw [hr] at hc
    simp at hc
    exact h1 hc.2), h.2⟩
/-- Inner slices that are nil are so wholly. -/
def Cn (w : World) (a : Option Addr) (n : Nat) : Prop := ∀ b off, a = some ⟨b, off, none⟩ → ∀ i, i < n → ∀ x m c, (w.cell? ⟨b, off + i * 2, none⟩ = some (.slice x m c) ∨ w.cell? ⟨b, off + i * 2 + 1, none⟩ = some (.slice x m c)) → x = none → m = 0 ∧ c = 0
theorem own_nil {w : World} {base : Nat} {e : TypeId} {size : Nat} {a : Option Addr} {n cap k : Nat} {xs : List Value} (h : w.ownsRow base e size (.slice a n cap) k xs) : a = none → n = 0 ∧ cap = 0 := by
  intro ha
  subst ha
  rcases h.2 with ⟨hv, hn⟩ | ⟨g, cap', cur, hv, _⟩
  · simp at hv; omega
  · simp at hv
theorem OwnK.cm {w : World} {base : Nat} {v : Value} {C : List M.Com} (h : OwnK w base v C) : ∃ a cap, v = .slice a C.length cap ∧ Cm w a C.length C ∧ Cn w a C.length ∧ C.length ≤ cap ∧ cap ≤ maxLen ∧ (a = none → C.length = 0 ∧ cap = 0) := by
  obtain ⟨vals, hl, h0, hv⟩ := h
  obtain ⟨h1, h2⟩ := h0
  rcases h2 with ⟨rfl, hn⟩ | ⟨g, cap, cur, rfl, hb, hh, hc, hm, hz, hx⟩
  · exact ⟨none, 0, by rw [hn], ⟨rfl, Or.inl hn⟩, fun b off e => by simp at e, by omega, by simp [maxLen], fun _ => ⟨hn, rfl⟩⟩
  · have h0 : w.ownsRow base 51 2 (.slice (some ⟨g, 0, none⟩) C.length cap) C.length (encP vals) := ⟨h1, Or.inr ⟨g, cap, cur, rfl, hb, hh, hc, hm, hz, hx⟩⟩
    have hlt : g < w.heap.size := (Array.getElem?_eq_some_iff.1 hh).1
    have cells : ∀ i, i < C.length → w.cell? ⟨g, 0 + i * 2, none⟩ = some (vals.getD i vp0).1 ∧ w.cell? ⟨g, 0 + i * 2 + 1, none⟩ = some (vals.getD i vp0).2 := fun i hi => by
      refine ⟨?_, ?_⟩
      · rw [World.ownsRow.cellAt h0 (0 + i * 2) (by omega), Nat.zero_add, encP_fst vals i (by omega)]
      · rw [World.ownsRow.cellAt h0 (0 + i * 2 + 1) (by omega), Nat.zero_add, encP_snd vals i (by omega)]
    refine ⟨_, cap, rfl, ⟨rfl, Or.inr ⟨g, 0, rfl, hlt, fun i hi => ?_⟩⟩, ?_, hc, hm, fun h => by simp at h⟩
    · obtain ⟨k1, k2⟩ := cells i hi
      obtain ⟨o1, o2, o3, o4⟩ := hv i hi
      obtain ⟨a1, c1, e1, r1, _⟩ := o1.rd
      obtain ⟨a2, c2, e2, r2, _⟩ := o2.ri
      exact ⟨a1, _, c1, a2, _, c2, by rw [k1, e1], by rw [k2, e2], r1, r2, by omega, by omega⟩
    · intro b off e i hi x m c hor hx
      cases e
      obtain ⟨k1, k2⟩ := cells i hi
      obtain ⟨o1, o2, _⟩ := hv i hi
      rcases hor with hcc | hcc
      · have hcc := Option.some.inj (k1.symm.trans hcc)
        unfold Own at o1
        rw [hcc] at o1
        exact own_nil o1 hx
      · have hcc := Option.some.inj (k2.symm.trans hcc)
        unfold OwnI at o2
        rw [hcc] at o2
        exact own_nil o2 hx

/-- A repo that is the call's own. -/
def RepoOwn (w : World) (base : Nat) (v : Value) (C : List M.Com) (H : List M.Hd) : Prop := ∃ x y, v = .agg #[x, y] ∧ OwnK w base x C ∧ OwnH w base y H
theorem RepoOwn.none (w : World) (base : Nat) : RepoOwn w base (.agg #[.slice none 0 0, .slice none 0 0]) [] [] := ⟨_, _, rfl, OwnK.nil _ _, OwnH.nil _ _⟩
theorem RepoOwn.later {w w' : World} {base : Nat} {v : Value} {C : List M.Com} {H : List M.Hd} (h : RepoOwn w base v C H) (hb : Below w.heap.size w w') : RepoOwn w' base v C H := by
  obtain ⟨x, y, e, h1, h2⟩ := h
  exact ⟨x, y, e, h1.later hb, h2.later hb⟩
theorem RepoOwn.lower {w : World} {base base' : Nat} {v : Value} {C : List M.Com} {H : List M.Hd} (h : RepoOwn w base v C H) (hb : base' ≤ base) : RepoOwn w base' v C H := by
  obtain ⟨x, y, e, h1, h2⟩ := h
  exact ⟨x, y, e, h1.lower hb, h2.lower hb⟩
/-- What may be read of a repo. -/
structure RepoV (w : World) (a : Option Addr) (n cap : Nat) (C : List M.Com) (a2 : Option Addr) (n2 cap2 : Nat) (H : List M.Hd) : Prop where
  cm : Cm w a n C
  cn : Cn w a n
  nm : n ≤ 9223372036854775807
  hs : Hs w a2 n2 H
  hm : n2 ≤ 9223372036854775807
  hn : a2 = none → n2 = 0 ∧ cap2 = 0
theorem RepoV.later {w w' : World} {a : Option Addr} {n cap : Nat} {C : List M.Com} {a2 : Option Addr} {n2 cap2 : Nat} {H : List M.Hd} (h : RepoV w a n cap C a2 n2 cap2 H) (hb : Below w.heap.size w w') : RepoV w' a n cap C a2 n2 cap2 H := by
  refine ⟨h.cm.below hb (Nat.le_refl _), ?_, h.nm, h.hs.below hb (Nat.le_refl _), h.hm, h.hn⟩
  intro b off e i hi x m c hor hx
  rcases h.cm.cases with ⟨h0, _⟩ | ⟨b', off', e', _, _, hB, _⟩
  · omega
  · rw [e] at e'
    cases e'
    refine h.cn b off e i hi x m c ?_ hx
    rw [hb.cell (p := ⟨b, off + i * 2, none⟩) hB, hb.cell (p := ⟨b, off + i * 2 + 1, none⟩) hB] at hor
    exact hor
theorem RepoOwn.v {w : World} {base : Nat} {v : Value} {C : List M.Com} {H : List M.Hd} (h : RepoOwn w base v C H) : ∃ a cap a2 cap2, v = .agg #[.slice a C.length cap, .slice a2 H.length cap2] ∧ RepoV w a C.length cap C a2 H.length cap2 H := by
  obtain ⟨x, y, e, h1, h2⟩ := h
  obtain ⟨a, cap, rfl, k1, k2, k3, k4, _⟩ := h1.cm
  obtain ⟨a2, cap2, rfl, l1, l2, l3, l4⟩ := h2.hs
  exact ⟨a, cap, a2, cap2, e, ⟨k1, k2, by unfold maxLen at k4; omega, l1, by unfold maxLen at l3; omega, l4⟩⟩

/-- A desk: its block D, what lies on it. -/
def DeskAt (w : World) (base D : Nat) (C : List M.Com) (H : List M.Hd) (A : List Int) : Prop :=
  ∃ x y z, w.heap[D]? = some (.cells #[x, y, z] 82 (0, 0)) ∧ base ≤ D ∧ OwnK w base x C ∧ OwnH w base y H ∧ OwnI w base z A
theorem DeskAt.lt {w : World} {base D : Nat} {C : List M.Com} {H : List M.Hd} {A : List Int} (h : DeskAt w base D C H A) : D < w.heap.size := by
  obtain ⟨x, y, z, h1, _⟩ := h
  exact (Array.getElem?_eq_some_iff.1 h1).1
theorem DeskAt.later {w w' : World} {base D : Nat} {C : List M.Com} {H : List M.Hd} {A : List Int} (h : DeskAt w base D C H A) (hb : Below w.heap.size w w') : DeskAt w' base D C H A := by
  obtain ⟨x, y, z, h1, h2, h3, h4, h5⟩ := h
  exact ⟨x, y, z, (hb.block D (Array.getElem?_eq_some_iff.1 h1).1).trans h1, h2, h3.later hb, h4.later hb, ownsRow_later h5 hb⟩
end Go.Proofs.YtcgpgflnihjpiafGreat

/- slices.Clone of heads, of numbers. -/
namespace Go.Proofs.YtcgpgflnihjpiafGreat
open Go.RowKit

theorem infoHead : (Tryz.prog.info? 71).map (fun i => (i.zero, i.size, i.bytes)) = some (some (.agg #[.string ⟨#[]⟩, .int .i64 0]), 2, 24) := by kernel_rfl
theorem infoCommit : (Tryz.prog.info? 51).map (fun i => (i.zero, i.size, i.bytes)) = some (some (.agg #[.slice none 0 0, .slice none 0 0]), 2, 48) := by kernel_rfl

theorem Hs.enc {w : World} {ad : Addr} {n : Nat} {H : List M.Hd} (h : Hs w (some ad) n H) : ∀ j u, (encH H)[j]? = some u → w.cell? (ad.add j) = some u := by
  intro j u hj
  have hjl : j < (encH H).length := (List.getElem?_eq_some_iff.1 hj).1
  rw [encH_length] at hjl
  rcases h.cases with ⟨_, rfl⟩ | ⟨b, off, ea, _, hl, _, hc⟩
  · simp at hjl
  · obtain rfl : ad = ⟨b, off, none⟩ := by simpa using ea
    rcases Nat.mod_two_eq_zero_or_one j with h0 | h1
    · obtain ⟨i, rfl⟩ : ∃ i, j = i * 2 := ⟨j / 2, by omega⟩
      rw [encH_name H i (by omega)] at hj
      rw [← hj, Addr.add_lit]; exact (hc i (by omega)).1
    · obtain ⟨i, rfl⟩ : ∃ i, j = i * 2 + 1 := ⟨j / 2, by omega⟩
      rw [encH_at H i (by omega)] at hj
      rw [← hj, Addr.add_lit, ← Nat.add_assoc]
      exact (hc i (by omega)).2.1
theorem Ri.enc {w : World} {ad : Addr} {n : Nat} {l : List Int} (h : Ri w (some ad) n l) : ∀ j u, (l.map (Value.int .i64))[j]? = some u → w.cell? (ad.add j) = some u := by
  intro j u hj
  have hjl : j < l.length := by have := (List.getElem?_eq_some_iff.1 hj).1; simpa using this
  rcases h.cases with ⟨_, rfl⟩ | ⟨b, off, ea, _, hl, _, hc⟩
  · simp at hjl
  · obtain rfl : ad = ⟨b, off, none⟩ := by simpa using ea
    rw [Addr.add_lit, hc j (by omega), ← hj]
    simp [List.getD, hjl]

set_option maxHeartbeats 1000000 in
theorem hcloned_some (ad : Addr) (n cap : Nat) (H : List M.Hd) (w : World) (hn : n ≤ 1000) (h : Hs w (some ad) n H) :
    Calls Tryz.prog 87 #[.slice (some ad) n cap] w fun e w' => ∃ v, e = .returned v ∧ OwnH w' w.heap.size v H ∧ Below w.heap.size w w' := by
  have hnn : ∀ W, (binOp .eql 23 (.slice (some ad) n cap) (.slice none 0 0)).run Tryz.prog W = .ok (.bool false) W := fun W => by
    have h := Lib.run_eql_slice_nil (P := Tryz.prog) W 23 71 (some ad) n cap 0 0 Tryz.underlying23
    simpa using h
  obtain ⟨i0, hi, hz0, hz1, hz2⟩ := info_parts infoHead
  have hw : Below w.heap.size w (w.alloc (.cells #[] 71)) := (Below.refl _ _).alloc (Nat.le_refl _) _
  have HE : Hid (∀ j u, (encH H)[j]? = some u → (w.alloc (.cells #[] 71)).cell? (ad.add j) = some u) := (h.below hw (Nat.le_refl _)).enc
  have HO : Hid ((w.alloc (.cells #[] 71)).ownsRow w.heap.size 71 2 (.slice (some ⟨w.heap.size, 0, none⟩) 0 0) 0 []) := World.ownsRow_made (base := w.heap.size) (e := 71) (size := 2) w #[] 0 (Nat.le_refl _) (by simp [maxLen]) rfl
  have HL : Hid (H.length = n) := h.1
  have HS : Hid (∀ x ∈ H, x.1.size ≤ 9223372036854775807) := h.small
  clear h
  go_enter Tryz.func87, Tryz.ntmps87
  go_wp2_with (at_builtin; refine wpList_append_own _ rfl _ _ 23 rfl w.heap.size 71 i0 (.agg #[.string ⟨#[]⟩, .int .i64 0]) 2 24 Tryz.underlying23 hi hz0 hz1 hz2 rfl (by decide) _ 0 [] rfl HO.out ad n cap (encH H) rfl (by rw [encH_length, HL.out]) HE.out (encH_one H) (by simp only [maxLen]; omega) (by omega) (by simp) ?_)
  intro v' w' h1 h2 _
  have hb4 : Below w.heap.size w w' := hw.trans ((Below.refl _ _).grown h2 (by simp) fun k hk => (World.ownsRow.lt HO.out k hk).1)
  have HO' : Hid (OwnH w' w.heap.size v' H) := ⟨by rw [HL.out]; simpa using h1, HS.out⟩
  clear h1 h2
  go_wp2
  go_ret
  exact ⟨_, rfl, HO'.out, hb4⟩
theorem hcloned_nil (w : World) :
    Calls Tryz.prog 87 #[.slice none 0 0] w fun e w' => e = .returned (.slice none 0 0) ∧ w' = w := by
  have hnn : ∀ W, (binOp .eql 23 (.slice none 0 0) (.slice none 0 0)).run Tryz.prog W = .ok (.bool true) W := fun W => by
    have h := Lib.run_eql_slice_nil (P := Tryz.prog) W 23 71 none 0 0 0 0 Tryz.underlying23
    simpa using h
  go_enter Tryz.func87, Tryz.ntmps87
  go_wp2
  go_ret
  exact ⟨rfl, rfl⟩
theorem hcloned_any (a : Option Addr) (n cap : Nat) (H : List M.Hd) (w : World) (hn : n ≤ 1000) (h : Hs w a n H) (hnil : a = none → n = 0 ∧ cap = 0) :
    Calls Tryz.prog 87 #[.slice a n cap] w fun e w' => ∃ v, e = .returned v ∧ OwnH w' w.heap.size v H ∧ Below w.heap.size w w' := by
  cases a with
  | none =>
    obtain ⟨rfl, rfl⟩ := hnil rfl
    have e : H = [] := List.eq_nil_of_length_eq_zero h.1
    subst e
    refine (hcloned_nil w).mono ?_
    rintro e w' ⟨rfl, rfl⟩
    exact ⟨_, rfl, OwnH.nil _ _, Below.refl _ _⟩
  | some ad => exact hcloned_some ad n cap H w hn h

set_option maxHeartbeats 1000000 in
theorem icloned_some (ad : Addr) (n cap : Nat) (l : List Int) (w : World) (hn : n ≤ 1000) (h : Ri w (some ad) n l) :
    Calls Tryz.prog 89 #[.slice (some ad) n cap] w fun e w' => ∃ v, e = .returned v ∧ OwnI w' w.heap.size v l ∧ Below w.heap.size w w' := by
  have hnn : ∀ W, (binOp .eql 38 (.slice (some ad) n cap) (.slice none 0 0)).run Tryz.prog W = .ok (.bool false) W := fun W => by
    have h := Lib.run_eql_slice_nil (P := Tryz.prog) W 38 3 (some ad) n cap 0 0 Tryz.underlying38
    simpa using h
  obtain ⟨i0, hi, hz0, hz1, hz2⟩ := info_parts infoInt
  have hw : Below w.heap.size w (w.alloc (.cells #[] 3)) := (Below.refl _ _).alloc (Nat.le_refl _) _
  have HE : Hid (∀ j u, (l.map (Value.int .i64))[j]? = some u → (w.alloc (.cells #[] 3)).cell? (ad.add j) = some u) := (h.below hw (Nat.le_refl _)).enc
  have HO : Hid ((w.alloc (.cells #[] 3)).ownsRow w.heap.size 3 1 (.slice (some ⟨w.heap.size, 0, none⟩) 0 0) 0 []) := World.ownsRow_made (base := w.heap.size) (e := 3) (size := 1) w #[] 0 (Nat.le_refl _) (by simp [maxLen]) rfl
  have HL : Hid (l.length = n) := h.1
  clear h
  go_enter Tryz.func89, Tryz.ntmps89
  go_wp2_with (at_builtin; refine wpList_append_own _ rfl _ _ 38 rfl w.heap.size 3 i0 (.int .i64 0) 1 8 Tryz.underlying38 hi hz0 hz1 hz2 rfl (by decide) _ 0 [] rfl HO.out ad n cap (l.map (Value.int .i64)) rfl (by rw [List.length_map, HL.out]; omega) HE.out (by intro u hu; obtain ⟨y, _, rfl⟩ := List.mem_map.1 hu; rfl) (by simp only [maxLen]; omega) (by omega) (by simp) ?_)
  intro v' w' h1 h2 _
  have hb4 : Below w.heap.size w w' := hw.trans ((Below.refl _ _).grown h2 (by simp) fun k hk => (World.ownsRow.lt HO.out k hk).1)
  have HO' : Hid (OwnI w' w.heap.size v' l) := by unfold Hid OwnI; rw [HL.out]; simpa using h1
  clear h1 h2
  go_wp2
  go_ret
  exact ⟨_, rfl, HO'.out, hb4⟩
theorem icloned_nil (w : World) :
    Calls Tryz.prog 89 #[.slice none 0 0] w fun e w' => e = .returned (.slice none 0 0) ∧ w' = w := by
  have hnn : ∀ W, (binOp .eql 38 (.slice none 0 0) (.slice none 0 0)).run Tryz.prog W = .ok (.bool true) W := fun W => by
    have h := Lib.run_eql_slice_nil (P := Tryz.prog) W 38 3 none 0 0 0 0 Tryz.underlying38
    simpa using h
  go_enter Tryz.func89, Tryz.ntmps89
  go_wp2
  go_ret
  exact ⟨rfl, rfl⟩
theorem icloned_any (a : Option Addr) (n cap : Nat) (l : List Int) (w : World) (hn : n ≤ 1000) (h : Ri w a n l) (hnil : a = none → n = 0 ∧ cap = 0) :
    Calls Tryz.prog 89 #[.slice a n cap] w fun e w' => ∃ v, e = .returned v ∧ OwnI w' w.heap.size v l ∧ Below w.heap.size w w' := by
  cases a with
  | none =>
    obtain ⟨rfl, rfl⟩ := hnil rfl
    have e : l = [] := List.eq_nil_of_length_eq_zero h.1
    subst e
    refine (icloned_nil w).mono ?_
    rintro e w' ⟨rfl, rfl⟩
    exact ⟨_, rfl, OwnI.nil _ _, Below.refl _ _⟩
  | some ad => exact icloned_some ad n cap l w hn h
end Go.Proofs.YtcgpgflnihjpiafGreat

/- Regions that draw their order, whose operations only read and whose callees only make memory: over the class of all later worlds. -/
namespace Go.Proofs.YtcgpgflnihjpiafGreat
open Go.RowKit

/-- The worlds that come behind W0. -/
def Later (W0 W : World) : Prop := Below W0.heap.size W0 W
theorem Later.out {W0 W : World} (h : Later W0 W) : Below W0.heap.size W0 W := h

theorem quiet_val {P : Program} {C : World → Prop} {o : Oper} {a : Act} {K : Act → Prop} (v : Value) (h : ∀ W, C W → (execOp a.eval o).run P W = .ok (.value v) W) (hk : K (a.put o.dst v)) : o.quiet P a C K :=
  ⟨v, fun W hW => by unfold Oper.quietAt; rw [h W hW]; exact ⟨rfl, rfl⟩, hk⟩
theorem quiet_enter {P : Program} {C : World → Prop} {o : Oper} {a : Act} {K : Act → Prop} (f : FuncId) (args : Array Value) (v : Value) (h : ∀ W, (execOp a.eval o).run P W = .ok (.enter f args) W) (hc : ∀ W, C W → Calls P f args W fun e w' => e = .returned v ∧ C w') (hk : K (a.put o.dst v)) : o.quiet P a C K :=
  ⟨v, fun W hW => by unfold Oper.quietAt; rw [h W]; exact ⟨rfl, hc W hW⟩, hk⟩
theorem wp_region_later {P : Program} {id : Nat} {Q : Exit → Act → World → Prop} {a : Act} {w W0 : World} {l : List Oper} (hm : P.follows .mixedOrders = true) (hB : Region.lexB .any l.toArray = true) (hC : Below W0.heap.size W0 w)
    (h : wpQuiet P l.toArray (Later W0) (fun a' => ∀ w', Later W0 w' → Q .normal a' w') l a) : (Code.region id l.toArray true).wp P Q a w :=
  wp_region_quiet (C := Later W0) hm hB (show Below W0.heap.size W0 w.drew from hC.drew) (by simpa using h)
end Go.Proofs.YtcgpgflnihjpiafGreat

/- Regions that draw their order and whose last operation writes what the others read: a condition on the world that is kept till that operation. -/
namespace Go.Proofs.YtcgpgflnihjpiafGreat
open Go.RowKit

section
variable {P : Program} {ops : Array Oper} {Q : Exit → Act → World → Prop} {md : Region.Mode} {S : World → Prop} {L : Nat}

/-- Whatever order is picked from here on, and S holds behind every operation but number L. -/
def Till (P : Program) (md : Region.Mode) (ops : Array Oper) (Q : Exit → Act → World → Prop) (S : World → Prop) (L : Nat) : Nat → Array Bool → Act → World → Prop
  | 0, listed, a, w => Region.ready md ops listed = [] ∧ Q .normal a w
  | fuel + 1, listed, a, w =>
    (Region.ready md ops listed = [] → Q .normal a w) ∧
    ∀ i ∈ Region.ready md ops listed, wpOp P ops Q i (fun a' w' => (i ≠ L → listed.getD L true = false → S w') ∧ Till P md ops Q S L fuel (listed.setIfInBounds i true) a' w') a w
theorem wpAny_of_till : ∀ (fuel : Nat) (listed : Array Bool) (a : Act) (w : World), Till P md ops Q S L fuel listed a w → wpAny P md ops Q fuel listed a w
  | 0, _, _, _, h => h
  | fuel + 1, _, _, _, h => ⟨h.1, fun i hi => wpOp_mono (fun a' w' h' => wpAny_of_till fuel _ a' w' h'.2) (h.2 i hi)⟩

/-- Does operation L wait for operation i? -/
def waits (md : Region.Mode) (ops : Array Oper) (L i : Nat) : Bool := match ops[L]? with
  | none => false
  | some o => o.after.any fun e => Region.binds md e && e.on == i

/-- .. or for one that waits for it, and so on. -/
def waitsT (md : Region.Mode) (ops : Array Oper) : Nat → Nat → Nat → Bool
  | 0, L, i => waits md ops L i
  | n + 1, L, i => waits md ops L i || (match ops[L]? with
    | none => false
    | some o => o.after.any fun e => Region.binds md e && waitsT md ops n e.on i)
/-- All for which a listed one waits are listed. -/
def Closed (md : Region.Mode) (ops : Array Oper) (listed : Array Bool) : Prop := ∀ j o, ops[j]? = some o → listed.getD j false = true → ∀ e ∈ o.after, Region.binds md e = true → listed.getD e.on false = true
def closedB (md : Region.Mode) (ops : Array Oper) (listed : Array Bool) : Bool := (List.range ops.size).all fun j => match ops[j]? with
  | none => true
  | some o => !listed.getD j false || o.after.all fun e => !Region.binds md e || listed.getD e.on false
theorem closed_of {listed : Array Bool} (h : closedB md ops listed = true) : Closed md ops listed := by
  intro j o hj hl e he hb
  unfold closedB at h
  rw [List.all_eq_true] at h
  have hlt : j < ops.size := (Array.getElem?_eq_some_iff.1 hj).1
  have h1 := h j (List.mem_range.2 hlt)
  rw [hj] at h1
  simp only [hl, Bool.not_true, Bool.false_or] at h1
  rw [Array.all_eq_true_iff_forall_mem] at h1
  have h2 := h1 e he
  simpa [hb] using h2
theorem Closed.next {listed : Array Bool} (h : Closed md ops listed) {j : Nat} (hj : j ∈ Region.ready md ops listed) : Closed md ops (listed.setIfInBounds j true) := by
  intro k o hk hl e he hb
  by_cases hjk : j = k
  · subst hjk
    obtain ⟨_, oj, hoj, hall⟩ := mem_ready.1 hj
    rw [hk] at hoj
    cases hoj
    exact getD_set_true (hall e he hb)
  · rw [getD_set_ne false hjk] at hl
    exact getD_set_true (h k o hk hl e he hb)
theorem waitsT_not {listed : Array Bool} (hc : Closed md ops listed) {i : Nat} (hi : listed.getD i false = false) : ∀ (n L : Nat), waitsT md ops n L i = true → ∀ o, ops[L]? = some o → ¬ ∀ e ∈ o.after, Region.binds md e = true → listed.getD e.on false = true
  | 0, L, hw, o, ho, hall => by
    unfold waitsT waits at hw
    rw [ho] at hw
    simp only [Array.any_eq_true] at hw
    obtain ⟨x, hx, hb⟩ := hw
    simp only [Bool.and_eq_true, beq_iff_eq] at hb
    have := hall _ (Array.getElem_mem hx) hb.1
    rw [hb.2, hi] at this
    cases this
  | n + 1, L, hw, o, ho, hall => by
    unfold waitsT at hw
    rw [Bool.or_eq_true] at hw
    rcases hw with hw | hw
    · exact waitsT_not hc hi 0 L hw o ho hall
    · rw [ho] at hw
      simp only [Array.any_eq_true] at hw
      obtain ⟨x, hx, hb⟩ := hw
      simp only [Bool.and_eq_true] at hb
      have hl := hall _ (Array.getElem_mem hx) hb.1
      have ⟨o', ho'⟩ : ∃ o', ops[(o.after[x]).on]? = some o' := by
        cases ho' : ops[(o.after[x]).on]? with
        | some o' => exact ⟨o', rfl⟩
        | none =>
          exfalso
          have h2 := hb.2
          cases n with
          | zero => unfold waitsT waits at h2; rw [ho'] at h2; cases h2
          | succ n => unfold waitsT waits at h2; rw [ho'] at h2; cases h2
      exact waitsT_not hc hi n _ hb.2 o' ho' (fun e he hbe => hc _ o' ho' hl e he hbe)

theorem till_first {i : Nat} {oi : Oper} {v : Value} (hi : ops[i]? = some oi) (hiL : i ≠ L) (hw : waitsT md ops 9 L i = true) (hsel : ∀ (j : Nat) (o : Oper) cs b, ops[j]? = some o → o.op ≠ .select cs b)
    (hQ : ∀ c a w, Q (.panic c) (a.put oi.dst v) w → Q (.panic c) a w) :
    ∀ (fuel : Nat) (listed : Array Bool) (a : Act) (w : World),
      (∀ j oj, ops[j]? = some oj → j ≠ i → listed.getD j true = false → (∀ e ∈ oj.after, Region.binds md e = true → e.on ≠ i) → oi.apart ops oj = true) →
      i ∈ Region.ready md ops listed → Closed md ops listed → listed.getD L true = false → YieldsIf P ops S oi v a → S w →
      Till P md ops Q S L fuel (listed.setIfInBounds i true) (a.put oi.dst v) w → Till P md ops Q S L (fuel + 1) listed a w := by
  intro fuel
  induction fuel with
  | zero =>
    intro listed a w _ hr _ _ hy hS H
    refine ⟨fun h => (by rw [h] at hr; cases hr), fun j hj => ?_⟩
    by_cases hji : j = i
    · subst hji; exact hy.wpOp hi hS ⟨fun _ _ => hS, H⟩
    · have := ready_mono hj hji
      rw [H.1] at this
      cases this
  | succ fuel ih =>
    intro listed a w hfree hr hcl hLu hy hS H
    refine ⟨fun h => (by rw [h] at hr; cases hr), fun j hj => ?_⟩
    by_cases hji : j = i
    · subst hji; exact hy.wpOp hi hS ⟨fun _ _ => hS, H⟩
    · have h1 := H.2 j (ready_mono hj hji)
      obtain ⟨hjun, oj, hoj, hall⟩ := mem_ready.1 hj
      have hnot : ∀ e ∈ oj.after, Region.binds md e = true → e.on ≠ i := fun e he hb heq => by
        have h1 := hall e he hb
        have h0 := (mem_ready.1 hr).1
        rw [heq] at h1
        rcases Nat.lt_or_ge i listed.size with h' | h'
        · simp [h'] at h0 h1; rw [h0] at h1; cases h1
        · simp [Array.getElem?_eq_none h'] at h1
      have hiu : listed.getD i false = false := by
        have h0 := (mem_ready.1 hr).1
        rcases Nat.lt_or_ge i listed.size with h' | h'
        · simp [h'] at h0 ⊢; exact h0
        · simp [Array.getElem?_eq_none h'] at h0
      have hjL : j ≠ L := by
        intro e
        subst e
        exact waitsT_not hcl hiu 9 j hw oj hoj hall
      have h2 := wpOp_putIf hoj (hfree j oj hoj hji hjun hnot) (fun cs b => hsel i oi cs b hi) (fun cs b => hsel j oj cs b hoj) hQ hy h1
      have hfree' : ∀ k ok, ops[k]? = some ok → k ≠ i → (listed.setIfInBounds j true).getD k true = false →
          (∀ e ∈ ok.after, Region.binds md e = true → e.on ≠ i) → oi.apart ops ok = true := fun k ok hk hki hun hno => by
        refine hfree k ok hk hki ?_ hno
        by_cases hjk : j = k
        · subst hjk; exact hjun
        · rw [getD_set_ne true hjk] at hun; exact hun
      have hLi : (listed.setIfInBounds i true).getD L true = false := by rw [getD_set_ne true hiL]; exact hLu
      have hLj : (listed.setIfInBounds j true).getD L true = false := by rw [getD_set_ne true hjL]; exact hLu
      refine wpOp_mono (fun a' w' h3 => ⟨fun hjL _ => h3.2.1 hjL hLi, ih (listed.setIfInBounds j true) a' w' hfree' (ready_mono hr (Ne.symm hji)) (hcl.next hj) hLj h3.1 (h3.2.1 hjL hLi) ?_⟩) h2
      rw [Array.setIfInBounds_comm _ _ hji]
      exact h3.2.2
/-- .. where it looks at no memory. -/
theorem till_pure {i : Nat} {oi : Oper} {v : Value} (hi : ops[i]? = some oi) (hiL : i ≠ L) (hsel : ∀ (j : Nat) (o : Oper) cs b, ops[j]? = some o → o.op ≠ .select cs b)
    (hQ : ∀ c a w, Q (.panic c) (a.put oi.dst v) w → Q (.panic c) a w) :
    ∀ (fuel : Nat) (listed : Array Bool) (a : Act) (w : World),
      (∀ j oj, ops[j]? = some oj → j ≠ i → listed.getD j true = false → (∀ e ∈ oj.after, Region.binds md e = true → e.on ≠ i) → oi.apart ops oj = true) →
      i ∈ Region.ready md ops listed → YieldsIf P ops (fun _ => True) oi v a → (listed.getD L true = false → S w) →
      Till P md ops Q S L fuel (listed.setIfInBounds i true) (a.put oi.dst v) w → Till P md ops Q S L (fuel + 1) listed a w := by
  intro fuel
  induction fuel with
  | zero =>
    intro listed a w _ hr hy hS H
    refine ⟨fun h => (by rw [h] at hr; cases hr), fun j hj => ?_⟩
    by_cases hji : j = i
    · subst hji; exact hy.wpOp hi trivial ⟨fun _ h => hS h, H⟩
    · have := ready_mono hj hji
      rw [H.1] at this
      cases this
  | succ fuel ih =>
    intro listed a w hfree hr hy hS H
    refine ⟨fun h => (by rw [h] at hr; cases hr), fun j hj => ?_⟩
    by_cases hji : j = i
    · subst hji; exact hy.wpOp hi trivial ⟨fun _ h => hS h, H⟩
    · have h1 := H.2 j (ready_mono hj hji)
      obtain ⟨hjun, oj, hoj, hall⟩ := mem_ready.1 hj
      have hnot : ∀ e ∈ oj.after, Region.binds md e = true → e.on ≠ i := fun e he hb heq => by
        have h1 := hall e he hb
        have h0 := (mem_ready.1 hr).1
        rw [heq] at h1
        rcases Nat.lt_or_ge i listed.size with h' | h'
        · simp [h'] at h0 h1; rw [h0] at h1; cases h1
        · simp [Array.getElem?_eq_none h'] at h1
      have h2 := wpOp_putIf hoj (hfree j oj hoj hji hjun hnot) (fun cs b => hsel i oi cs b hi) (fun cs b => hsel j oj cs b hoj) hQ hy h1
      have hfree' : ∀ k ok, ops[k]? = some ok → k ≠ i → (listed.setIfInBounds j true).getD k true = false →
          (∀ e ∈ ok.after, Region.binds md e = true → e.on ≠ i) → oi.apart ops ok = true := fun k ok hk hki hun hno => by
        refine hfree k ok hk hki ?_ hno
        by_cases hjk : j = k
        · subst hjk; exact hjun
        · rw [getD_set_ne true hjk] at hun; exact hun
      have hLi : listed.getD L true = false → (listed.setIfInBounds i true).getD L true = false := fun h => by rw [getD_set_ne true hiL]; exact h
      refine wpOp_mono (fun a' w' h3 => ⟨fun hjL hu => h3.2.1 hjL (hLi hu), ih (listed.setIfInBounds j true) a' w' hfree' (ready_mono hr (Ne.symm hji)) h3.1 (fun hu => ?_) ?_⟩) h2
      · by_cases hjL : j = L
        · subst hjL
          rcases Nat.lt_or_ge j listed.size with h' | h'
          · simp [h'] at hu
          · simp [Array.getElem?_eq_none h'] at hjun
        · exact h3.2.1 hjL (hLi (by rw [getD_set_ne true hjL] at hu; exact hu))
      · rw [Array.setIfInBounds_comm _ _ hji]
        exact h3.2.2

/-- Take number i first. -/
theorem till_take (i : Nat) {oi : Oper} {v : Value} {fuel : Nat} {listed : Array Bool} {a : Act} {w : World} (hi : ops[i]? = some oi) (hiL : i ≠ L) (hw : (waitsT md ops 9 L i && closedB md ops listed) = true)
    (hs : Region.noSelect ops = true) (hf : Region.free md ops listed i = true) (hr : (Region.ready md ops listed).contains i = true) (hu : listed.getD L true = false)
    (hQ : ∀ c a w, Q (.panic c) (a.put oi.dst v) w → Q (.panic c) a w) (hy : YieldsIf P ops S oi v a) (hS : S w)
    (h : Till P md ops Q S L fuel (listed.setIfInBounds i true) (a.put oi.dst v) w) : Till P md ops Q S L (fuel + 1) listed a w :=
  till_first hi hiL (by simp only [Bool.and_eq_true] at hw; exact hw.1) (Region.noSelect_spec hs) hQ fuel listed a w (Region.free_spec hi hf) (by simpa using hr) (closed_of (by simp only [Bool.and_eq_true] at hw; exact hw.2)) hu hy hS h
/-- .. one that looks at no memory. -/
theorem till_go (i : Nat) {oi : Oper} {v : Value} {fuel : Nat} {listed : Array Bool} {a : Act} {w : World} (hi : ops[i]? = some oi) (hiL : i ≠ L)
    (hs : Region.noSelect ops = true) (hf : Region.free md ops listed i = true) (hr : (Region.ready md ops listed).contains i = true)
    (hQ : ∀ c a w, Q (.panic c) (a.put oi.dst v) w → Q (.panic c) a w) (hy : YieldsIf P ops (fun _ => True) oi v a) (hS : S w)
    (h : Till P md ops Q S L fuel (listed.setIfInBounds i true) (a.put oi.dst v) w) : Till P md ops Q S L (fuel + 1) listed a w :=
  till_pure hi hiL (Region.noSelect_spec hs) hQ fuel listed a w (Region.free_spec hi hf) (by simpa using hr) hy (fun _ => hS) h
/-- One alone may come up. -/
theorem till_step (i : Nat) {o : Oper} {fuel : Nat} {listed : Array Bool} {a : Act} {w : World} (ho : ops[i]? = some o) (hiL : i ≠ L) (hr : Region.ready md ops listed = [i])
    (h : ∀ K' : Act → World → Prop, Shut (∀ a w, S w → (S w → Till P md ops Q S L fuel (listed.setIfInBounds i true) a w) → K' a w) → if Region.wanted o (yielded ops a.tmps) = true then Oper.wp P o a w K' Q else K' (a.put o.dst undef) w) :
    Till P md ops Q S L (fuel + 1) listed a w := by
  refine ⟨fun e => (by rw [hr] at e; cases e), fun j hj => ?_⟩
  rw [hr] at hj
  obtain rfl : j = i := by simpa using hj
  exact wpOp_step ho (fun K' hK => h K' (fun a w hS hW => hK a w ⟨fun _ _ => hS, hW hS⟩))
/-- The last one. -/
theorem till_last {o : Oper} {listed : Array Bool} {a : Act} {w : World} (ho : ops[L]? = some o) (hr : Region.ready md ops listed = [L]) (hd : Region.ready md ops (listed.setIfInBounds L true) = [])
    (h : ∀ K' : Act → World → Prop, Shut (∀ a w, Q .normal a w → K' a w) → if Region.wanted o (yielded ops a.tmps) = true then Oper.wp P o a w K' Q else K' (a.put o.dst undef) w) (fuel : Nat) :
    Till P md ops Q S L (fuel + 1) listed a w := by
  refine ⟨fun e => (by rw [hr] at e; cases e), fun j hj => ?_⟩
  rw [hr] at hj
  obtain rfl : j = L := by simpa using hj
  refine wpOp_step ho (fun K' hK => h K' (fun a w hQ => hK a w ⟨fun e => absurd rfl e, ?_⟩))
  cases fuel with
  | zero => exact ⟨hd, hQ⟩
  | succ f => exact ⟨fun _ => hQ, by rw [hd]; simp⟩
/-- The beginning. -/
theorem wp_region_till (L : Nat) (S : World → Prop) {id : Nat} {a : Act} {w : World} (hm : P.follows .mixedOrders = true) (hS : S w.drew)
    (h : S w.drew → Till P .any ops Q S L ops.size (Array.replicate ops.size false) a w.drew) : (Code.region id ops true).wp P Q a w :=
  wp_region_any hm (wpAny_of_till _ _ _ _ (h hS))
end
end Go.Proofs.YtcgpgflnihjpiafGreat

/- work.open. -/
namespace Go.Proofs.YtcgpgflnihjpiafGreat
open Go.RowKit Go.Shelf

/-- The error of several heads' names. -/
def M.openE (C : List M.Com) (H : List M.Hd) : List ByteArray → Int
  | [] => 0
  | s :: t => if M.hchk C H s ≠ 0 then M.hchk C H s else M.openE C H t
theorem M.openE_bad (C : List M.Com) (H : List M.Hd) (S : List ByteArray) (k : Nat) (h : k < S.length) (s : ByteArray) (e : S.getD k ByteArray.empty = s) (hb : M.hchk C H s ≠ 0) : M.openE C H (S.drop k) = M.hchk C H s := by
  rw [List.drop_eq_getElem_cons h, show S[k] = s by rw [← e]; simp [List.getD, h], M.openE, if_pos hb]
theorem M.openE_good (C : List M.Com) (H : List M.Hd) (S : List ByteArray) (k : Nat) (h : k < S.length) (s : ByteArray) (e : S.getD k ByteArray.empty = s) (hb : M.hchk C H s = 0) : M.openE C H (S.drop k) = M.openE C H (S.drop (k + 1)) := by
  rw [List.drop_eq_getElem_cons h, show S[k] = s by rw [← e]; simp [List.getD, h], M.openE, if_neg (by rw [hb]; simp)]
theorem M.openE_end (C : List M.Com) (H : List M.Hd) (S : List ByteArray) (k : Nat) (h : S.length ≤ k) : M.openE C H (S.drop k) = 0 := by
  rw [List.drop_eq_nil_of_le h]; rfl

/-- One commit more. -/
theorem OwnK.append {w w1 : World} {base : Nat} {v v' : Value} {C : List M.Com} {c : M.Com} {p : Value × Value} {vals : List (Value × Value)} (hl : vals.length = C.length) (h1 : w.ownsRow base 51 2 v C.length (encP vals)) (h2 : ∀ i, i < C.length → OwnCo w base (vals.getD i vp0) (C.getD i ([], [])))
    (hp : OwnCo w base p c) (h3 : w1.ownsRow base 51 2 v' (C.length + 1) (encP vals ++ [p.1, p.2])) (hg : w.grownBy w1 v.ownBlock) : OwnK w1 base v' (C ++ [c]) := by
  have no : ∀ e, e ≠ 51 → ∀ r, v.ownBlock = some r → ∀ cur, w.heap[r]? ≠ some (.cells cur e (0, 0)) := by
    intro e he r hr cur hc
    rcases h1.2 with ⟨rfl, _⟩ | ⟨g, cap, cur', rfl, _, hgb, _⟩
    · simp [Value.ownBlock] at hr
    · obtain rfl : g = r := by simpa [Value.ownBlock] using hr
      rw [hgb] at hc
      simp at hc
      exact he hc.2.symm
  have keep : ∀ q d, OwnCo w base q d → OwnCo w1 base q d := fun q d h => ⟨ownsRow_elsewhere h.1 hg (no _ (by decide)), ownsRow_elsewhere h.2.1 hg (no _ (by decide)), h.2.2⟩
  refine ⟨vals ++ [p], by simp [hl], ?_, fun i hi => ?_⟩
  · rw [encP_append, List.length_append]
    exact h3
  · by_cases hlt : i < C.length
    · have e1 : (vals ++ [p]).getD i vp0 = vals.getD i vp0 := by simp [List.getD, List.getElem?_append_left (show i < vals.length by omega)]
      have e2 : (C ++ [c]).getD i ([], []) = C.getD i ([], []) := by simp [List.getD, List.getElem?_append_left hlt]
      rw [e1, e2]
      exact keep _ _ (h2 i hlt)
    · obtain rfl : i = C.length := by simp at hi; omega
      have e1 : (vals ++ [p]).getD C.length vp0 = p := by rw [← hl]; simp [List.getD]
      have e2 : (C ++ [c]).getD C.length ([], []) = c := by simp [List.getD]
      rw [e1, e2]
      exact keep _ _ hp

/-- What open's first loop keeps. -/
structure Op1 (Wp : World) (D : Nat) (z : Value) (A : List Int) (w : World) : Prop where
  bel : Below Wp.heap.size Wp w
  blk : w.heap[D]? = some (.cells #[.slice none 0 0, .slice none 0 0, z] 82 (0, 0))
  own : OwnI w D z A
theorem Op1.later {Wp : World} {D : Nat} {z : Value} {A : List Int} {w w' : World} (h : Op1 Wp D z A w) (hb : Below w.heap.size w w') : Op1 Wp D z A w' :=
  ⟨h.bel.trans (hb.mono h.bel.size), (hb.block D (Array.getElem?_eq_some_iff.1 h.blk).1).trans h.blk, ownsRow_later h.own hb⟩
theorem Op1.put {Wp : World} {D : Nat} {z z' : Value} {A A' : List Int} {w w' : World} (hD : Wp.heap.size ≤ D) (h : Op1 Wp D z A w) (tmp : Obj) (ho : OwnI w' D z' A') (hg : (w.alloc tmp).grownBy w' z.ownBlock) : Op1 Wp D z' A' (w'.setCell ⟨D, 2, none⟩ z') ∧ w'.heap[D]? = some (.cells #[.slice none 0 0, .slice none 0 0, z] 82 (0, 0)) := by
  have hlt := (Array.getElem?_eq_some_iff.1 h.blk).1
  have hne : z.ownBlock ≠ some D := by
    intro e
    rcases h.own.2 with ⟨rfl, _⟩ | ⟨g, cap, cur', rfl, _, hgb, _⟩
    · simp [Value.ownBlock] at e
    · obtain rfl : g = D := by simpa [Value.ownBlock] using e
      rw [h.blk] at hgb
      simp at hgb
  have hbk : w'.heap[D]? = some (.cells #[.slice none 0 0, .slice none 0 0, z] 82 (0, 0)) := by
    rw [hg.block D (by simp; omega) (fun e => hne e.symm), Below.heap_alloc _ _ _ hlt]; exact h.blk
  have b1 : Below Wp.heap.size Wp w' := (h.bel.alloc h.bel.size tmp).grown hg (by have := h.bel.size; simp; omega) (fun k e => by
    have := (World.ownsRow.lt h.own k e).1; omega)
  refine ⟨⟨b1.setCell (p := ⟨D, 2, none⟩) hD _, ?_, ?_⟩, hbk⟩
  · rw [heap_setCell_same _ _ _ _ _ _ hbk]; rfl
  · refine ownsRow_elsewhere ho (grownBy_set w' ⟨D, 2, none⟩ z') fun r e cur he => ?_
    cases e
    rw [show w'.heap[D]? = _ from hbk] at he
    simp at he

/-- What open's second loop keeps. -/
structure Op2 (Wp : World) (D : Nat) (x y z : Value) (C : List M.Com) (H : List M.Hd) (A : List Int) (w : World) : Prop where
  bel : Below Wp.heap.size Wp w
  blk : w.heap[D]? = some (.cells #[x, y, z] 82 (0, 0))
  k : OwnK w D x C
  h : OwnH w D y H
  i : OwnI w D z A
theorem Op2.later {Wp : World} {D : Nat} {x y z : Value} {C : List M.Com} {H : List M.Hd} {A : List Int} {w w' : World} (h : Op2 Wp D x y z C H A w) (hb : Below w.heap.size w w') : Op2 Wp D x y z C H A w' :=
  ⟨h.bel.trans (hb.mono h.bel.size), (hb.block D (Array.getElem?_eq_some_iff.1 h.blk).1).trans h.blk, h.k.later hb, h.h.later hb, ownsRow_later h.i hb⟩
theorem Op1.next {Wp : World} {D : Nat} {y z : Value} {H : List M.Hd} {A : List Int} {w : World} (hD : Wp.heap.size ≤ D) (h : Op1 Wp D z A w) (ho : OwnH w D y H) : Op2 Wp D (.slice none 0 0) y z [] H A (w.setCell ⟨D, 1, none⟩ y) := by
  have g := grownBy_set w ⟨D, 1, none⟩ y
  refine ⟨h.bel.setCell (p := ⟨D, 1, none⟩) hD _, ?_, OwnK.nil _ _, ho.elsewhere g h.blk (by decide), ownsRow_elsewhere h.own g fun r e cur he => ?_⟩
  · rw [heap_setCell_same _ _ _ _ _ _ h.blk]; rfl
  · cases e
    rw [show w.heap[D]? = _ from h.blk] at he
    simp at he
theorem Op2.put {Wp : World} {D : Nat} {x x' y z : Value} {C : List M.Com} {c : M.Com} {q : Value × Value} {H : List M.Hd} {A : List Int} {w w' : World} {vals : List (Value × Value)} (hD : Wp.heap.size ≤ D) (h : Op2 Wp D x y z C H A w) (tmp : Obj) (hl : vals.length = C.length) (h1 : w.ownsRow D 51 2 x C.length (encP vals)) (h2 : ∀ i, i < C.length → OwnCo w D (vals.getD i vp0) (C.getD i ([], [])))
    (hq : OwnCo w D q c) (h3 : w'.ownsRow D 51 2 x' (C.length + 1) (encP vals ++ [q.1, q.2])) (hg : (w.alloc tmp).grownBy w' x.ownBlock) :
    Op2 Wp D x' y z (C ++ [c]) H A (w'.setCell ⟨D, 0, none⟩ x') ∧ w'.heap[D]? = some (.cells #[x, y, z] 82 (0, 0)) := by
  have hlt := (Array.getElem?_eq_some_iff.1 h.blk).1
  have typ : ∀ r, x.ownBlock = some r → ∃ cur, (w.alloc tmp).heap[r]? = some (.cells cur 51 (0, 0)) := by
    intro r e
    rcases (h1.alloc tmp).2 with ⟨rfl, _⟩ | ⟨g, cap, cur', rfl, _, hgb, _⟩
    · simp [Value.ownBlock] at e
    · obtain rfl : g = r := by simpa [Value.ownBlock] using e
      exact ⟨_, hgb⟩
  have other : ∀ e, e ≠ 51 → ∀ r, x.ownBlock = some r → ∀ cur, (w.alloc tmp).heap[r]? ≠ some (.cells cur e (0, 0)) := by
    intro e he r hr cur hc
    obtain ⟨cur', hcur⟩ := typ r hr
    rw [hcur] at hc
    simp at hc
    exact he hc.2.symm
  have hDa : (w.alloc tmp).heap[D]? = some (.cells #[x, y, z] 82 (0, 0)) := by rw [Below.heap_alloc _ _ _ hlt]; exact h.blk
  have hne : x.ownBlock ≠ some D := fun e => other _ (by decide) D e _ hDa
  have hbk : w'.heap[D]? = some (.cells #[x, y, z] 82 (0, 0)) := by
    rw [hg.block D (by simp; omega) (fun e => hne e.symm)]; exact hDa
  have b1 : Below Wp.heap.size Wp w' := (h.bel.alloc h.bel.size tmp).grown hg (by have := h.bel.size; simp; omega) (fun k e => by
    have := (World.ownsRow.lt h1 k e).1; omega)
  have hba : Below w.heap.size w (w.alloc tmp) := (Below.refl _ _).alloc (Nat.le_refl _) _
  have K' : OwnK w' D x' (C ++ [c]) := OwnK.append hl (h1.alloc tmp) (fun i hi => (h2 i hi).later hba) (hq.later hba) h3 hg
  have g2 := grownBy_set w' ⟨D, 0, none⟩ x'
  refine ⟨⟨b1.setCell (p := ⟨D, 0, none⟩) hD _, ?_, K'.elsewhere g2 hbk (by decide) (by decide) (by decide), OwnH.elsewhere ⟨ownsRow_elsewhere (h.h.later hba).1 hg (other _ (by decide)), h.h.2⟩ g2 hbk (by decide), ?_⟩, hbk⟩
  · rw [heap_setCell_same _ _ _ _ _ _ hbk]; rfl
  · refine ownsRow_elsewhere (ownsRow_elsewhere (ownsRow_later h.i hba) hg (other _ (by decide))) g2 fun r e cur he => ?_
    cases e
    rw [show w'.heap[D]? = _ from hbk] at he
    simp at he

theorem cell_pair_new (w : World) (x y : Value) (t : TypeId) : ∀ j u, [x, y][j]? = some u → (w.alloc (.cells #[x, y] t)).cell? ((⟨w.heap.size, 0, none⟩ : Addr).add j) = some u := by
  intro j u hj
  match j, hj with
  | 0, hj => simp at hj; subst hj; simp [go_sem, Addr.add]
  | 1, hj => simp at hj; subst hj; simp [go_sem, Addr.add]

theorem open_end {Wp wr w5 w6 : World} {p k g6 cap6 : Nat} {x y z v4 v5 c0 c1 : Value} {Ck : List M.Com} {cc : M.Com} {H : List M.Hd} {A : List Int} {vals : List (Value × Value)} (hCl : Ck.length = k) (hVl : vals.length = Ck.length) (hrow : wr.ownsRow (p + 1) 51 2 x k (encP vals)) (hel : ∀ i, i < Ck.length → OwnCo wr (p + 1) (vals.getD i vp0) (Ck.getD i ([], []))) (hsp : Wp.heap.size = p + 1)
    (hw5 : Below wr.heap.size wr w5) (hO : Op2 Wp (p + 1) x y z Ck H A w5) (hq : OwnCo w5 (p + 1) (v4, v5) cc) (h6 : w6.ownsRow (p + 1) 51 2 (.slice (some ⟨g6, 0, none⟩) (k + 1) cap6) (k + 1) (encP vals ++ [v4, v5])) (h7 : (w5.alloc (.cells #[v4, v5] 51)).grownBy w6 x.ownBlock)
    (y0 : w5.cell? ⟨wr.heap.size, 0, none⟩ = some c0) (y1 : w5.cell? ⟨wr.heap.size, 1, none⟩ = some c1) :
    Op2 Wp (p + 1) (.slice (some ⟨g6, 0, none⟩) (k + 1) cap6) y z (Ck ++ [cc]) H A (w6.setCell ⟨p + 1, 0, none⟩ (.slice (some ⟨g6, 0, none⟩) (k + 1) cap6)) ∧ w6.heap[p + 1]? = some (.cells #[x, y, z] 82 (0, 0)) ∧ w6.cell? ⟨wr.heap.size, 0, none⟩ = some c0 ∧ w6.cell? ⟨wr.heap.size, 1, none⟩ = some c1 := by
  subst hCl
  obtain ⟨P1, P2⟩ := hO.put (by omega) (.cells #[v4, v5] 51) hVl (ownsRow_later hrow hw5) (fun i hi => (hel i hi).later hw5) hq h6 h7
  have hlt : wr.heap.size < w5.heap.size := World.block_lt_of_cell? w5 ⟨wr.heap.size, 0, none⟩ y0
  have hb : w6.heap[wr.heap.size]? = w5.heap[wr.heap.size]? := by
    rw [h7.block wr.heap.size (by simp; omega) (fun e => by have := (World.ownsRow.lt hrow _ e.symm).2; omega), Below.heap_alloc _ _ _ hlt]
  exact ⟨P1, P2, (World.cell?_of_block (a := ⟨wr.heap.size, 0, none⟩) hb).trans y0, (World.cell?_of_block (a := ⟨wr.heap.size, 1, none⟩) hb).trans y1⟩

/-- Names in memory. -/
def Ns (w : World) (b n : Nat) (S : List ByteArray) : Prop := S.length = n ∧ b < w.heap.size ∧ ∀ i, i < n → w.cell? ⟨b, i, none⟩ = some (.string (S.getD i ByteArray.empty))

set_option maxRecDepth 100000 in
set_option maxHeartbeats 8000000 in
theorem open_any (a : Option Addr) (n cap : Nat) (C : List M.Com) (a2 : Option Addr) (n2 cap2 : Nat) (H : List M.Hd) (nb k0 : Nat) (S : List ByteArray) (w : World) (hV : RepoV w a n cap C a2 n2 cap2 H) (hS : Ns w nb k0 S) (hk0 : k0 ≤ 1000) (hk1 : 0 < k0) :
    Calls Tryz.prog 40 #[.agg #[.slice a n cap, .slice a2 n2 cap2], .slice (some ⟨nb, 0, none⟩) k0 k0] w fun e w' => Below w.heap.size w w' ∧
      ((M.openE C H S ≠ 0 ∧ e = .returned (.tuple #[.pointer none, .int .i64 (M.openE C H S)])) ∨ (M.openE C H S = 0 ∧ M.rchk C H = 0 ∧ ∃ D, e = .returned (.tuple #[.pointer (some ⟨D, 0, none⟩), .int .i64 0]) ∧ DeskAt w' w.heap.size D C H (S.map (M.hat C H)))) := by
  obtain ⟨p, hp⟩ : ∃ p, p = w.heap.size := ⟨_, rfl⟩
  have I0 := InBox.new w a n cap C a2 n2 cap2 H hV.cm hV.hs
  obtain ⟨Wp, hWp⟩ : ∃ Wp, Wp = w.alloc (.cells #[.slice a n cap, .slice a2 n2 cap2] 25) := ⟨_, rfl⟩
  rw [← hWp, ← hp] at I0
  have hbp : Below w.heap.size w Wp := by rw [hWp]; exact (Below.refl _ _).alloc (Nat.le_refl _) _
  have hsp : Wp.heap.size = p + 1 := by rw [hWp, hp]; simp
  obtain ⟨W, hW⟩ : ∃ W, W = Wp.alloc (.cells #[.slice none 0 0, .slice none 0 0, .slice none 0 0] 82) := ⟨_, rfl⟩
  have O0 : Op1 Wp (p + 1) (.slice none 0 0) [] W := by
    refine ⟨by rw [hW]; exact (Below.refl _ _).alloc (Nat.le_refl _) _, ?_, OwnI.nil _ _⟩
    rw [hW, ← hsp]; exact heap_alloc_new _ _
  have HI : Aside (InBox Wp p a n cap C a2 n2 cap2 H) := I0
  have HV : Aside (RepoV Wp a n cap C a2 n2 cap2 H) := hV.later hbp
  have HS : Aside (Ns Wp nb k0 S) := ⟨hS.1, Nat.lt_of_lt_of_le hS.2.1 hbp.size, fun i hi => (hbp.cell (p := ⟨nb, i, none⟩) hS.2.1).trans (hS.2.2 i hi)⟩
  have HW : Hid (W = (w.alloc (.cells #[.slice a n cap, .slice a2 n2 cap2] 25)).alloc (.cells #[.slice none 0 0, .slice none 0 0, .slice none 0 0] 82)) := by rw [← hWp]; exact hW
  have HP : Aside (p = w.heap.size) := hp
  have HO : Aside (Op1 Wp (p + 1) (.slice none 0 0) [] W) := O0
  obtain ⟨i0, hi, hz0, hz1, hz2⟩ := info_parts infoInt
  obtain ⟨i1, hi1, hy0, hy1, hy2⟩ := info_parts infoCommit
  clear hW hWp hp I0 O0 hV hS
  go_enter Tryz.func40, Tryz.ntmps40
  go_wp2_with fail
  rw [← HW.out, ← HP.out]
  go_loopg [17] k0 (fun g i wr => ∃ (j : Nat) (z : Value), j + g = k0 ∧ i = .int .i64 j ∧ Aside (Op1 Wp (p + 1) z ((S.take j).map (M.hat C H)) wr) ∧ Aside (M.openE C H (S.drop j) = M.openE C H S) ∧ Aside (0 < j → M.rchk C H = 0))
  case atStart => exact ⟨0, _, by omega, rfl, HO, by simp [Aside], fun h => by omega⟩
  case round =>
    obtain ⟨j, z, hj, rfl, HOj, A, HRj⟩ := hrel
    have hbel := HOj.out.bel
    have J := HI.out.below hbel
    have d0 := J.c0
    have d1 := J.c1
    have hbw : Below w.heap.size w wr := hbp.trans (hbel.mono hbp.size)
    by_cases hlt : j < k0
    · obtain ⟨s, hs⟩ : ∃ s, S.getD j ByteArray.empty = s := ⟨_, rfl⟩
      have cn : wr.cell? ⟨nb, j, none⟩ = some (.string s) := by rw [hbel.cell (p := ⟨nb, j, none⟩) HS.out.2.1, HS.out.2.2 j hlt, hs]
      have HK := head_any a n cap C a2 n2 cap2 H s wr J.cm HV.out.nm J.hs HV.out.hm
      obtain ⟨c, hc⟩ : ∃ c, c = M.hchk C H s := ⟨_, rfl⟩
      obtain ⟨x, hx⟩ : ∃ x, x = M.hat C H s := ⟨_, rfl⟩
      rw [← hc, ← hx] at HK
      have HKK : Hid (Calls Tryz.prog 13 #[.agg #[.slice a n cap, .slice a2 n2 cap2], .string s] wr fun e w' => e = .returned (.tuple #[.int .i64 x, .int .i64 c]) ∧ Below wr.heap.size wr w') := HK
      have HSs : Aside (S.getD j ByteArray.empty = s) := hs
      have HCc : Aside (c = M.hchk C H s) := hc
      have HXx : Aside (x = M.hat C H s) := hx
      have hji : (j : Int) < (k0 : Int) := by omega
      clear HK hs hc hx J
      go_wp2_with fail
      refine HKK.out.mono ?_
      rintro e w1 ⟨rfl, b1⟩
      have HO1 : Aside (Op1 Wp (p + 1) z ((S.take j).map (M.hat C H)) w1) := HOj.out.later b1
      have hb1 : Below w.heap.size w w1 := hbw.trans (b1.mono hbw.size)
      clear b1
      by_cases hz : c = 0
      · have hne : (c != 0) = false := by simp [hz]
        have HZ : Aside (M.hchk C H s = 0) := by unfold Aside; rw [← HCc.out]; exact hz
        have A2 : Aside (M.openE C H (S.drop (j + 1)) = M.openE C H S) := by unfold Aside; rw [← A.out, M.openE_good C H S j (by rw [HS.out.1]; exact hlt) s HSs.out HZ.out]
        have HR2 : Aside (0 < j + 1 → M.rchk C H = 0) := fun _ => (M.hchk_zero HZ.out).1
        have eT : (S.take (j + 1)).map (M.hat C H) = (S.take j).map (M.hat C H) ++ [x] := by
          rw [List.take_succ_eq_append_getElem (by rw [HS.out.1]; exact hlt), List.map_append]
          have : S[j]'(by rw [HS.out.1]; exact hlt) = s := by rw [← HSs.out]; simp [List.getD, HS.out.1, hlt]
          rw [this, HXx.out]; rfl
        have ET : Aside ((S.take (j + 1)).map (M.hat C H) = (S.take j).map (M.hat C H) ++ [x]) := eT
        have hlen : ((S.take j).map (M.hat C H)).length ≤ 1000 := by rw [List.length_map, List.length_take]; omega
        have k2 : w1.cell? ⟨p + 1, 2, none⟩ = some z := by rw [cell_of_row _ _ _ _ _ _ HO1.out.blk]; rfl
        have hDl : p + 1 < w1.heap.size := (Array.getElem?_eq_some_iff.1 HO1.out.blk).1
        have HOa : Aside (OwnI (w1.alloc (.cells #[.int .i64 x] 3)) (p + 1) z ((S.take j).map (M.hat C H))) := World.ownsRow.alloc HO1.out.own _
        obtain ⟨L, hL⟩ : ∃ L, L = (S.take j).map (M.hat C H) := ⟨_, rfl⟩
        rw [← hL] at ET hlen HOa HO1
        have HCell : Aside (∀ i, i < 1 → (w1.alloc (.cells #[.int .i64 x] 3)).cell? ⟨w1.heap.size, 0 + i, none⟩ = some (.int .i64 (([x] : List Int).getD i 0))) := ri_one w1 x
        have hzs : ∃ za zn zc, z = .slice za zn zc := by obtain ⟨za, zc, e, _⟩ := HO1.out.own.ri; exact ⟨za, _, zc, e⟩
        obtain ⟨za, zn, zc, rfl⟩ := hzs
        have HLn : Aside (L = (S.take j).map (M.hat C H)) := hL
        clear hz eT A hL HOj
        go_wp2_with (at_builtin; refine wpList_append_own _ rfl _ _ 38 rfl (p + 1) 3 i0 (.int .i64 0) 1 8 Tryz.underlying38 hi hz0 hz1 hz2 rfl (by decide) _ L.length (L.map (Value.int .i64)) rfl HOa.out ⟨w1.heap.size, 0, none⟩ 1 1 [.int .i64 x] rfl rfl (cell_one_new _ _ _) (by simp [Value.oneCell']) (by simp only [maxLen]; omega) (by omega) (by simp; omega) ?_)
        intro v' w' h1 h2 _
        obtain ⟨g', cap', rfl⟩ := ownsRow_succ h1
        have hoI : OwnI w' (p + 1) (.slice (some ⟨g', 0, none⟩) (L.length + 1) cap') (L ++ [x]) := by unfold OwnI; rw [List.map_append, List.length_append]; exact h1
        obtain ⟨P1, P2⟩ := HO1.out.put (by omega) (.cells #[.int .i64 x] 3) hoI h2
        have k3 : w'.cell? ⟨p + 1, 2, none⟩ = some (.slice za zn zc) := by rw [cell_of_row _ _ _ _ _ _ P2]; rfl
        have f3 : w'.frozen? ⟨p + 1, 2, none⟩ = false := frozen_of_row _ _ _ _ _ P2
        have HP1 : Aside (Op1 Wp (p + 1) (.slice (some ⟨g', 0, none⟩) (L.length + 1) cap') ((S.take (j + 1)).map (M.hat C H)) (w'.setCell ⟨p + 1, 2, none⟩ (.slice (some ⟨g', 0, none⟩) (L.length + 1) cap'))) := by unfold Aside; rw [ET.out]; exact P1
        generalize hLe : L.length + 1 = Ln at *
        clear hLe P1 P2 h1 h2 hoI HO1 HOa
        go_wp2
        go_roundg (gk - 1)
        case measure => omega
        case rel => exact ⟨j + 1, _, by omega, by go_num, HP1, A2, HR2⟩
      · have hne : (c != 0) = true := by simp [hz]
        have E : Aside (M.openE C H S = c ∧ c ≠ 0) := ⟨by rw [← A.out, M.openE_bad C H S j (by rw [HS.out.1]; exact hlt) s HSs.out (by rw [← HCc.out]; exact hz)]; exact HCc.out.symm, hz⟩
        clear hz
        go_wp2
        go_ret2
        refine ⟨hb1, Or.inl ⟨?_, ?_⟩⟩
        · rw [E.out.1]; exact E.out.2
        · exact ret_two' E.out.1.symm
    · obtain rfl : j = k0 := by omega
      have hkk : decide ((j : Int) < (j : Int)) = false := by simp
      have hr0 := HRj.out hk1
      have hn2 : n2 ≤ 4 := by rw [← J.hs.1]; exact (M.rchk_zero hr0).2.1
      have hR := M.dchk_zero (M.rchk_zero hr0).1
      have hn : n ≤ 14 := by rw [← J.cm.1]; exact hR.1
      have HRt : Aside (M.Right C) := hR.2
      have HR0 : Aside (M.rchk C H = 0) := hr0
      have EA : Aside (M.openE C H S = 0) := by unfold Aside; rw [← A.out]; exact M.openE_end C H S j (by rw [HS.out.1]; omega)
      have hO := HOj.out
      rw [List.take_of_length_le (by rw [HS.out.1]; omega)] at hO
      have HCl := hcloned_any a2 n2 cap2 H wr (by omega) J.hs HV.out.hn
      have HCC : Hid (Calls Tryz.prog 87 #[.slice a2 n2 cap2] wr fun e w' => ∃ v, e = .returned v ∧ OwnH w' wr.heap.size v H ∧ Below wr.heap.size wr w') := HCl
      obtain ⟨Am, hAm⟩ : ∃ Am, Am = S.map (M.hat C H) := ⟨_, rfl⟩
      rw [← hAm] at hO
      have HAm : Aside (Am = S.map (M.hat C H)) := hAm
      have HO1 : Aside (Op1 Wp (p + 1) z Am wr) := hO
      have hDw : p + 1 < wr.heap.size := (Array.getElem?_eq_some_iff.1 hO.blk).1
      clear HCl hO hr0 hR A HRj HOj hAm J
      go_wp2_with fail
      refine HCC.out.mono ?_
      rintro e w1 ⟨v, rfl, ov, b1⟩
      obtain ⟨va, vc, rfl, _⟩ := ov.hs
      have O1 := HO1.out.later b1
      have k1 : w1.cell? ⟨p + 1, 1, none⟩ = some (.slice none 0 0) := by rw [cell_of_row _ _ _ _ _ _ O1.blk]; rfl
      have f1 : w1.frozen? ⟨p + 1, 1, none⟩ = false := frozen_of_row _ _ _ _ _ O1.blk
      have hD1 : p + 1 < w1.heap.size := (Array.getElem?_eq_some_iff.1 O1.blk).1
      obtain ⟨y, hy⟩ : ∃ y : Value, y = .slice va H.length vc := ⟨_, rfl⟩
      have O2 := Op1.next (by omega) O1 (OwnH.lower (base' := p + 1) ov (by omega))
      obtain ⟨W2, hW2⟩ : ∃ W2, W2 = w1.setCell ⟨p + 1, 1, none⟩ (.slice va H.length vc) := ⟨_, rfl⟩
      have HW2 : Hid (W2 = w1.setCell ⟨p + 1, 1, none⟩ (.slice va H.length vc)) := hW2
      rw [← hW2, ← hy] at O2
      have HO2 : Aside (Op2 Wp (p + 1) (.slice none 0 0) y z [] H Am W2) := O2
      have e0 := (HI.out.below O2.bel).c0
      rw [hW2] at e0
      have g0 := (HI.out.below O1.bel).c0
      clear hy hW2 O1 O2 ov b1 HCC d0 d1
      go_wp2
      rw [← HW2.out]
      go_loopg [51] n (fun g i wr => ∃ (k : Nat) (x : Value), k + g = n ∧ i = .int .i64 k ∧ Aside (Op2 Wp (p + 1) x y z (C.take k) H Am wr))
      case atStart => exact ⟨0, _, by omega, rfl, HO2⟩
      case round =>
        obtain ⟨k, x, hk, rfl, HOk⟩ := hrel
        have hbel := HOk.out.bel
        have J := HV.out.later hbel
        have hbw : Below w.heap.size w wr := hbp.trans (hbel.mono hbp.size)
        by_cases hlt : k < n
        · obtain ⟨b, off, rfl, a1, n1, c1, a3, n3, c3, t0, t1, s0, s1, m0, m1⟩ : ∃ b off, a = some ⟨b, off, none⟩ ∧ ∃ a1 n1 c1 a2 n2 c2, wr.cell? ⟨b, off + k * 2, none⟩ = some (.slice a1 n1 c1) ∧ wr.cell? ⟨b, off + k * 2 + 1, none⟩ = some (.slice a2 n2 c2) ∧ Rd wr a1 n1 (C.getD k ([], [])).1 ∧ Ri wr a2 n2 (C.getD k ([], [])).2 ∧ n1 ≤ 9223372036854775807 ∧ n2 ≤ 9223372036854775807 := by
            rcases J.cm.cases with ⟨h0, _⟩ | ⟨b, off, e, _, _, _, hc⟩
            · omega
            · exact ⟨b, off, e, hc k hlt⟩
          obtain ⟨cc, hcc⟩ : ∃ cc, cc = C.getD k ([], []) := ⟨_, rfl⟩
          rw [← hcc] at s0 s1
          have hRk := HRt.out k (by rw [J.cm.1]; exact hlt)
          rw [← hcc] at hRk
          have hn1 : n1 ≤ 40 := by rw [← s0.1]; exact ((M.chk_zero cc.1).1 hRk.1).1
          have hn3 : n3 ≤ 2 := by rw [← s1.1]; exact hRk.2.1
          have nil1 := J.cn b off rfl k hlt a1 n1 c1 (Or.inl t0)
          have nil3 := J.cn b off rfl k hlt a3 n3 c3 (Or.inr t1)
          have eT : C.take (k + 1) = C.take k ++ [cc] := by rw [List.take_succ_eq_append_getElem (by rw [J.cm.1]; exact hlt), hcc]; simp [List.getD, J.cm.1, hlt]
          have ET : Aside (C.take (k + 1) = C.take k ++ [cc]) := eT
          obtain ⟨Ck, hCk⟩ : ∃ Ck, Ck = C.take k := ⟨_, rfl⟩
          have hCl : Ck.length = k := by rw [hCk, List.length_take, J.cm.1]; omega
          rw [← hCk] at ET HOk
          have HCl : Aside (Ck.length = k) := hCl
          obtain ⟨vals, hvl, hrow, hel⟩ := HOk.out.k
          have HVl : Aside (vals.length = Ck.length) := hvl
          have HRow : Aside (wr.ownsRow (p + 1) 51 2 x k (encP vals)) := by unfold Aside; rw [← hCl]; exact hrow
          have HEl : Aside (∀ i, i < Ck.length → OwnCo wr (p + 1) (vals.getD i vp0) (Ck.getD i ([], []))) := hel
          obtain ⟨xa, xn, xc, rfl⟩ : ∃ xa xn xc, x = .slice xa xn xc := by obtain ⟨xa, xc, e, _⟩ := HOk.out.k.cm; exact ⟨xa, _, xc, e⟩
          have hDr : p + 1 < wr.heap.size := (Array.getElem?_eq_some_iff.1 HOk.out.blk).1
          obtain ⟨Wc, hWc⟩ : ∃ Wc, Wc = wr.alloc (.cells #[.slice a1 n1 c1, .slice a3 n3 c3] 51) := ⟨_, rfl⟩
          have hbc : Below wr.heap.size wr Wc := by rw [hWc]; exact (Below.refl _ _).alloc (Nat.le_refl _) _
          have q0 : Wc.cell? ⟨wr.heap.size, 0, none⟩ = some (.slice a1 n1 c1) := by rw [hWc]; simp [go_sem]
          have q1 : Wc.cell? ⟨wr.heap.size, 1, none⟩ = some (.slice a3 n3 c3) := by rw [hWc]; simp [go_sem]
          have hcs : wr.heap.size < Wc.heap.size := by rw [hWc]; simp
          have HCB : Hid (∀ V, Below Wc.heap.size Wc V → V.cell? ⟨wr.heap.size, 0, none⟩ = some (.slice a1 n1 c1) ∧ V.cell? ⟨wr.heap.size, 1, none⟩ = some (.slice a3 n3 c3)) := fun V hV => ⟨(hV.cell (p := ⟨wr.heap.size, 0, none⟩) hcs).trans q0, (hV.cell (p := ⟨wr.heap.size, 1, none⟩) hcs).trans q1⟩
          have HOV : Hid (∀ V, Below Wc.heap.size Wc V → Op2 Wp (p + 1) (.slice xa xn xc) y z Ck H Am V) := fun V hV => HOk.out.later (hbc.trans (hV.mono hbc.size))
          have HDV : Hid (∀ V, Below Wc.heap.size Wc V → V.cell? ⟨p + 1, 0, none⟩ = some (.slice xa xn xc)) := fun V hV => by rw [cell_of_row _ _ _ _ _ _ (HOV.out V hV).blk]; rfl
          have HC1 : Hid (∀ V, Below Wc.heap.size Wc V → Calls Tryz.prog 88 #[.slice a1 n1 c1] V fun e w' => ∃ ua uc, e = .returned (.slice ua n1 uc) ∧ Own w' Wc.heap.size (.slice ua n1 uc) cc.1 ∧ Below V.heap.size V w') := fun V hV => by
            refine (cloned_any a1 n1 c1 cc.1 V (by omega) ((s0.below hbc (Nat.le_refl _)).below hV (Nat.le_refl _)) nil1).mono ?_
            rintro e w' ⟨v, rfl, ho, hb⟩
            obtain ⟨ua, uc, rfl, _⟩ := ho.rd
            have : cc.1.length = n1 := s0.1
            exact ⟨ua, uc, by rw [this], by rw [← this]; exact ownsRow_lower ho hV.size, hb⟩
          have HC2 : Hid (∀ V, Below Wc.heap.size Wc V → Calls Tryz.prog 89 #[.slice a3 n3 c3] V fun e w' => ∃ ua uc, e = .returned (.slice ua n3 uc) ∧ OwnI w' Wc.heap.size (.slice ua n3 uc) cc.2 ∧ Below V.heap.size V w') := fun V hV => by
            refine (icloned_any a3 n3 c3 cc.2 V (by omega) ((s1.below hbc (Nat.le_refl _)).below hV (Nat.le_refl _)) nil3).mono ?_
            rintro e w' ⟨v, rfl, ho, hb⟩
            obtain ⟨ua, uc, rfl, _⟩ := ho.ri
            have : cc.2.length = n3 := s1.1
            exact ⟨ua, uc, by rw [this], by rw [← this]; exact ownsRow_lower ho hV.size, hb⟩
          have HLe : Hid (cc.1.length ≤ 1000000 ∧ cc.2.length ≤ 1000000) := ⟨by rw [s0.1]; omega, by rw [s1.1]; omega⟩
          have dD := HDV.out Wc (Below.refl _ _)
          have HWc : Hid (Wc = wr.alloc (.cells #[.slice a1 n1 c1, .slice a3 n3 c3] 51)) := hWc
          have hki : (k : Int) < (n : Int) := by omega
          have hk14 : k ≤ 14 := by omega
          have hpc : p + 1 < Wc.heap.size := by omega
          clear hcc hRk nil1 nil3 eT hCk hCl hvl hrow hel hWc s0 s1 J
          go_wp2_with fail
          rw [← HWc.out]
          refine wp_region_till 18 (fun V => V.cell? ⟨p + 1, 0, none⟩ = some (.slice xa xn xc) ∧ V.cell? ⟨wr.heap.size, 0, none⟩ = some (.slice a1 n1 c1) ∧ V.cell? ⟨wr.heap.size, 1, none⟩ = some (.slice a3 n3 c3)) (by kernel_rfl) ⟨dD, q0, q1⟩ (fun hHeld => ?_)
          refine till_go 0 (v := .pointer (some ⟨p + 1, 0, none⟩)) rfl (by decide) (by kernel_rfl) (by kernel_rfl) (by kernel_rfl) (fun _ _ _ h => h) (Or.inl ⟨by rfl, fun V _ => (by go_simp)⟩) hHeld ?_
          try simp only [Act.put]
          refine till_go 1 (v := .pointer (some ⟨p + 1, 0, none⟩)) rfl (by decide) (by kernel_rfl) (by kernel_rfl) (by kernel_rfl) (fun _ _ _ h => h) (Or.inl ⟨by rfl, fun V _ => (by go_simp)⟩) hHeld ?_
          try simp only [Act.put]
          refine till_go 2 (v := .pointer (some ⟨p + 1, 0, none⟩)) rfl (by decide) (by kernel_rfl) (by kernel_rfl) (by kernel_rfl) (fun _ _ _ h => h) (Or.inl ⟨by rfl, fun V _ => (by go_simp)⟩) hHeld ?_
          try simp only [Act.put]
          refine till_go 3 (v := .pointer (some ⟨p + 1, 0, none⟩)) rfl (by decide) (by kernel_rfl) (by kernel_rfl) (by kernel_rfl) (fun _ _ _ h => h) (Or.inl ⟨by rfl, fun V _ => (by go_simp)⟩) hHeld ?_
          try simp only [Act.put]
          refine till_go 4 (v := .pointer (some ⟨p + 1, 0, none⟩)) rfl (by decide) (by kernel_rfl) (by kernel_rfl) (by kernel_rfl) (fun _ _ _ h => h) (Or.inl ⟨by rfl, fun V _ => (by go_simp)⟩) hHeld ?_
          try simp only [Act.put]
          refine till_take 5 (v := .slice xa xn xc) rfl (by decide) (by kernel_rfl) (by kernel_rfl) (by kernel_rfl) (by kernel_rfl) (by kernel_rfl) (fun _ _ _ h => h) (Or.inl ⟨by rfl, fun V hV => (by obtain ⟨v0, v1, v2⟩ := hV; go_simp)⟩) hHeld ?_
          try simp only [Act.put]
          refine till_go 6 (v := .pointer (some ⟨wr.heap.size, 0, none⟩)) rfl (by decide) (by kernel_rfl) (by kernel_rfl) (by kernel_rfl) (fun _ _ _ h => h) (Or.inl ⟨by rfl, fun V _ => (by go_simp)⟩) hHeld ?_
          try simp only [Act.put]
          refine till_take 7 (v := .slice a1 n1 c1) rfl (by decide) (by kernel_rfl) (by kernel_rfl) (by kernel_rfl) (by kernel_rfl) (by kernel_rfl) (fun _ _ _ h => h) (Or.inl ⟨by rfl, fun V hV => (by obtain ⟨v0, v1, v2⟩ := hV; go_simp)⟩) hHeld ?_
          try simp only [Act.put]
          refine till_go 9 (v := .pointer (some ⟨wr.heap.size, 1, none⟩)) rfl (by decide) (by kernel_rfl) (by kernel_rfl) (by kernel_rfl) (fun _ _ _ h => h) (Or.inl ⟨by rfl, fun V _ => (by go_simp)⟩) hHeld ?_
          try simp only [Act.put]
          refine till_take 10 (v := .slice a3 n3 c3) rfl (by decide) (by kernel_rfl) (by kernel_rfl) (by kernel_rfl) (by kernel_rfl) (by kernel_rfl) (fun _ _ _ h => h) (Or.inl ⟨by rfl, fun V hV => (by obtain ⟨v0, v1, v2⟩ := hV; go_simp)⟩) hHeld ?_
          try simp only [Act.put]
          refine till_step 8 rfl (by decide) (by kernel_rfl) (fun K hK => ?_)
          go_simp
          go_wp2_with (go_at_call 88; refine (HC1.out _ ((Below.refl _ _).drew)).mono ?_; rintro e w4 ⟨ua, uc, rfl, ho4, hb4⟩)
          have b4 : Hid (Below Wc.heap.size Wc w4) := ((Below.refl _ _).drew).trans hb4
          have hAnew : Hid (w4.cell? ⟨p + 1, 0, none⟩ = some (.slice xa xn xc) ∧ w4.cell? ⟨wr.heap.size, 0, none⟩ = some (.slice a1 n1 c1) ∧ w4.cell? ⟨wr.heap.size, 1, none⟩ = some (.slice a3 n3 c3)) := ⟨HDV.out w4 b4.out, HCB.out w4 b4.out⟩
          have H4 : Hid (Own w4 Wc.heap.size (.slice ua n1 uc) cc.1) := ho4
          clear ho4 hb4
          refine hK.out _ _ hAnew.out (fun hHeld => ?_)
          clear hK K
          refine till_step 11 rfl (by decide) (by kernel_rfl) (fun K hK => ?_)
          go_simp
          go_wp2_with (go_at_call 89; refine (HC2.out _ b4.out).mono ?_; rintro e w5 ⟨ub, ud, rfl, ho5, hb5⟩)
          have b5 : Hid (Below Wc.heap.size Wc w5) := b4.out.trans (hb5.mono b4.out.size)
          have hAnew : Hid (w5.cell? ⟨p + 1, 0, none⟩ = some (.slice xa xn xc) ∧ w5.cell? ⟨wr.heap.size, 0, none⟩ = some (.slice a1 n1 c1) ∧ w5.cell? ⟨wr.heap.size, 1, none⟩ = some (.slice a3 n3 c3)) := ⟨HDV.out w5 b5.out, HCB.out w5 b5.out⟩
          have H5 : Hid (OwnCo w5 (p + 1) (.slice ua n1 uc, .slice ub n3 ud) cc) := ⟨ownsRow_lower (ownsRow_later H4.out hb5) (by omega), ownsRow_lower ho5 (by omega), HLe.out⟩
          have hs5 : wr.heap.size < w5.heap.size := by have := b5.out.size; omega
          have hw5 : Below wr.heap.size wr w5 := hbc.trans (b5.out.mono hbc.size)
          have HRA : Hid ((w5.alloc (.cells #[.slice ua n1 uc, .slice ub n3 ud] 51)).ownsRow (p + 1) 51 2 (.slice xa xn xc) k (encP vals)) := (ownsRow_later HRow.out hw5).alloc _
          have hA5 : Hid ((w5.alloc (.cells #[.slice ua n1 uc, .slice ub n3 ud] 51)).cell? ⟨p + 1, 0, none⟩ = some (.slice xa xn xc) ∧ (w5.alloc (.cells #[.slice ua n1 uc, .slice ub n3 ud] 51)).cell? ⟨wr.heap.size, 0, none⟩ = some (.slice a1 n1 c1) ∧ (w5.alloc (.cells #[.slice ua n1 uc, .slice ub n3 ud] 51)).cell? ⟨wr.heap.size, 1, none⟩ = some (.slice a3 n3 c3)) := ⟨((Below.refl w5.heap.size w5).alloc (Nat.le_refl _) _).cell (p := ⟨p + 1, 0, none⟩) (by show p + 1 < _; omega) |>.trans hAnew.out.1, ((Below.refl w5.heap.size w5).alloc (Nat.le_refl _) _).cell (p := ⟨wr.heap.size, 0, none⟩) hs5 |>.trans hAnew.out.2.1, ((Below.refl w5.heap.size w5).alloc (Nat.le_refl _) _).cell (p := ⟨wr.heap.size, 1, none⟩) hs5 |>.trans hAnew.out.2.2⟩
          clear ho5 hb5
          refine hK.out _ _ hAnew.out (fun hHeld => ?_)
          clear hK K
          refine till_go 12 (v := .agg #[.slice ua n1 uc, .slice ub n3 ud]) rfl (by decide) (by kernel_rfl) (by kernel_rfl) (by kernel_rfl) (fun _ _ _ h => h) (Or.inl ⟨by rfl, fun V _ => (by go_simp)⟩) hHeld ?_
          try simp only [Act.put]
          refine till_step 13 rfl (by decide) (by kernel_rfl) (fun K hK => ?_)
          go_simp
          refine hK.out _ _ hA5.out (fun hHeld => ?_)
          clear hK K
          refine till_step 14 rfl (by decide) (by kernel_rfl) (fun K hK => ?_)
          refine step_append_lies _ rfl _ _ 22 rfl (p + 1) 51 i1 (.agg #[.slice none 0 0, .slice none 0 0]) 2 48 Tryz.underlying22 hi1 hy0 hy1 hy2 rfl (by decide) _ k (encP vals) rfl HRA.out ⟨w5.heap.size, 0, none⟩ 1 1 [.slice ua n1 uc, .slice ub n3 ud] rfl rfl (cell_pair_new _ _ _ _) (by simp [Value.oneCell']) (by decide) (by simp only [maxLen]; omega) (by omega) (by simp; omega) _ rfl ?_
          intro g6 cap6 w6 h6 h7 _ _
          obtain ⟨P1, P2, P3⟩ := open_end HCl.out HVl.out HRow.out HEl.out hsp hw5 (HOV.out w5 b5.out) H5.out h6 h7 hAnew.out.2.1 hAnew.out.2.2
          have k6 : w6.cell? ⟨p + 1, 0, none⟩ = some (.slice xa xn xc) := by rw [cell_of_row _ _ _ _ _ _ P2]; rfl
          have f6 : w6.frozen? ⟨p + 1, 0, none⟩ = false := frozen_of_row _ _ _ _ _ P2
          have hA6 : Hid (w6.cell? ⟨p + 1, 0, none⟩ = some (.slice xa xn xc) ∧ w6.cell? ⟨wr.heap.size, 0, none⟩ = some (.slice a1 n1 c1) ∧ w6.cell? ⟨wr.heap.size, 1, none⟩ = some (.slice a3 n3 c3)) := ⟨k6, P3⟩
          have HE6 : Aside (Op2 Wp (p + 1) (.slice (some ⟨g6, 0, none⟩) (k + 1) cap6) y z (C.take (k + 1)) H Am (w6.setCell ⟨p + 1, 0, none⟩ (.slice (some ⟨g6, 0, none⟩) (k + 1) cap6))) := by unfold Aside; rw [ET.out]; exact P1
          clear P1 P2 P3 h6 h7
          refine hK.out _ _ hA6.out (fun hHeld => ?_)
          clear hK K
          refine till_go 15 (v := .pointer (some ⟨p + 1, 0, none⟩)) rfl (by decide) (by kernel_rfl) (by kernel_rfl) (by kernel_rfl) (fun _ _ _ h => h) (Or.inl ⟨by rfl, fun V _ => (by go_simp)⟩) hHeld ?_
          try simp only [Act.put]
          refine till_go 16 (v := .pointer (some ⟨p + 1, 0, none⟩)) rfl (by decide) (by kernel_rfl) (by kernel_rfl) (by kernel_rfl) (fun _ _ _ h => h) (Or.inl ⟨by rfl, fun V _ => (by go_simp)⟩) hHeld ?_
          try simp only [Act.put]
          refine till_go 17 (v := .pointer (some ⟨p + 1, 0, none⟩)) rfl (by decide) (by kernel_rfl) (by kernel_rfl) (by kernel_rfl) (fun _ _ _ h => h) (Or.inl ⟨by rfl, fun V _ => (by go_simp)⟩) hHeld ?_
          try simp only [Act.put]
          refine till_last rfl (by kernel_rfl) (by kernel_rfl) (fun K hK => ?_) _
          go_simp
          refine hK.out _ _ ?_
          clear hK K
          clear hAnew hA5 hA6 HRA H5 H4 HC1 HC2 HOV HDV HCB
          go_wp2
          go_roundg (gk - 1)
          case measure => omega
          case rel => exact ⟨k + 1, _, by omega, by go_num, HE6⟩
        · obtain rfl : k = n := by omega
          have hkk2 : decide ((k : Int) < (k : Int)) = false := by simp
          have hO := HOk.out
          rw [List.take_of_length_le (by rw [J.cm.1]; omega)] at hO
          have HD : Aside (DeskAt wr w.heap.size (p + 1) C H (S.map (M.hat C H))) := by
            unfold Aside
            rw [← HAm.out]
            exact ⟨x, y, z, hO.blk, by rw [← HP.out]; omega, hO.k.lower (by rw [← HP.out]; omega), hO.h.lower (by rw [← HP.out]; omega), ownsRow_lower hO.i (by rw [← HP.out]; omega)⟩
          clear hO HOk J
          go_wp2
          go_ret2
          exact ⟨hbw, Or.inr ⟨EA.out, HR0.out, p + 1, rfl, HD.out⟩⟩
end Go.Proofs.YtcgpgflnihjpiafGreat
