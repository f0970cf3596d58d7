/- Rep3. -/
import Derived.Test.YtcgpgflnihjpiagGreatBRestRepos04
import Derived.Test.YtcgpgflnihjpiagGreatBRestRepos03
import Derived.Test.YtcgpgflnihjpiagGreatBRestRepos01
import Derived.Lib.OthersKept
import Derived.Shelf.Abstract
import Derived.Test.YtcgpgflnihjpiagGreatBRestRepos02
import Derived.Lib.SliceRun
import Derived.Deep.AppendLies
import Derived.Maps.AppendAt
namespace Go.Proofs.YtcgpgflnihjpiagGreat.M
open Go.RowKit
def setH (H : List Hd) (k : Nat) (x : Int) : List Hd := H.set k ((H.getD k hd0).1, x)
end Go.Proofs.YtcgpgflnihjpiagGreat.M

/- Name1. -/
namespace Go.Proofs.YtcgpgflnihjpiagGreat
open Go.RowKit Go.PlainAid Go.Shelf
theorem notLetter_any (r : Int) (w : World) : Calls Tryz.prog 61 #[.int .i32 r] w fun e w' => e = .returned (.bool (decide (r < 97 ∨ 122 < r))) ∧ w' = w := by
  go_enter Tryz.func61, Tryz.ntmps61
  go_wp2
  all_goals (go_ret; exact ⟨ret_bool (by simp; try omega), rfl⟩)
set_option maxHeartbeats 2000000 in
theorem indexFunc_any (s : ByteArray) (w : World) :
    Calls Tryz.prog 129 #[.string s, .func (.func 61) #[] #[], .bool true] w fun e w' => ∃ r : Int, e = .returned (.int .i64 r) ∧ Hid ((M.lets s 0 = true → r = -1) ∧ (M.lets s 0 = false → 0 ≤ r)) ∧ Below w.heap.size w w' := by
  have eg : ∀ args w, (callFunc 61 args).run Tryz.prog w = .ok (.enter 61 args) w := enters_of Tryz.func61 (by kernel_rfl) rfl
  go_enter Tryz.func129, Tryz.ntmps129
  go_wp2
  go_loopg [] s.size (fun gf wx => ∃ pos : Nat, wx.heap[w.heap.size]? = some (.stringIter s pos) ∧ Below w.heap.size w wx ∧ pos + gf = s.size ∧ Aside (M.lets s pos = M.lets s 0))
  case atStart => exact ⟨0, World.iter_heap w s 0, (Below.refl _ w).alloc (Nat.le_refl _) _, by omega, rfl⟩
  case round =>
    obtain ⟨pos, hit, hbw, hfu, A⟩ := hrel
    by_cases hps : pos < s.size
    · have hnx : ∀ ty, (Instr.next (.pointer (some ⟨w.heap.size, 0, none⟩)) true ty).run Tryz.prog wr = _ := fun ty => Lib.run_next_any_at wr w.heap.size s pos ty hit hps
      obtain ⟨R, hR⟩ : ∃ R, (Utf8.decode s pos).1 = R := ⟨_, rfl⟩
      obtain ⟨K, hK⟩ : ∃ K, (Utf8.decode s pos).2 = K := ⟨_, rfl⟩
      rw [hR, hK] at hnx
      have hit2 := Lib.iterAt_heap wr w.heap.size s pos (pos + K) hit
      have hbw2 := Lib.below_iterAt hbw (k := w.heap.size) (Nat.le_refl _) s (pos + K)
      obtain ⟨W, hWd⟩ : ∃ W, wr.iterAt w.heap.size s (pos + K) = W := ⟨_, rfl⟩
      rw [hWd] at hnx hit2 hbw2
      have cS := notLetter_any (R : Int) W
      by_cases hl : 97 ≤ bt s pos ∧ bt s pos ≤ 122
      · have hd := M.bt_decode s pos hps (by omega)
        have e1 : (R : Int) = bt s pos := by rw [← hR, hd]; simp; omega
        have e2 : K = 1 := by rw [← hK, hd]
        have e3 : decide ((R : Int) < 97 ∨ 122 < (R : Int)) = false := decide_eq_false (by omega)
        rw [e3] at cS
        have A2 : Aside (M.lets s (pos + K) = M.lets s 0) := by unfold Aside; rw [e2, ← M.lets_good s pos hl.1 hl.2]; exact A.out
        have CS : Hid (Calls Tryz.prog 61 #[.int .i32 (R : Int)] W fun e w' => e = .returned (.bool false) ∧ w' = W) := cS
        have HK1 : Hid (K = 1) := e2
        clear cS hd e1 e2 e3 hR hK hWd hl A
        go_wp2_with fail
        refine CS.out.mono ?_
        rintro e w' ⟨rfl, hw'⟩
        subst hw'
        go_wp2
        go_roundg (gk - 1)
        case measure => omega
        case rel => exact ⟨pos + K, hit2, hbw2, by have := HK1.out; omega, A2⟩
      · have e3 : decide ((R : Int) < 97 ∨ 122 < (R : Int)) = true := by
          rw [decide_eq_true]
          by_cases h8 : bt s pos < 128
          · have hd := M.bt_decode s pos hps h8
            have h0 := bt_nonneg s pos
            have e1 : (R : Int) = bt s pos := by rw [← hR, hd]; simp; omega
            omega
          · have := M.far_decode s pos hps (by omega)
            rw [hR] at this; omega
        rw [e3] at cS
        have A2 : Aside (M.lets s 0 = false) := by unfold Aside; rw [← A.out]; exact M.lets_bad s pos hps (by omega)
        have CS : Hid (Calls Tryz.prog 61 #[.int .i32 (R : Int)] W fun e w' => e = .returned (.bool true) ∧ w' = W) := cS
        clear cS e3 hR hK hWd hl A
        go_wp2_with fail
        refine CS.out.mono ?_
        rintro e w' ⟨rfl, hw'⟩
        subst hw'
        go_wp2
        go_ret
        exact ⟨(pos : Int), rfl, ⟨fun h => by rw [A2.out] at h; simp at h, fun _ => by omega⟩, hbw2⟩
    · have hnx : ∀ ty, (Instr.next (.pointer (some ⟨w.heap.size, 0, none⟩)) true ty).run Tryz.prog wr = _ := fun ty => Lib.run_next_end_at wr w.heap.size s pos ty hit hps
      have A2 : Aside (M.lets s 0 = true) := by unfold Aside; rw [← A.out]; exact M.lets_end s pos (by omega)
      clear A
      go_wp2
      go_ret
      exact ⟨-1, rfl, ⟨fun _ => rfl, fun h => by rw [A2.out] at h; simp at h⟩, hbw⟩
theorem scontains_any (s : ByteArray) (w : World) :
    Calls Tryz.prog 60 #[.string s, .func (.func 61) #[] #[]] w fun e w' => e = .returned (.bool (!M.lets s 0)) ∧ Below w.heap.size w w' := by
  have H1 : Hid (Calls Tryz.prog 106 #[.string s, .func (.func 61) #[] #[]] w fun e w' => ∃ r : Int, e = .returned (.int .i64 r) ∧ Hid ((M.lets s 0 = true → r = -1) ∧ (M.lets s 0 = false → 0 ≤ r)) ∧ Below w.heap.size w w') := by
    unfold Hid
    have H2 : Hid (Calls Tryz.prog 129 #[.string s, .func (.func 61) #[] #[], .bool true] w fun e w' => ∃ r : Int, e = .returned (.int .i64 r) ∧ Hid ((M.lets s 0 = true → r = -1) ∧ (M.lets s 0 = false → 0 ≤ r)) ∧ Below w.heap.size w w') := indexFunc_any s w
    go_enter Tryz.func106, Tryz.ntmps106
    go_wp2_with fail
    refine H2.out.mono ?_
    rintro e w' ⟨r, rfl, hr, hb⟩
    go_wp2
    go_ret
    exact ⟨r, rfl, hr, hb⟩
  go_enter Tryz.func60, Tryz.ntmps60
  go_wp2_with fail
  refine H1.out.mono ?_
  rintro e w' ⟨r, rfl, hr, hb⟩
  go_wp2
  go_ret
  refine ⟨ret_bool ?_, hb⟩
  cases h : M.lets s 0
  · have := hr.out.2 h; simp; exact this
  · have := hr.out.1 h; subst this; simp
theorem isName_any (s : ByteArray) (w : World) (hm : s.size ≤ 9223372036854775807) : Calls Tryz.prog 32 #[.string s] w fun e w' => e = .returned (.bool (M.nam s)) ∧ Below w.heap.size w w' := by
  have hsz : s.toList.length = s.size := by rw [ByteArray.toList_eq]; rfl
  by_cases h0 : s.size = 0
  · rw [M.nam_none s h0]
    have e0 : s.toList = [] := List.eq_nil_of_length_eq_zero (by omega)
    clear h0 hsz
    go_enter Tryz.func32, Tryz.ntmps32
    go_wp2
    go_ret
    exact ⟨rfl, Below.refl _ _⟩
  · have e0 : s.toList.isEmpty = false := by
      rw [List.isEmpty_eq_false_iff]
      intro h
      rw [h] at hsz; simp at hsz; omega
    have e1 : ¬ s.toList = [] := by intro h; rw [h] at e0; simp at e0
    clear hsz
    by_cases h8 : 8 < s.size
    · rw [M.nam_long s h8]
      have h8' : decide (8 < (s.size : Int)) = true := by simp; omega
      go_enter Tryz.func32, Tryz.ntmps32
      go_wp2
      go_ret
      exact ⟨rfl, Below.refl _ _⟩
    · rw [M.nam_few s (by omega) (by omega)]
      have h8' : decide (8 < (s.size : Int)) = false := by simp; omega
      have H1 : Hid (Calls Tryz.prog 60 #[.string s, .func (.func 61) #[] #[]] w fun e w' => e = .returned (.bool (!M.lets s 0)) ∧ Below w.heap.size w w') := scontains_any s w
      go_enter Tryz.func32, Tryz.ntmps32
      go_wp2_with fail
      refine H1.out.mono ?_
      rintro e w' ⟨rfl, hb⟩
      go_wp2
      go_ret
      exact ⟨ret_bool (by simp), hb⟩
end Go.Proofs.YtcgpgflnihjpiagGreat
namespace Go.Proofs.YtcgpgflnihjpiagGreat
open Go.RowKit Go.Shelf
theorem check1_any (x : M.Hd) (w : World) (hm : x.1.size ≤ 9223372036854775807) :
    Calls Tryz.prog 31 #[.agg #[.string x.1, .int .i64 x.2]] w fun e w' => e = .returned (.bool (!M.nam x.1)) ∧ Below w.heap.size w w' := by
  obtain ⟨W, hW⟩ : ∃ W, W = w.alloc (.cells #[.string x.1, .int .i64 x.2] 58) := ⟨_, rfl⟩
  have hb : Below w.heap.size w W := by rw [hW]; exact (Below.refl _ _).alloc (Nat.le_refl _) _
  have HN : Hid (Calls Tryz.prog 32 #[.string x.1] W fun e w' => e = .returned (.bool (M.nam x.1)) ∧ Below W.heap.size W w') := isName_any x.1 W hm
  have HW : Hid (W = w.alloc (.cells #[.string x.1, .int .i64 x.2] 58)) := hW
  clear hW
  go_enter Tryz.func31, Tryz.ntmps31
  go_wp2_with fail
  rw [← HW.out]
  refine HN.out.mono ?_
  rintro e w' ⟨rfl, hb1⟩
  go_wp2
  go_ret
  exact ⟨rfl, dbelow2 hb hb1⟩
theorem check2_any (x : M.Hd) (p n cap : Nat) (a : Option Addr) (w : World) (hp : w.cell? ⟨p, 0, none⟩ = some (.slice a n cap)) (hpl : p < w.heap.size) :
    Calls Tryz.prog 33 #[.agg #[.string x.1, .int .i64 x.2], .pointer (some ⟨p, 0, none⟩)] w fun e w' => e = .returned (.bool (!decide (0 ≤ x.2 ∧ x.2 < (n : Int)))) ∧ Below w.heap.size w w' := by
  have hb : Below w.heap.size w (w.alloc (.cells #[.string x.1, .int .i64 x.2] 58)) := (Below.refl _ _).alloc (Nat.le_refl _) _
  have hp1 : (w.alloc (.cells #[.string x.1, .int .i64 x.2] 58)).cell? ⟨p, 0, none⟩ = some (.slice a n cap) := (hb.cell (p := ⟨p, 0, none⟩) hpl).trans hp
  go_enter Tryz.func33, Tryz.ntmps33
  go_wp2
  all_goals (go_ret; exact ⟨ret_bool (by rw [Bool.eq_iff_iff]; simp; try omega), hb⟩)
theorem rise_none (a : Option Addr) (cap : Nat) (w : World) :
    Calls Tryz.prog 34 #[.slice a 0 cap] w fun e w' => e = .returned (.bool true) ∧ w' = w := by
  go_enter Tryz.func34, Tryz.ntmps34
  go_wp2
  refine wp_loop_rounds 1 ?_
  rw [rounds_succ]
  go_wp2
  go_ret
  exact ⟨rfl, rfl⟩
set_option maxHeartbeats 2000000 in
theorem rise_some (b off n cap : Nat) (H : List M.Hd) (w : World) (hm : n ≤ 9223372036854775807) (hl : H.length = n) (hB : b < w.heap.size)
    (hc : ∀ i, i < n → w.cell? ⟨b, off + i * 2, none⟩ = some (.string (H.getD i M.hd0).1) ∧ w.cell? ⟨b, off + i * 2 + 1, none⟩ = some (.int .i64 (H.getD i M.hd0).2) ∧ (H.getD i M.hd0).1.size ≤ 9223372036854775807) :
    Calls Tryz.prog 34 #[.slice (some ⟨b, off, none⟩) n cap] w fun e w' => e = .returned (.bool (M.riseF (ByteArray.mk #[]) H)) ∧ Below w.heap.size w w' := by
  have HC : Aside (∀ i, i < n → w.cell? ⟨b, off + i * 2, none⟩ = some (.string (H.getD i M.hd0).1) ∧ w.cell? ⟨b, off + i * 2 + 1, none⟩ = some (.int .i64 (H.getD i M.hd0).2) ∧ (H.getD i M.hd0).1.size ≤ 9223372036854775807) := hc
  have HL : Aside (H.length = n) := hl
  clear hc hl
  go_enter Tryz.func34, Tryz.ntmps34
  go_wp2
  go_loopg [3, 8] n (fun g v i wr => ∃ (k : Nat) (s : ByteArray), k + g = n ∧ i = .int .i64 k ∧ v = .string s ∧ Below w.heap.size w wr ∧ Aside (M.riseF s (H.drop k) = M.riseF (ByteArray.mk #[]) H))
  case atStart => exact ⟨0, _, by omega, rfl, rfl, Below.refl _ _, by simp [Aside]⟩
  case round =>
    obtain ⟨k, s, hk, rfl, rfl, hbel, A⟩ := hrel
    have hsz := hbel.size
    by_cases hlt : k < n
    · obtain ⟨x, hx⟩ : ∃ x, H.getD k M.hd0 = x := ⟨_, rfl⟩
      have c0 : wr.cell? ⟨b, off + k * 2, none⟩ = some (.string x.1) := by rw [hbel.cell (p := ⟨b, off + k * 2, none⟩) hB, (HC.out k hlt).1, hx]
      have c1 : wr.cell? ⟨b, off + k * 2 + 1, none⟩ = some (.int .i64 x.2) := by rw [hbel.cell (p := ⟨b, off + k * 2 + 1, none⟩) hB, (HC.out k hlt).2.1, hx]
      have hA := M.riseF_at s H k (by rw [HL.out]; exact hlt) x hx
      rw [A.out] at hA
      have HA : Aside (M.riseF (ByteArray.mk #[]) H = (M.less s x.1 && M.riseF x.1 (H.drop (k + 1)))) := hA
      have hb1 := hbel.alloc hsz (.cells #[.string x.1, .int .i64 x.2] 58)
      have hle := M.leq_not x.1 s
      obtain ⟨t, ht⟩ : ∃ t, M.less s x.1 = t := ⟨_, rfl⟩
      rw [ht] at hle
      have HT : Aside (M.less s x.1 = t) := ht
      clear hx hA A ht
      have hki : (k : Int) < (n : Int) := by omega
      cases t with
      | true =>
        go_wp2
        go_roundg (gk - 1)
        case measure => omega
        case rel => exact ⟨k + 1, x.1, by omega, by go_num, rfl, hb1, by unfold Aside; rw [HA.out, HT.out]; rfl⟩
      | false =>
        go_wp2
        go_ret
        exact ⟨ret_bool (by rw [HA.out, HT.out]; rfl), hb1⟩
    · go_wp2
      go_ret
      exact ⟨ret_bool (by rw [← A.out]; exact (M.riseF_end s H k (by rw [HL.out]; omega)).symm), hbel⟩
theorem rise_any (a : Option Addr) (n cap : Nat) (H : List M.Hd) (w : World) (h : Hs w a n H) (hm : n ≤ 9223372036854775807) :
    Calls Tryz.prog 34 #[.slice a n cap] w fun e w' => e = .returned (.bool (M.riseF (ByteArray.mk #[]) H)) ∧ Below w.heap.size w w' := by
  rcases h.cases with ⟨rfl, rfl⟩ | ⟨b, off, rfl, hn, hl, hB, hc⟩
  · refine (rise_none a cap w).mono ?_
    rintro e w' ⟨rfl, rfl⟩
    exact ⟨rfl, Below.refl _ _⟩
  · exact rise_some b off n cap H w hm hl hB hc
set_option maxHeartbeats 4000000 in
theorem rcheck_any (a : Option Addr) (n cap : Nat) (C : List M.Com) (a2 : Option Addr) (n2 cap2 : Nat) (H : List M.Hd) (w : World) (hC : Cm w a n C) (hn : n ≤ 9223372036854775807) (hH : Hs w a2 n2 H) (hn2 : n2 ≤ 9223372036854775807) :
    Calls Tryz.prog 10 #[.agg #[.slice a n cap, .slice a2 n2 cap2]] w fun e w' => e = .returned (.int .i64 (M.rchk C H)) ∧ Below w.heap.size w w' := by
  obtain ⟨p, hp⟩ : ∃ p, p = w.heap.size := ⟨_, rfl⟩
  obtain ⟨W, hW⟩ : ∃ W, W = w.alloc (.cells #[.slice a n cap, .slice a2 n2 cap2] 35) := ⟨_, rfl⟩
  have hb : Below w.heap.size w W := by rw [hW]; exact (Below.refl _ _).alloc (Nat.le_refl _) _
  have q0 : W.cell? ⟨p, 0, none⟩ = some (.slice a n cap) := by rw [hW, hp]; simp [go_sem]
  have q1 : W.cell? ⟨p, 1, none⟩ = some (.slice a2 n2 cap2) := by rw [hW, hp]; simp [go_sem]
  have hpW : p < W.heap.size := by rw [hW, hp]; simp
  have HD := dcheck_any a n cap C W (hC.below hb (Nat.le_refl _)) hn
  have HHs : Aside (Hs W a2 n2 H) := hH.below hb (Nat.le_refl _)
  have hCl : C.length = n := hC.1
  have hHl : H.length = n2 := hH.1
  have HCl : Aside (C.length = n) := hCl
  have HHl : Aside (H.length = n2) := hHl
  obtain ⟨c, hc⟩ : ∃ c, c = M.dchk C := ⟨_, rfl⟩
  rw [← hc] at HD
  have HCc : Aside (c = M.dchk C) := hc
  have HDD : Hid (Calls Tryz.prog 29 #[.slice a n cap] W fun e w' => e = .returned (.int .i64 c) ∧ Below W.heap.size W w') := HD
  have HW : Hid (W = w.alloc (.cells #[.slice a n cap, .slice a2 n2 cap2] 35)) := hW
  have HP : Aside (p = w.heap.size) := hp
  clear hW HD hc hCl hHl hC hH hp
  have after : ∀ w1, Below W.heap.size W w1 → w1.cell? ⟨p, 0, none⟩ = some (.slice a n cap) ∧ w1.cell? ⟨p, 1, none⟩ = some (.slice a2 n2 cap2) ∧ Hs w1 a2 n2 H := fun w1 h => ⟨(h.cell (p := ⟨p, 0, none⟩) hpW).trans q0, (h.cell (p := ⟨p, 1, none⟩) hpW).trans q1, HHs.out.below h (Nat.le_refl _)⟩
  have HAf : Aside (∀ w1, Below W.heap.size W w1 → w1.cell? ⟨p, 0, none⟩ = some (.slice a n cap) ∧ w1.cell? ⟨p, 1, none⟩ = some (.slice a2 n2 cap2) ∧ Hs w1 a2 n2 H) := after
  clear after q0 q1
  go_enter Tryz.func10, Tryz.ntmps10
  go_wp2_with fail
  rw [← HW.out, ← HP.out]
  refine HDD.out.mono ?_
  rintro e w1 ⟨rfl, hb1⟩
  obtain ⟨d0, d1, hs1⟩ := HAf.out w1 hb1
  by_cases hz : c = 0
  · have hne : (c != 0) = false := by simp [hz]
    have HZ : Aside (M.dchk C = 0) := by unfold Aside; rw [← HCc.out]; exact hz
    clear hz
    by_cases h4 : 4 < n2
    · have E : Aside (M.rchk C H = 2) := by unfold Aside M.rchk; rw [if_neg (by rw [HZ.out]; simp), if_pos (by rw [HHl.out]; exact h4)]
      have h4' : decide (4 < (n2 : Int)) = true := by simp; omega
      go_wp2
      go_ret
      exact ⟨ret_int E.out.symm, hb.trans (hb1.mono hb.size)⟩
    · have h4' : decide (4 < (n2 : Int)) = false := by simp; omega
      have E1 : Aside (M.rchk C H = if M.named H = false then 4 else if M.inside C.length H = false then 1 else if M.rise H = false then 1 else 0) := by unfold Aside M.rchk; rw [if_neg (by rw [HZ.out]; simp), if_neg (by rw [HHl.out]; exact h4)]
      have K1 := hcontains_any 31 [] (enters_of Tryz.func31 (by kernel_rfl) rfl) (fun h => !M.nam h.1) a2 n2 cap2 H w1 hs1 hn2 (fun W' x hx hbx => check1_any x W' (hs1.small x hx))
      rw [M.named_any] at K1
      obtain ⟨t, ht⟩ : ∃ t, M.named H = t := ⟨_, rfl⟩
      rw [ht] at K1
      have HT : Aside (M.named H = t) := ht
      have KK1 : Hid (Calls Tryz.prog 30 #[.slice a2 n2 cap2, .func (.func 31) #[] #[]] w1 fun e w' => e = .returned (.bool (!t)) ∧ Below w1.heap.size w1 w') := K1
      clear K1 ht hs1
      go_wp2_with fail
      refine KK1.out.mono ?_
      rintro e w2 ⟨rfl, hb2⟩
      have b2 := dbelow2 hb1 hb2
      obtain ⟨d0', d1', hs2⟩ := HAf.out w2 b2
      have hp2 : p < w2.heap.size := Nat.lt_of_lt_of_le hpW b2.size
      clear d0 d1 hb1 hb2
      cases t with
      | false =>
        go_wp2
        go_ret
        exact ⟨ret_int (by rw [E1.out, HT.out]; rfl), hb.trans (b2.mono hb.size)⟩
      | true =>
        have K2 := hcontains_any 33 [.pointer (some ⟨p, 0, none⟩)] (enters_of Tryz.func33 (by kernel_rfl) rfl) (fun h => !decide (0 ≤ h.2 ∧ h.2 < (n : Int))) a2 n2 cap2 H w2 hs2 hn2 (fun W' x hx hbx => check2_any x p n cap a W' ((hbx.cell (p := ⟨p, 0, none⟩) hp2).trans d0') (Nat.lt_of_lt_of_le hp2 hbx.size))
        rw [M.inside_any] at K2
        obtain ⟨u, hu⟩ : ∃ u, M.inside n H = u := ⟨_, rfl⟩
        rw [hu] at K2
        have HU : Aside (M.inside C.length H = u) := by unfold Aside; rw [HCl.out]; exact hu
        have KK2 : Hid (Calls Tryz.prog 30 #[.slice a2 n2 cap2, .func (.func 33) #[] #[.pointer (some ⟨p, 0, none⟩)]] w2 fun e w' => e = .returned (.bool (!u)) ∧ Below w2.heap.size w2 w') := K2
        clear K2 hu hs2
        go_wp2_with fail
        refine KK2.out.mono ?_
        rintro e w3 ⟨rfl, hb3⟩
        have b3 := dbelow2 b2 hb3
        obtain ⟨e0, e1, hs3⟩ := HAf.out w3 b3
        clear d0' d1' hb3 b2
        cases u with
        | false =>
          go_wp2
          go_ret
          exact ⟨ret_int (by rw [E1.out, HT.out, HU.out]; rfl), hb.trans (b3.mono hb.size)⟩
        | true =>
          have K3 := rise_any a2 n2 cap2 H w3 hs3 hn2
          rw [M.riseF_none H HT.out] at K3
          obtain ⟨v, hv⟩ : ∃ v, M.rise H = v := ⟨_, rfl⟩
          rw [hv] at K3
          have HV : Aside (M.rise H = v) := hv
          have KK3 : Hid (Calls Tryz.prog 34 #[.slice a2 n2 cap2] w3 fun e w' => e = .returned (.bool v) ∧ Below w3.heap.size w3 w') := K3
          clear K3 hv hs3
          go_wp2_with fail
          refine KK3.out.mono ?_
          rintro e w4 ⟨rfl, hb4⟩
          have b4 := dbelow2 b3 hb4
          cases v with
          | false =>
            go_wp2
            go_ret
            exact ⟨ret_int (by rw [E1.out, HT.out, HU.out, HV.out]; rfl), hb.trans (b4.mono hb.size)⟩
          | true =>
            go_wp2
            go_ret
            exact ⟨ret_int (by rw [E1.out, HT.out, HU.out, HV.out]; rfl), hb.trans (b4.mono hb.size)⟩
  · have hne : (c != 0) = true := by simp [hz]
    have E : Aside (M.rchk C H = c) := by unfold Aside M.rchk; rw [if_pos (by rw [← HCc.out]; exact hz)]; exact HCc.out.symm
    clear hz
    go_wp2
    go_ret
    exact ⟨ret_int E.out.symm, hb.trans (hb1.mono hb.size)⟩
end Go.Proofs.YtcgpgflnihjpiagGreat
namespace Go.Proofs.YtcgpgflnihjpiagGreat
open Go.RowKit
theorem ret_two' {k : IntKind} {v : Value} {b b' : Int} (h : b = b') : Ending.returned (.tuple #[v, .int k b]) = .returned (.tuple #[v, .int k b']) := by rw [h]
theorem ret_pair {k k' : IntKind} {a a' b b' : Int} (h : a = a') (h' : b = b') : Ending.returned (.tuple #[.int k a, .int k' b]) = .returned (.tuple #[.int k a', .int k' b']) := by rw [h, h']
structure InBox (w : World) (p : Nat) (a : Option Addr) (n cap : Nat) (C : List M.Com) (a2 : Option Addr) (n2 cap2 : Nat) (H : List M.Hd) : Prop where
  c0 : w.cell? ⟨p, 0, none⟩ = some (.slice a n cap)
  c1 : w.cell? ⟨p, 1, none⟩ = some (.slice a2 n2 cap2)
  lt : p < w.heap.size
  cm : Cm w a n C
  hs : Hs w a2 n2 H
theorem InBox.below {w w' : World} {p : Nat} {a : Option Addr} {n cap : Nat} {C : List M.Com} {a2 : Option Addr} {n2 cap2 : Nat} {H : List M.Hd} (h : InBox w p a n cap C a2 n2 cap2 H) (hb : Below w.heap.size w w') : InBox w' p a n cap C a2 n2 cap2 H :=
  ⟨(hb.cell (p := ⟨p, 0, none⟩) h.lt).trans h.c0, (hb.cell (p := ⟨p, 1, none⟩) h.lt).trans h.c1, Nat.lt_of_lt_of_le h.lt hb.size, h.cm.below hb (Nat.le_refl _), h.hs.below hb (Nat.le_refl _)⟩
theorem InBox.new (w : World) (a : Option Addr) (n cap : Nat) (C : List M.Com) (a2 : Option Addr) (n2 cap2 : Nat) (H : List M.Hd) (hC : Cm w a n C) (hH : Hs w a2 n2 H) : InBox (w.alloc (.cells #[.slice a n cap, .slice a2 n2 cap2] 35)) w.heap.size a n cap C a2 n2 cap2 H := by
  have hb : Below w.heap.size w (w.alloc (.cells #[.slice a n cap, .slice a2 n2 cap2] 35)) := (Below.refl _ _).alloc (Nat.le_refl _) _
  exact ⟨by simp [go_sem], by simp [go_sem], by simp, hC.below hb (Nat.le_refl _), hH.below hb (Nat.le_refl _)⟩
theorem M.hat_zero {C : List M.Com} {H : List M.Hd} {s : ByteArray} (h : M.hchk C H s ≠ 0) : M.hat C H s = 0 := by unfold M.hat; rw [if_pos h]
end Go.Proofs.YtcgpgflnihjpiagGreat
namespace Go.Proofs.YtcgpgflnihjpiagGreat
open Go.RowKit Go.Shelf
theorem head1_any (x : M.Hd) (q : Nat) (s : ByteArray) (w : World) (hq : w.cell? ⟨q, 0, none⟩ = some (.string s)) (hql : q < w.heap.size) :
    Calls Tryz.prog 130 #[.agg #[.string x.1, .int .i64 x.2], .pointer (some ⟨q, 0, none⟩)] w fun e w' => e = .returned (.bool (M.alike x.1 s)) ∧ Below w.heap.size w w' := by
  have hb : Below w.heap.size w (w.alloc (.cells #[.string x.1, .int .i64 x.2] 58)) := (Below.refl _ _).alloc (Nat.le_refl _) _
  have hq1 : (w.alloc (.cells #[.string x.1, .int .i64 x.2] 58)).cell? ⟨q, 0, none⟩ = some (.string s) := (hb.cell (p := ⟨q, 0, none⟩) hql).trans hq
  go_enter Tryz.func130, Tryz.ntmps130
  go_wp2
  go_ret
  exact ⟨rfl, hb⟩
set_option maxHeartbeats 4000000 in
theorem head_any (a : Option Addr) (n cap : Nat) (C : List M.Com) (a2 : Option Addr) (n2 cap2 : Nat) (H : List M.Hd) (s : ByteArray) (w : World) (hC : Cm w a n C) (hn : n ≤ 9223372036854775807) (hH : Hs w a2 n2 H) (hn2 : n2 ≤ 9223372036854775807) :
    Calls Tryz.prog 109 #[.agg #[.slice a n cap, .slice a2 n2 cap2], .string s] w fun e w' => e = .returned (.tuple #[.int .i64 (M.hat C H s), .int .i64 (M.hchk C H s)]) ∧ Below w.heap.size w w' := by
  obtain ⟨p, hp⟩ : ∃ p, p = w.heap.size := ⟨_, rfl⟩
  have I0 := InBox.new w a n cap C a2 n2 cap2 H hC hH
  have hb0 : Below w.heap.size w (w.alloc (.cells #[.slice a n cap, .slice a2 n2 cap2] 35)) := (Below.refl _ _).alloc (Nat.le_refl _) _
  obtain ⟨W, hW⟩ : ∃ W, W = (w.alloc (.cells #[.slice a n cap, .slice a2 n2 cap2] 35)).alloc (.cells #[.string s] 9) := ⟨_, rfl⟩
  have I1 := I0.below (w' := W) (by rw [hW]; exact (Below.refl _ _).alloc (Nat.le_refl _) _)
  have hb : Below w.heap.size w W := by rw [hW]; exact hb0.alloc (by simp) _
  have hq : W.cell? ⟨p + 1, 0, none⟩ = some (.string s) := by rw [hW, hp]; simp [go_sem]
  have hqW : p + 1 < W.heap.size := by rw [hW, hp]; simp
  rw [← hp] at I1
  have q0 := I1.c0
  have q1 := I1.c1
  have HK := rcheck_any a n cap C a2 n2 cap2 H W I1.cm hn I1.hs hn2
  obtain ⟨c, hc⟩ : ∃ c, c = M.rchk C H := ⟨_, rfl⟩
  rw [← hc] at HK
  have HCc : Aside (c = M.rchk C H) := hc
  have HKK : Hid (Calls Tryz.prog 10 #[.agg #[.slice a n cap, .slice a2 n2 cap2]] W fun e w' => e = .returned (.int .i64 c) ∧ Below W.heap.size W w') := HK
  have HI : Aside (InBox W p a n cap C a2 n2 cap2 H) := I1
  have HQ : Aside (W.cell? ⟨p + 1, 0, none⟩ = some (.string s)) := hq
  have HW : Hid (W = (w.alloc (.cells #[.slice a n cap, .slice a2 n2 cap2] 35)).alloc (.cells #[.string s] 9)) := hW
  have HP : Aside (p = w.heap.size) := hp
  have HHl : Aside (H.length = n2) := hH.1
  clear hW HK hc hp I0 I1 hb0 hC hH hq
  go_enter Tryz.func109, Tryz.ntmps109
  go_wp2_with fail
  rw [← HW.out, ← HP.out]
  go_wp2_with fail
  refine HKK.out.mono ?_
  rintro e w1 ⟨rfl, hb1⟩
  have J1 := HI.out.below hb1
  have d0 := J1.c0
  have d1 := J1.c1
  have dq : w1.cell? ⟨p + 1, 0, none⟩ = some (.string s) := (hb1.cell (p := ⟨p + 1, 0, none⟩) hqW).trans HQ.out
  have hq1 : p + 1 < w1.heap.size := Nat.lt_of_lt_of_le hqW hb1.size
  have HJ : Aside (InBox w1 p a n cap C a2 n2 cap2 H) := J1
  clear J1 q0 q1
  by_cases hz : c = 0
  · have hne : (c != 0) = false := by simp [hz]
    have HZ : Aside (M.rchk C H = 0) := by unfold Aside; rw [← HCc.out]; exact hz
    clear hz
    have K := index_any 130 [.pointer (some ⟨p + 1, 0, none⟩)] (enters_of Tryz.func130 (by kernel_rfl) rfl) (fun h => M.alike h.1 s) a2 n2 cap2 H w1 HJ.out.hs hn2 (fun W' x hx hbx => head1_any x (p + 1) s W' ((hbx.cell (p := ⟨p + 1, 0, none⟩) hq1).trans dq) (Nat.lt_of_lt_of_le hq1 hbx.size))
    have KK : Hid (Calls Tryz.prog 59 #[.slice a2 n2 cap2, .func (.func 130) #[] #[.pointer (some ⟨p + 1, 0, none⟩)]] w1 fun e w' => e = .returned (.int .i64 (M.plc H s)) ∧ Below w1.heap.size w1 w') := K
    have hpl := M.plc_lt H s
    obtain ⟨i, hi⟩ : ∃ i, M.plc H s = i := ⟨_, rfl⟩
    rw [hi] at KK hpl
    rw [HHl.out] at hpl
    have HIi : Aside (M.plc H s = i) := hi
    clear K hi dq
    go_wp2_with fail
    refine KK.out.mono ?_
    rintro e w2 ⟨rfl, hb2⟩
    have b2 := dbelow2 hb1 hb2
    have J2 := HJ.out.below hb2
    have e0 := J2.c0
    have e1 := J2.c1
    clear d0 d1
    rcases hpl with rfl | ⟨h0, h1⟩
    · have E : Aside (M.hchk C H s = 5) := by unfold Aside M.hchk; rw [if_neg (by rw [HZ.out]; simp), HIi.out, if_pos (by omega)]
      clear J2
      go_wp2
      go_ret2
      exact ⟨ret_pair (M.hat_zero (by rw [E.out]; simp)).symm E.out.symm, hb.trans (b2.mono hb.size)⟩
    · obtain ⟨k, rfl⟩ : ∃ k : Nat, i = (k : Int) := ⟨i.toNat, by omega⟩
      have hk : k < n2 := by omega
      have E : Aside (M.hchk C H s = 0) := by unfold Aside M.hchk; rw [if_neg (by rw [HZ.out]; simp), HIi.out, if_neg (by omega)]
      obtain ⟨x, hx⟩ : ∃ x, (H.getD k M.hd0).2 = x := ⟨_, rfl⟩
      have E2 : Aside (M.hat C H s = x) := by unfold Aside M.hat; rw [if_neg (by rw [E.out]; simp), HIi.out, ← hx]; rfl
      obtain ⟨hb3, ho, rfl, c3⟩ : ∃ b off, a2 = some ⟨b, off, none⟩ ∧ w2.cell? ⟨b, off + k * 2 + 1, none⟩ = some (.int .i64 x) := by
        rcases J2.hs.cases with ⟨h0, _⟩ | ⟨b, off, ea, _, _, hB, hc⟩
        · omega
        · exact ⟨b, off, ea, by rw [(hc k hk).2.1, hx]⟩
      have hlt0 : decide ((k : Int) < 0) = false := by simp
      clear J2 hx h0
      go_wp2
      go_ret2
      exact ⟨ret_pair E2.out.symm E.out.symm, hb.trans (b2.mono hb.size)⟩
  · have hne : (c != 0) = true := by simp [hz]
    have E : Aside (M.hchk C H s = c) := by unfold Aside M.hchk; rw [if_pos (by rw [← HCc.out]; exact hz)]; exact HCc.out.symm
    have HZ : Aside (c ≠ 0) := hz
    clear hz
    go_wp2
    go_ret2
    exact ⟨ret_pair (M.hat_zero (by rw [E.out]; exact HZ.out)).symm E.out.symm, hb.trans (hb1.mono hb.size)⟩
end Go.Proofs.YtcgpgflnihjpiagGreat
namespace Go.Proofs.YtcgpgflnihjpiagGreat
open Go.RowKit
theorem OwnK.append {w w1 : World} {base : Nat} {v v' : Value} {C : List M.Com} {c : M.Com} {p : Value × Value} {vals : List (Value × Value)} (hl : vals.length = C.length) (h1 : w.ownsRow base 54 2 v C.length (encP vals)) (h2 : ∀ i, i < C.length → OwnCo w base (vals.getD i vp0) (C.getD i ([], [])))
    (hp : OwnCo w base p c) (h3 : w1.ownsRow base 54 2 v' (C.length + 1) (encP vals ++ [p.1, p.2])) (hg : w.grownBy w1 v.ownBlock) : OwnK w1 base v' (C ++ [c]) := by
  have no : ∀ e, e ≠ 54 → ∀ r, v.ownBlock = some r → ∀ cur, w.heap[r]? ≠ some (.cells cur e (0, 0)) := by
    intro e he r hr cur hc
    rcases h1.2 with ⟨rfl, _⟩ | ⟨g, cap, cur', rfl, _, hgb, _⟩
    · simp [Value.ownBlock] at hr
    · obtain rfl : g = r := by simpa [Value.ownBlock] using hr
      rw [hgb] at hc
      simp at hc
      exact he hc.2.symm
  have keep : ∀ q d, OwnCo w base q d → OwnCo w1 base q d := fun q d h => ⟨ownsRow_elsewhere h.1 hg (no _ (by decide)), ownsRow_elsewhere h.2.1 hg (no _ (by decide)), h.2.2⟩
  refine ⟨vals ++ [p], by simp [hl], ?_, fun i hi => ?_⟩
  · rw [encP_append, List.length_append]
    exact h3
  · by_cases hlt : i < C.length
    · have e1 : (vals ++ [p]).getD i vp0 = vals.getD i vp0 := by simp [List.getD, List.getElem?_append_left (show i < vals.length by omega)]
      have e2 : (C ++ [c]).getD i ([], []) = C.getD i ([], []) := by simp [List.getD, List.getElem?_append_left hlt]
      rw [e1, e2]
      exact keep _ _ (h2 i hlt)
    · obtain rfl : i = C.length := by simp at hi; omega
      have e1 : (vals ++ [p]).getD C.length vp0 = p := by rw [← hl]; simp [List.getD]
      have e2 : (C ++ [c]).getD C.length ([], []) = c := by simp [List.getD]
      rw [e1, e2]
      exact keep _ _ hp
def DeskAt (w : World) (base D : Nat) (C : List M.Com) (H : List M.Hd) (A : List Int) : Prop :=
  ∃ x y z, w.heap[D]? = some (.cells #[x, y, z] 115 (0, 0)) ∧ base ≤ D ∧ OwnK w base x C ∧ OwnH w base y H ∧ OwnI w base z A
theorem DeskAt.lt {w : World} {base D : Nat} {C : List M.Com} {H : List M.Hd} {A : List Int} (h : DeskAt w base D C H A) : D < w.heap.size := by
  obtain ⟨x, y, z, h1, _⟩ := h
  exact (Array.getElem?_eq_some_iff.1 h1).1
theorem DeskAt.later {w w' : World} {base D : Nat} {C : List M.Com} {H : List M.Hd} {A : List Int} (h : DeskAt w base D C H A) (hb : Below w.heap.size w w') : DeskAt w' base D C H A := by
  obtain ⟨x, y, z, h1, h2, h3, h4, h5⟩ := h
  exact ⟨x, y, z, (hb.block D (Array.getElem?_eq_some_iff.1 h1).1).trans h1, h2, h3.later hb, h4.later hb, ownsRow_later h5 hb⟩
theorem cloned_some (ad : Addr) (n cap : Nat) (l : List (Int × Int)) (w : World) (hn : n ≤ 1000) (h : Rd w (some ad) n l) :
    Calls Tryz.prog 94 #[.slice (some ad) n cap] w fun e w' => ∃ v, e = .returned v ∧ Own w' w.heap.size v l ∧ Below w.heap.size w w' := by
  have hnn : ∀ W, (binOp .eql 47 (.slice (some ad) n cap) (.slice none 0 0)).run Tryz.prog W = .ok (.bool false) W := fun W => by
    have h := Lib.run_eql_slice_nil (P := Tryz.prog) W 47 56 (some ad) n cap 0 0 Tryz.underlying47
    simpa using h
  have HR : Hid (Rd (w.alloc (.cells #[] 56)) (some ad) n l) := h.below ((Below.refl _ _).alloc (Nat.le_refl _) _) (Nat.le_refl _)
  have HO : Hid (Own (w.alloc (.cells #[] 56)) w.heap.size (.slice (some ⟨w.heap.size, 0, none⟩) 0 0) []) := World.ownsRow_made (base := w.heap.size) (e := 56) (size := 2) w #[] 0 (Nat.le_refl _) (by simp [maxLen]) rfl
  clear h
  go_enter Tryz.func94, Tryz.ntmps94
  go_wp2_with (at_builtin; refine append_rd rfl _ _ rfl w.heap.size _ [] rfl HO.out (some ad) n cap l rfl HR.out (by simp) (by simp; omega) (by simp) ?_)
  intro v' w' ho' hb3
  have HO' : Hid (Own w' w.heap.size v' l) := ho'
  have hb4 : Below w.heap.size w w' := ((Below.refl _ _).alloc (Nat.le_refl _) _).trans hb3
  clear ho' hb3
  go_wp2
  go_ret
  exact ⟨_, rfl, HO'.out, hb4⟩
theorem cloned_nil (w : World) :
    Calls Tryz.prog 94 #[.slice none 0 0] w fun e w' => e = .returned (.slice none 0 0) ∧ w' = w := by
  have hnn : ∀ W, (binOp .eql 47 (.slice none 0 0) (.slice none 0 0)).run Tryz.prog W = .ok (.bool true) W := fun W => by
    have h := Lib.run_eql_slice_nil (P := Tryz.prog) W 47 56 none 0 0 0 0 Tryz.underlying47
    simpa using h
  go_enter Tryz.func94, Tryz.ntmps94
  go_wp2
  go_ret
  exact ⟨rfl, rfl⟩
theorem cloned_any (a : Option Addr) (n cap : Nat) (l : List (Int × Int)) (w : World) (hn : n ≤ 1000) (h : Rd w a n l) (hnil : a = none → n = 0 ∧ cap = 0) :
    Calls Tryz.prog 94 #[.slice a n cap] w fun e w' => ∃ v, e = .returned v ∧ Own w' w.heap.size v l ∧ Below w.heap.size w w' := by
  cases a with
  | none =>
    obtain ⟨rfl, rfl⟩ := hnil rfl
    have e : l = [] := List.eq_nil_of_length_eq_zero h.1
    subst e
    refine (cloned_nil w).mono ?_
    rintro e w' ⟨rfl, rfl⟩
    exact ⟨_, rfl, World.ownsRow_nil _ _ _ _, Below.refl _ _⟩
  | some ad => exact cloned_some ad n cap l w hn h
set_option maxHeartbeats 1000000 in
theorem hcloned_some (ad : Addr) (n cap : Nat) (H : List M.Hd) (w : World) (hn : n ≤ 1000) (h : Hs w (some ad) n H) :
    Calls Tryz.prog 110 #[.slice (some ad) n cap] w fun e w' => ∃ v, e = .returned v ∧ OwnH w' w.heap.size v H ∧ Below w.heap.size w w' := by
  have hnn : ∀ W, (binOp .eql 33 (.slice (some ad) n cap) (.slice none 0 0)).run Tryz.prog W = .ok (.bool false) W := fun W => by
    have h := Lib.run_eql_slice_nil (P := Tryz.prog) W 33 58 (some ad) n cap 0 0 Tryz.underlying33
    simpa using h
  obtain ⟨i0, hi, hz0, hz1, hz2⟩ := info_parts infoHead
  have hw : Below w.heap.size w (w.alloc (.cells #[] 58)) := (Below.refl _ _).alloc (Nat.le_refl _) _
  have HE : Hid (∀ j u, (encH H)[j]? = some u → (w.alloc (.cells #[] 58)).cell? (ad.add j) = some u) := (h.below hw (Nat.le_refl _)).enc
  have HO : Hid ((w.alloc (.cells #[] 58)).ownsRow w.heap.size 58 2 (.slice (some ⟨w.heap.size, 0, none⟩) 0 0) 0 []) := World.ownsRow_made (base := w.heap.size) (e := 58) (size := 2) w #[] 0 (Nat.le_refl _) (by simp [maxLen]) rfl
  have HL : Hid (H.length = n) := h.1
  have HS : Hid (∀ x ∈ H, x.1.size ≤ 9223372036854775807) := h.small
  clear h
  go_enter Tryz.func110, Tryz.ntmps110
  go_wp2_with (at_builtin; refine wpList_append_own _ rfl _ _ 33 rfl w.heap.size 58 i0 (.agg #[.string ⟨#[]⟩, .int .i64 0]) 2 24 Tryz.underlying33 hi hz0 hz1 hz2 rfl (by decide) _ 0 [] rfl HO.out ad n cap (encH H) rfl (by rw [encH_length, HL.out]) HE.out (encH_one H) (by simp only [maxLen]; omega) (by omega) (by simp) ?_)
  intro v' w' h1 h2 _
  have hb4 : Below w.heap.size w w' := hw.trans ((Below.refl _ _).grown h2 (by simp) fun k hk => (World.ownsRow.lt HO.out k hk).1)
  have HO' : Hid (OwnH w' w.heap.size v' H) := ⟨by rw [HL.out]; simpa using h1, HS.out⟩
  clear h1 h2
  go_wp2
  go_ret
  exact ⟨_, rfl, HO'.out, hb4⟩
theorem hcloned_nil (w : World) :
    Calls Tryz.prog 110 #[.slice none 0 0] w fun e w' => e = .returned (.slice none 0 0) ∧ w' = w := by
  have hnn : ∀ W, (binOp .eql 33 (.slice none 0 0) (.slice none 0 0)).run Tryz.prog W = .ok (.bool true) W := fun W => by
    have h := Lib.run_eql_slice_nil (P := Tryz.prog) W 33 58 none 0 0 0 0 Tryz.underlying33
    simpa using h
  go_enter Tryz.func110, Tryz.ntmps110
  go_wp2
  go_ret
  exact ⟨rfl, rfl⟩
theorem hcloned_any (a : Option Addr) (n cap : Nat) (H : List M.Hd) (w : World) (hn : n ≤ 1000) (h : Hs w a n H) (hnil : a = none → n = 0 ∧ cap = 0) :
    Calls Tryz.prog 110 #[.slice a n cap] w fun e w' => ∃ v, e = .returned v ∧ OwnH w' w.heap.size v H ∧ Below w.heap.size w w' := by
  cases a with
  | none =>
    obtain ⟨rfl, rfl⟩ := hnil rfl
    have e : H = [] := List.eq_nil_of_length_eq_zero h.1
    subst e
    refine (hcloned_nil w).mono ?_
    rintro e w' ⟨rfl, rfl⟩
    exact ⟨_, rfl, OwnH.nil _ _, Below.refl _ _⟩
  | some ad => exact hcloned_some ad n cap H w hn h
set_option maxHeartbeats 1000000 in
theorem icloned_some (ad : Addr) (n cap : Nat) (l : List Int) (w : World) (hn : n ≤ 1000) (h : Ri w (some ad) n l) :
    Calls Tryz.prog 111 #[.slice (some ad) n cap] w fun e w' => ∃ v, e = .returned v ∧ OwnI w' w.heap.size v l ∧ Below w.heap.size w w' := by
  have hnn : ∀ W, (binOp .eql 24 (.slice (some ad) n cap) (.slice none 0 0)).run Tryz.prog W = .ok (.bool false) W := fun W => by
    have h := Lib.run_eql_slice_nil (P := Tryz.prog) W 24 3 (some ad) n cap 0 0 Tryz.underlying24
    simpa using h
  obtain ⟨i0, hi, hz0, hz1, hz2⟩ := info_parts infoInt
  have hw : Below w.heap.size w (w.alloc (.cells #[] 3)) := (Below.refl _ _).alloc (Nat.le_refl _) _
  have HE : Hid (∀ j u, (l.map (Value.int .i64))[j]? = some u → (w.alloc (.cells #[] 3)).cell? (ad.add j) = some u) := (h.below hw (Nat.le_refl _)).enc
  have HO : Hid ((w.alloc (.cells #[] 3)).ownsRow w.heap.size 3 1 (.slice (some ⟨w.heap.size, 0, none⟩) 0 0) 0 []) := World.ownsRow_made (base := w.heap.size) (e := 3) (size := 1) w #[] 0 (Nat.le_refl _) (by simp [maxLen]) rfl
  have HL : Hid (l.length = n) := h.1
  clear h
  go_enter Tryz.func111, Tryz.ntmps111
  go_wp2_with (at_builtin; refine wpList_append_own _ rfl _ _ 24 rfl w.heap.size 3 i0 (.int .i64 0) 1 8 Tryz.underlying24 hi hz0 hz1 hz2 rfl (by decide) _ 0 [] rfl HO.out ad n cap (l.map (Value.int .i64)) rfl (by rw [List.length_map, HL.out]; omega) HE.out (by intro u hu; obtain ⟨y, _, rfl⟩ := List.mem_map.1 hu; rfl) (by simp only [maxLen]; omega) (by omega) (by simp) ?_)
  intro v' w' h1 h2 _
  have hb4 : Below w.heap.size w w' := hw.trans ((Below.refl _ _).grown h2 (by simp) fun k hk => (World.ownsRow.lt HO.out k hk).1)
  have HO' : Hid (OwnI w' w.heap.size v' l) := by unfold Hid OwnI; rw [HL.out]; simpa using h1
  clear h1 h2
  go_wp2
  go_ret
  exact ⟨_, rfl, HO'.out, hb4⟩
theorem icloned_nil (w : World) :
    Calls Tryz.prog 111 #[.slice none 0 0] w fun e w' => e = .returned (.slice none 0 0) ∧ w' = w := by
  have hnn : ∀ W, (binOp .eql 24 (.slice none 0 0) (.slice none 0 0)).run Tryz.prog W = .ok (.bool true) W := fun W => by
    have h := Lib.run_eql_slice_nil (P := Tryz.prog) W 24 3 none 0 0 0 0 Tryz.underlying24
    simpa using h
  go_enter Tryz.func111, Tryz.ntmps111
  go_wp2
  go_ret
  exact ⟨rfl, rfl⟩
theorem icloned_any (a : Option Addr) (n cap : Nat) (l : List Int) (w : World) (hn : n ≤ 1000) (h : Ri w a n l) (hnil : a = none → n = 0 ∧ cap = 0) :
    Calls Tryz.prog 111 #[.slice a n cap] w fun e w' => ∃ v, e = .returned v ∧ OwnI w' w.heap.size v l ∧ Below w.heap.size w w' := by
  cases a with
  | none =>
    obtain ⟨rfl, rfl⟩ := hnil rfl
    have e : l = [] := List.eq_nil_of_length_eq_zero h.1
    subst e
    refine (icloned_nil w).mono ?_
    rintro e w' ⟨rfl, rfl⟩
    exact ⟨_, rfl, OwnI.nil _ _, Below.refl _ _⟩
  | some ad => exact icloned_some ad n cap l w hn h
def Later (W0 W : World) : Prop := Below W0.heap.size W0 W
theorem Later.out {W0 W : World} (h : Later W0 W) : Below W0.heap.size W0 W := h
theorem quiet_val {P : Program} {C : World → Prop} {o : Oper} {a : Act} {K : Act → Prop} (v : Value) (h : ∀ W, C W → (execOp a.eval o).run P W = .ok (.value v) W) (hk : K (a.put o.dst v)) : o.quiet P a C K :=
  ⟨v, fun W hW => by unfold Oper.quietAt; rw [h W hW]; exact ⟨rfl, rfl⟩, hk⟩
theorem quiet_enter {P : Program} {C : World → Prop} {o : Oper} {a : Act} {K : Act → Prop} (f : FuncId) (args : Array Value) (v : Value) (h : ∀ W, (execOp a.eval o).run P W = .ok (.enter f args) W) (hc : ∀ W, C W → Calls P f args W fun e w' => e = .returned v ∧ C w') (hk : K (a.put o.dst v)) : o.quiet P a C K :=
  ⟨v, fun W hW => by unfold Oper.quietAt; rw [h W]; exact ⟨rfl, hc W hW⟩, hk⟩
theorem wp_region_later {P : Program} {id : Nat} {Q : Exit → Act → World → Prop} {a : Act} {w W0 : World} {l : List Oper} (hm : P.follows .mixedOrders = true) (hB : Region.lexB .any l.toArray = true) (hC : Below W0.heap.size W0 w)
    (h : wpQuiet P l.toArray (Later W0) (fun a' => ∀ w', Later W0 w' → Q .normal a' w') l a) : (Code.region id l.toArray true).wp P Q a w :=
  wp_region_quiet (C := Later W0) hm hB (show Below W0.heap.size W0 w.drew from hC.drew) (by simpa using h)
end Go.Proofs.YtcgpgflnihjpiagGreat
namespace Go.Proofs.YtcgpgflnihjpiagGreat
open Go.RowKit Go.Shelf
def M.openE (C : List M.Com) (H : List M.Hd) : List ByteArray → Int
  | [] => 0
  | s :: t => if M.hchk C H s ≠ 0 then M.hchk C H s else M.openE C H t
theorem M.openE_bad (C : List M.Com) (H : List M.Hd) (S : List ByteArray) (k : Nat) (h : k < S.length) (s : ByteArray) (e : S.getD k ByteArray.empty = s) (hb : M.hchk C H s ≠ 0) : M.openE C H (S.drop k) = M.hchk C H s := by
  rw [List.drop_eq_getElem_cons h, show S[k] = s by rw [← e]; simp [List.getD, h], M.openE, if_pos hb]
theorem M.openE_good (C : List M.Com) (H : List M.Hd) (S : List ByteArray) (k : Nat) (h : k < S.length) (s : ByteArray) (e : S.getD k ByteArray.empty = s) (hb : M.hchk C H s = 0) : M.openE C H (S.drop k) = M.openE C H (S.drop (k + 1)) := by
  rw [List.drop_eq_getElem_cons h, show S[k] = s by rw [← e]; simp [List.getD, h], M.openE, if_neg (by rw [hb]; simp)]
theorem M.openE_end (C : List M.Com) (H : List M.Hd) (S : List ByteArray) (k : Nat) (h : S.length ≤ k) : M.openE C H (S.drop k) = 0 := by
  rw [List.drop_eq_nil_of_le h]; rfl
structure Op1 (Wp : World) (D : Nat) (z : Value) (A : List Int) (w : World) : Prop where
  bel : Below Wp.heap.size Wp w
  blk : w.heap[D]? = some (.cells #[.slice none 0 0, .slice none 0 0, z] 115 (0, 0))
  own : OwnI w D z A
theorem Op1.later {Wp : World} {D : Nat} {z : Value} {A : List Int} {w w' : World} (h : Op1 Wp D z A w) (hb : Below w.heap.size w w') : Op1 Wp D z A w' :=
  ⟨h.bel.trans (hb.mono h.bel.size), (hb.block D (Array.getElem?_eq_some_iff.1 h.blk).1).trans h.blk, ownsRow_later h.own hb⟩
theorem Op1.put {Wp : World} {D : Nat} {z z' : Value} {A A' : List Int} {w w' : World} (hD : Wp.heap.size ≤ D) (h : Op1 Wp D z A w) (tmp : Obj) (ho : OwnI w' D z' A') (hg : (w.alloc tmp).grownBy w' z.ownBlock) : Op1 Wp D z' A' (w'.setCell ⟨D, 2, none⟩ z') ∧ w'.heap[D]? = some (.cells #[.slice none 0 0, .slice none 0 0, z] 115 (0, 0)) := by
  have hlt := (Array.getElem?_eq_some_iff.1 h.blk).1
  have hne : z.ownBlock ≠ some D := by
    intro e
    rcases h.own.2 with ⟨rfl, _⟩ | ⟨g, cap, cur', rfl, _, hgb, _⟩
    · simp [Value.ownBlock] at e
    · obtain rfl : g = D := by simpa [Value.ownBlock] using e
      rw [h.blk] at hgb
      simp at hgb
  have hbk : w'.heap[D]? = some (.cells #[.slice none 0 0, .slice none 0 0, z] 115 (0, 0)) := by
    rw [hg.block D (by simp; omega) (fun e => hne e.symm), Below.heap_alloc _ _ _ hlt]; exact h.blk
  have b1 : Below Wp.heap.size Wp w' := (h.bel.alloc h.bel.size tmp).grown hg (by have := h.bel.size; simp; omega) (fun k e => by
    have := (World.ownsRow.lt h.own k e).1; omega)
  refine ⟨⟨b1.setCell (p := ⟨D, 2, none⟩) hD _, ?_, ?_⟩, hbk⟩
  · rw [heap_setCell_same _ _ _ _ _ _ hbk]; rfl
  · refine ownsRow_elsewhere ho (grownBy_set w' ⟨D, 2, none⟩ z') fun r e cur he => ?_
    cases e
    rw [show w'.heap[D]? = _ from hbk] at he
    simp at he
structure Op2 (Wp : World) (D : Nat) (x y z : Value) (C : List M.Com) (H : List M.Hd) (A : List Int) (w : World) : Prop where
  bel : Below Wp.heap.size Wp w
  blk : w.heap[D]? = some (.cells #[x, y, z] 115 (0, 0))
  k : OwnK w D x C
  h : OwnH w D y H
  i : OwnI w D z A
theorem Op2.later {Wp : World} {D : Nat} {x y z : Value} {C : List M.Com} {H : List M.Hd} {A : List Int} {w w' : World} (h : Op2 Wp D x y z C H A w) (hb : Below w.heap.size w w') : Op2 Wp D x y z C H A w' :=
  ⟨h.bel.trans (hb.mono h.bel.size), (hb.block D (Array.getElem?_eq_some_iff.1 h.blk).1).trans h.blk, h.k.later hb, h.h.later hb, ownsRow_later h.i hb⟩
theorem Op1.next {Wp : World} {D : Nat} {y z : Value} {H : List M.Hd} {A : List Int} {w : World} (hD : Wp.heap.size ≤ D) (h : Op1 Wp D z A w) (ho : OwnH w D y H) : Op2 Wp D (.slice none 0 0) y z [] H A (w.setCell ⟨D, 1, none⟩ y) := by
  have g := grownBy_set w ⟨D, 1, none⟩ y
  refine ⟨h.bel.setCell (p := ⟨D, 1, none⟩) hD _, ?_, OwnK.nil _ _, ho.elsewhere g h.blk (by decide), ownsRow_elsewhere h.own g fun r e cur he => ?_⟩
  · rw [heap_setCell_same _ _ _ _ _ _ h.blk]; rfl
  · cases e
    rw [show w.heap[D]? = _ from h.blk] at he
    simp at he
theorem Op2.put {Wp : World} {D : Nat} {x x' y z : Value} {C : List M.Com} {c : M.Com} {q : Value × Value} {H : List M.Hd} {A : List Int} {w w' : World} {vals : List (Value × Value)} (hD : Wp.heap.size ≤ D) (h : Op2 Wp D x y z C H A w) (tmp : Obj) (hl : vals.length = C.length) (h1 : w.ownsRow D 54 2 x C.length (encP vals)) (h2 : ∀ i, i < C.length → OwnCo w D (vals.getD i vp0) (C.getD i ([], [])))
    (hq : OwnCo w D q c) (h3 : w'.ownsRow D 54 2 x' (C.length + 1) (encP vals ++ [q.1, q.2])) (hg : (w.alloc tmp).grownBy w' x.ownBlock) :
    Op2 Wp D x' y z (C ++ [c]) H A (w'.setCell ⟨D, 0, none⟩ x') ∧ w'.heap[D]? = some (.cells #[x, y, z] 115 (0, 0)) := by
  have hlt := (Array.getElem?_eq_some_iff.1 h.blk).1
  have typ : ∀ r, x.ownBlock = some r → ∃ cur, (w.alloc tmp).heap[r]? = some (.cells cur 54 (0, 0)) := by
    intro r e
    rcases (h1.alloc tmp).2 with ⟨rfl, _⟩ | ⟨g, cap, cur', rfl, _, hgb, _⟩
    · simp [Value.ownBlock] at e
    · obtain rfl : g = r := by simpa [Value.ownBlock] using e
      exact ⟨_, hgb⟩
  have other : ∀ e, e ≠ 54 → ∀ r, x.ownBlock = some r → ∀ cur, (w.alloc tmp).heap[r]? ≠ some (.cells cur e (0, 0)) := by
    intro e he r hr cur hc
    obtain ⟨cur', hcur⟩ := typ r hr
    rw [hcur] at hc
    simp at hc
    exact he hc.2.symm
  have hDa : (w.alloc tmp).heap[D]? = some (.cells #[x, y, z] 115 (0, 0)) := by rw [Below.heap_alloc _ _ _ hlt]; exact h.blk
  have hne : x.ownBlock ≠ some D := fun e => other _ (by decide) D e _ hDa
  have hbk : w'.heap[D]? = some (.cells #[x, y, z] 115 (0, 0)) := by
    rw [hg.block D (by simp; omega) (fun e => hne e.symm)]; exact hDa
  have b1 : Below Wp.heap.size Wp w' := (h.bel.alloc h.bel.size tmp).grown hg (by have := h.bel.size; simp; omega) (fun k e => by
    have := (World.ownsRow.lt h1 k e).1; omega)
  have hba : Below w.heap.size w (w.alloc tmp) := (Below.refl _ _).alloc (Nat.le_refl _) _
  have K' : OwnK w' D x' (C ++ [c]) := OwnK.append hl (h1.alloc tmp) (fun i hi => (h2 i hi).later hba) (hq.later hba) h3 hg
  have g2 := grownBy_set w' ⟨D, 0, none⟩ x'
  refine ⟨⟨b1.setCell (p := ⟨D, 0, none⟩) hD _, ?_, K'.elsewhere g2 hbk (by decide) (by decide) (by decide), OwnH.elsewhere ⟨ownsRow_elsewhere (h.h.later hba).1 hg (other _ (by decide)), h.h.2⟩ g2 hbk (by decide), ?_⟩, hbk⟩
  · rw [heap_setCell_same _ _ _ _ _ _ hbk]; rfl
  · refine ownsRow_elsewhere (ownsRow_elsewhere (ownsRow_later h.i hba) hg (other _ (by decide))) g2 fun r e cur he => ?_
    cases e
    rw [show w'.heap[D]? = _ from hbk] at he
    simp at he
theorem cell_pair_new (w : World) (x y : Value) (t : TypeId) : ∀ j u, [x, y][j]? = some u → (w.alloc (.cells #[x, y] t)).cell? ((⟨w.heap.size, 0, none⟩ : Addr).add j) = some u := by
  intro j u hj
  match j, hj with
  | 0, hj => simp at hj; subst hj; simp [go_sem, Addr.add]
  | 1, hj => simp at hj; subst hj; simp [go_sem, Addr.add]
theorem open_end {Wp wr w5 w6 : World} {p k g6 cap6 : Nat} {x y z v4 v5 c0 c1 : Value} {Ck : List M.Com} {cc : M.Com} {H : List M.Hd} {A : List Int} {vals : List (Value × Value)} (hCl : Ck.length = k) (hVl : vals.length = Ck.length) (hrow : wr.ownsRow (p + 1) 54 2 x k (encP vals)) (hel : ∀ i, i < Ck.length → OwnCo wr (p + 1) (vals.getD i vp0) (Ck.getD i ([], []))) (hsp : Wp.heap.size = p + 1)
    (hw5 : Below wr.heap.size wr w5) (hO : Op2 Wp (p + 1) x y z Ck H A w5) (hq : OwnCo w5 (p + 1) (v4, v5) cc) (h6 : w6.ownsRow (p + 1) 54 2 (.slice (some ⟨g6, 0, none⟩) (k + 1) cap6) (k + 1) (encP vals ++ [v4, v5])) (h7 : (w5.alloc (.cells #[v4, v5] 54)).grownBy w6 x.ownBlock)
    (y0 : w5.cell? ⟨wr.heap.size, 0, none⟩ = some c0) (y1 : w5.cell? ⟨wr.heap.size, 1, none⟩ = some c1) :
    Op2 Wp (p + 1) (.slice (some ⟨g6, 0, none⟩) (k + 1) cap6) y z (Ck ++ [cc]) H A (w6.setCell ⟨p + 1, 0, none⟩ (.slice (some ⟨g6, 0, none⟩) (k + 1) cap6)) ∧ w6.heap[p + 1]? = some (.cells #[x, y, z] 115 (0, 0)) ∧ w6.cell? ⟨wr.heap.size, 0, none⟩ = some c0 ∧ w6.cell? ⟨wr.heap.size, 1, none⟩ = some c1 := by
  subst hCl
  obtain ⟨P1, P2⟩ := hO.put (by omega) (.cells #[v4, v5] 54) hVl (ownsRow_later hrow hw5) (fun i hi => (hel i hi).later hw5) hq h6 h7
  have hlt : wr.heap.size < w5.heap.size := World.block_lt_of_cell? w5 ⟨wr.heap.size, 0, none⟩ y0
  have hb : w6.heap[wr.heap.size]? = w5.heap[wr.heap.size]? := by
    rw [h7.block wr.heap.size (by simp; omega) (fun e => by have := (World.ownsRow.lt hrow _ e.symm).2; omega), Below.heap_alloc _ _ _ hlt]
  exact ⟨P1, P2, (World.cell?_of_block (a := ⟨wr.heap.size, 0, none⟩) hb).trans y0, (World.cell?_of_block (a := ⟨wr.heap.size, 1, none⟩) hb).trans y1⟩
def Ns (w : World) (b n : Nat) (S : List ByteArray) : Prop := S.length = n ∧ b < w.heap.size ∧ ∀ i, i < n → w.cell? ⟨b, i, none⟩ = some (.string (S.getD i ByteArray.empty))
set_option maxRecDepth 100000 in
set_option maxHeartbeats 8000000 in
theorem open_any (a : Option Addr) (n cap : Nat) (C : List M.Com) (a2 : Option Addr) (n2 cap2 : Nat) (H : List M.Hd) (nb k0 : Nat) (S : List ByteArray) (w : World) (hV : RepoV w a n cap C a2 n2 cap2 H) (hS : Ns w nb k0 S) (hk0 : k0 ≤ 1000) (hk1 : 0 < k0) :
    Calls Tryz.prog 67 #[.agg #[.slice a n cap, .slice a2 n2 cap2], .slice (some ⟨nb, 0, none⟩) k0 k0] w fun e w' => Below w.heap.size w w' ∧
      ((M.openE C H S ≠ 0 ∧ e = .returned (.tuple #[.pointer none, .int .i64 (M.openE C H S)])) ∨ (M.openE C H S = 0 ∧ M.rchk C H = 0 ∧ ∃ D, e = .returned (.tuple #[.pointer (some ⟨D, 0, none⟩), .int .i64 0]) ∧ DeskAt w' w.heap.size D C H (S.map (M.hat C H)))) := by
  obtain ⟨p, hp⟩ : ∃ p, p = w.heap.size := ⟨_, rfl⟩
  have I0 := InBox.new w a n cap C a2 n2 cap2 H hV.cm hV.hs
  obtain ⟨Wp, hWp⟩ : ∃ Wp, Wp = w.alloc (.cells #[.slice a n cap, .slice a2 n2 cap2] 35) := ⟨_, rfl⟩
  rw [← hWp, ← hp] at I0
  have hbp : Below w.heap.size w Wp := by rw [hWp]; exact (Below.refl _ _).alloc (Nat.le_refl _) _
  have hsp : Wp.heap.size = p + 1 := by rw [hWp, hp]; simp
  obtain ⟨W, hW⟩ : ∃ W, W = Wp.alloc (.cells #[.slice none 0 0, .slice none 0 0, .slice none 0 0] 115) := ⟨_, rfl⟩
  have O0 : Op1 Wp (p + 1) (.slice none 0 0) [] W := by
    refine ⟨by rw [hW]; exact (Below.refl _ _).alloc (Nat.le_refl _) _, ?_, OwnI.nil _ _⟩
    rw [hW, ← hsp]; exact heap_alloc_new _ _
  have HI : Aside (InBox Wp p a n cap C a2 n2 cap2 H) := I0
  have HV : Aside (RepoV Wp a n cap C a2 n2 cap2 H) := hV.later hbp
  have HS : Aside (Ns Wp nb k0 S) := ⟨hS.1, Nat.lt_of_lt_of_le hS.2.1 hbp.size, fun i hi => (hbp.cell (p := ⟨nb, i, none⟩) hS.2.1).trans (hS.2.2 i hi)⟩
  have HW : Hid (W = (w.alloc (.cells #[.slice a n cap, .slice a2 n2 cap2] 35)).alloc (.cells #[.slice none 0 0, .slice none 0 0, .slice none 0 0] 115)) := by rw [← hWp]; exact hW
  have HP : Aside (p = w.heap.size) := hp
  have HO : Aside (Op1 Wp (p + 1) (.slice none 0 0) [] W) := O0
  obtain ⟨i0, hi, hz0, hz1, hz2⟩ := info_parts infoInt
  obtain ⟨i1, hi1, hy0, hy1, hy2⟩ := info_parts infoCommit
  clear hW hWp hp I0 O0 hV hS
  go_enter Tryz.func67, Tryz.ntmps67
  go_wp2_with fail
  rw [← HW.out, ← HP.out]
  go_loopg [17] k0 (fun g i wr => ∃ (j : Nat) (z : Value), j + g = k0 ∧ i = .int .i64 j ∧ Aside (Op1 Wp (p + 1) z ((S.take j).map (M.hat C H)) wr) ∧ Aside (M.openE C H (S.drop j) = M.openE C H S) ∧ Aside (0 < j → M.rchk C H = 0))
  case atStart => exact ⟨0, _, by omega, rfl, HO, by simp [Aside], fun h => by omega⟩
  case round =>
    obtain ⟨j, z, hj, rfl, HOj, A, HRj⟩ := hrel
    have hbel := HOj.out.bel
    have J := HI.out.below hbel
    have d0 := J.c0
    have d1 := J.c1
    have hbw : Below w.heap.size w wr := hbp.trans (hbel.mono hbp.size)
    by_cases hlt : j < k0
    · obtain ⟨s, hs⟩ : ∃ s, S.getD j ByteArray.empty = s := ⟨_, rfl⟩
      have cn : wr.cell? ⟨nb, j, none⟩ = some (.string s) := by rw [hbel.cell (p := ⟨nb, j, none⟩) HS.out.2.1, HS.out.2.2 j hlt, hs]
      have HK := head_any a n cap C a2 n2 cap2 H s wr J.cm HV.out.nm J.hs HV.out.hm
      obtain ⟨c, hc⟩ : ∃ c, c = M.hchk C H s := ⟨_, rfl⟩
      obtain ⟨x, hx⟩ : ∃ x, x = M.hat C H s := ⟨_, rfl⟩
      rw [← hc, ← hx] at HK
      have HKK : Hid (Calls Tryz.prog 109 #[.agg #[.slice a n cap, .slice a2 n2 cap2], .string s] wr fun e w' => e = .returned (.tuple #[.int .i64 x, .int .i64 c]) ∧ Below wr.heap.size wr w') := HK
      have HSs : Aside (S.getD j ByteArray.empty = s) := hs
      have HCc : Aside (c = M.hchk C H s) := hc
      have HXx : Aside (x = M.hat C H s) := hx
      have hji : (j : Int) < (k0 : Int) := by omega
      clear HK hs hc hx J
      go_wp2_with fail
      refine HKK.out.mono ?_
      rintro e w1 ⟨rfl, b1⟩
      have HO1 : Aside (Op1 Wp (p + 1) z ((S.take j).map (M.hat C H)) w1) := HOj.out.later b1
      have hb1 : Below w.heap.size w w1 := hbw.trans (b1.mono hbw.size)
      clear b1
      by_cases hz : c = 0
      · have hne : (c != 0) = false := by simp [hz]
        have HZ : Aside (M.hchk C H s = 0) := by unfold Aside; rw [← HCc.out]; exact hz
        have A2 : Aside (M.openE C H (S.drop (j + 1)) = M.openE C H S) := by unfold Aside; rw [← A.out, M.openE_good C H S j (by rw [HS.out.1]; exact hlt) s HSs.out HZ.out]
        have HR2 : Aside (0 < j + 1 → M.rchk C H = 0) := fun _ => (M.hchk_zero HZ.out).1
        have eT : (S.take (j + 1)).map (M.hat C H) = (S.take j).map (M.hat C H) ++ [x] := by
          rw [List.take_succ_eq_append_getElem (by rw [HS.out.1]; exact hlt), List.map_append]
          have : S[j]'(by rw [HS.out.1]; exact hlt) = s := by rw [← HSs.out]; simp [List.getD, HS.out.1, hlt]
          rw [this, HXx.out]; rfl
        have ET : Aside ((S.take (j + 1)).map (M.hat C H) = (S.take j).map (M.hat C H) ++ [x]) := eT
        have hlen : ((S.take j).map (M.hat C H)).length ≤ 1000 := by rw [List.length_map, List.length_take]; omega
        have k2 : w1.cell? ⟨p + 1, 2, none⟩ = some z := by rw [cell_of_row _ _ _ _ _ _ HO1.out.blk]; rfl
        have hDl : p + 1 < w1.heap.size := (Array.getElem?_eq_some_iff.1 HO1.out.blk).1
        have HOa : Aside (OwnI (w1.alloc (.cells #[.int .i64 x] 3)) (p + 1) z ((S.take j).map (M.hat C H))) := World.ownsRow.alloc HO1.out.own _
        obtain ⟨L, hL⟩ : ∃ L, L = (S.take j).map (M.hat C H) := ⟨_, rfl⟩
        rw [← hL] at ET hlen HOa HO1
        have HCell : Aside (∀ i, i < 1 → (w1.alloc (.cells #[.int .i64 x] 3)).cell? ⟨w1.heap.size, 0 + i, none⟩ = some (.int .i64 (([x] : List Int).getD i 0))) := ri_one w1 x
        have hzs : ∃ za zn zc, z = .slice za zn zc := by obtain ⟨za, zc, e, _⟩ := HO1.out.own.ri; exact ⟨za, _, zc, e⟩
        obtain ⟨za, zn, zc, rfl⟩ := hzs
        have HLn : Aside (L = (S.take j).map (M.hat C H)) := hL
        clear hz eT A hL HOj
        go_wp2_with (at_builtin; refine wpList_append_own _ rfl _ _ 24 rfl (p + 1) 3 i0 (.int .i64 0) 1 8 Tryz.underlying24 hi hz0 hz1 hz2 rfl (by decide) _ L.length (L.map (Value.int .i64)) rfl HOa.out ⟨w1.heap.size, 0, none⟩ 1 1 [.int .i64 x] rfl rfl (cell_one_new _ _ _) (by simp [Value.oneCell']) (by simp only [maxLen]; omega) (by omega) (by simp; omega) ?_)
        intro v' w' h1 h2 _
        obtain ⟨g', cap', rfl⟩ := ownsRow_succ h1
        have hoI : OwnI w' (p + 1) (.slice (some ⟨g', 0, none⟩) (L.length + 1) cap') (L ++ [x]) := by unfold OwnI; rw [List.map_append, List.length_append]; exact h1
        obtain ⟨P1, P2⟩ := HO1.out.put (by omega) (.cells #[.int .i64 x] 3) hoI h2
        have k3 : w'.cell? ⟨p + 1, 2, none⟩ = some (.slice za zn zc) := by rw [cell_of_row _ _ _ _ _ _ P2]; rfl
        have f3 : w'.frozen? ⟨p + 1, 2, none⟩ = false := frozen_of_row _ _ _ _ _ P2
        have HP1 : Aside (Op1 Wp (p + 1) (.slice (some ⟨g', 0, none⟩) (L.length + 1) cap') ((S.take (j + 1)).map (M.hat C H)) (w'.setCell ⟨p + 1, 2, none⟩ (.slice (some ⟨g', 0, none⟩) (L.length + 1) cap'))) := by unfold Aside; rw [ET.out]; exact P1
        generalize hLe : L.length + 1 = Ln at *
        clear hLe P1 P2 h1 h2 hoI HO1 HOa
        go_wp2
        go_roundg (gk - 1)
        case measure => omega
        case rel => exact ⟨j + 1, _, by omega, by go_num, HP1, A2, HR2⟩
      · have hne : (c != 0) = true := by simp [hz]
        have E : Aside (M.openE C H S = c ∧ c ≠ 0) := ⟨by rw [← A.out, M.openE_bad C H S j (by rw [HS.out.1]; exact hlt) s HSs.out (by rw [← HCc.out]; exact hz)]; exact HCc.out.symm, hz⟩
        clear hz
        go_wp2
        go_ret2
        refine ⟨hb1, Or.inl ⟨?_, ?_⟩⟩
        · rw [E.out.1]; exact E.out.2
        · exact ret_two' E.out.1.symm
    · obtain rfl : j = k0 := by omega
      have hkk : decide ((j : Int) < (j : Int)) = false := by simp
      have hr0 := HRj.out hk1
      have hn2 : n2 ≤ 4 := by rw [← J.hs.1]; exact (M.rchk_zero hr0).2.1
      have hR := M.dchk_zero (M.rchk_zero hr0).1
      have hn : n ≤ 14 := by rw [← J.cm.1]; exact hR.1
      have HRt : Aside (M.Right C) := hR.2
      have HR0 : Aside (M.rchk C H = 0) := hr0
      have EA : Aside (M.openE C H S = 0) := by unfold Aside; rw [← A.out]; exact M.openE_end C H S j (by rw [HS.out.1]; omega)
      have hO := HOj.out
      rw [List.take_of_length_le (by rw [HS.out.1]; omega)] at hO
      have HCl := hcloned_any a2 n2 cap2 H wr (by omega) J.hs HV.out.hn
      have HCC : Hid (Calls Tryz.prog 110 #[.slice a2 n2 cap2] wr fun e w' => ∃ v, e = .returned v ∧ OwnH w' wr.heap.size v H ∧ Below wr.heap.size wr w') := HCl
      obtain ⟨Am, hAm⟩ : ∃ Am, Am = S.map (M.hat C H) := ⟨_, rfl⟩
      rw [← hAm] at hO
      have HAm : Aside (Am = S.map (M.hat C H)) := hAm
      have HO1 : Aside (Op1 Wp (p + 1) z Am wr) := hO
      have hDw : p + 1 < wr.heap.size := (Array.getElem?_eq_some_iff.1 hO.blk).1
      clear HCl hO hr0 hR A HRj HOj hAm J
      go_wp2_with fail
      refine HCC.out.mono ?_
      rintro e w1 ⟨v, rfl, ov, b1⟩
      obtain ⟨va, vc, rfl, _⟩ := ov.hs
      have O1 := HO1.out.later b1
      have k1 : w1.cell? ⟨p + 1, 1, none⟩ = some (.slice none 0 0) := by rw [cell_of_row _ _ _ _ _ _ O1.blk]; rfl
      have f1 : w1.frozen? ⟨p + 1, 1, none⟩ = false := frozen_of_row _ _ _ _ _ O1.blk
      have hD1 : p + 1 < w1.heap.size := (Array.getElem?_eq_some_iff.1 O1.blk).1
      obtain ⟨y, hy⟩ : ∃ y : Value, y = .slice va H.length vc := ⟨_, rfl⟩
      have O2 := Op1.next (by omega) O1 (OwnH.lower (base' := p + 1) ov (by omega))
      obtain ⟨W2, hW2⟩ : ∃ W2, W2 = w1.setCell ⟨p + 1, 1, none⟩ (.slice va H.length vc) := ⟨_, rfl⟩
      have HW2 : Hid (W2 = w1.setCell ⟨p + 1, 1, none⟩ (.slice va H.length vc)) := hW2
      rw [← hW2, ← hy] at O2
      have HO2 : Aside (Op2 Wp (p + 1) (.slice none 0 0) y z [] H Am W2) := O2
      have e0 := (HI.out.below O2.bel).c0
      rw [hW2] at e0
      have g0 := (HI.out.below O1.bel).c0
      clear hy hW2 O1 O2 ov b1 HCC d0 d1
      go_wp2
      rw [← HW2.out]
      go_loopg [51] n (fun g i wr => ∃ (k : Nat) (x : Value), k + g = n ∧ i = .int .i64 k ∧ Aside (Op2 Wp (p + 1) x y z (C.take k) H Am wr))
      case atStart => exact ⟨0, _, by omega, rfl, HO2⟩
      case round =>
        obtain ⟨k, x, hk, rfl, HOk⟩ := hrel
        have hbel := HOk.out.bel
        have J := HV.out.later hbel
        have hbw : Below w.heap.size w wr := hbp.trans (hbel.mono hbp.size)
        by_cases hlt : k < n
        · obtain ⟨b, off, rfl, a1, n1, c1, a3, n3, c3, t0, t1, s0, s1, m0, m1⟩ : ∃ b off, a = some ⟨b, off, none⟩ ∧ ∃ a1 n1 c1 a2 n2 c2, wr.cell? ⟨b, off + k * 2, none⟩ = some (.slice a1 n1 c1) ∧ wr.cell? ⟨b, off + k * 2 + 1, none⟩ = some (.slice a2 n2 c2) ∧ Rd wr a1 n1 (C.getD k ([], [])).1 ∧ Ri wr a2 n2 (C.getD k ([], [])).2 ∧ n1 ≤ 9223372036854775807 ∧ n2 ≤ 9223372036854775807 := by
            rcases J.cm.cases with ⟨h0, _⟩ | ⟨b, off, e, _, _, _, hc⟩
            · omega
            · exact ⟨b, off, e, hc k hlt⟩
          obtain ⟨cc, hcc⟩ : ∃ cc, cc = C.getD k ([], []) := ⟨_, rfl⟩
          rw [← hcc] at s0 s1
          have hRk := HRt.out k (by rw [J.cm.1]; exact hlt)
          rw [← hcc] at hRk
          have hn1 : n1 ≤ 40 := by rw [← s0.1]; exact ((M.chk_zero cc.1).1 hRk.1).1
          have hn3 : n3 ≤ 2 := by rw [← s1.1]; exact hRk.2.1
          have nil1 := J.cn b off rfl k hlt a1 n1 c1 (Or.inl t0)
          have nil3 := J.cn b off rfl k hlt a3 n3 c3 (Or.inr t1)
          have eT : C.take (k + 1) = C.take k ++ [cc] := by rw [List.take_succ_eq_append_getElem (by rw [J.cm.1]; exact hlt), hcc]; simp [List.getD, J.cm.1, hlt]
          have ET : Aside (C.take (k + 1) = C.take k ++ [cc]) := eT
          obtain ⟨Ck, hCk⟩ : ∃ Ck, Ck = C.take k := ⟨_, rfl⟩
          have hCl : Ck.length = k := by rw [hCk, List.length_take, J.cm.1]; omega
          rw [← hCk] at ET HOk
          have HCl : Aside (Ck.length = k) := hCl
          obtain ⟨vals, hvl, hrow, hel⟩ := HOk.out.k
          have HVl : Aside (vals.length = Ck.length) := hvl
          have HRow : Aside (wr.ownsRow (p + 1) 54 2 x k (encP vals)) := by unfold Aside; rw [← hCl]; exact hrow
          have HEl : Aside (∀ i, i < Ck.length → OwnCo wr (p + 1) (vals.getD i vp0) (Ck.getD i ([], []))) := hel
          obtain ⟨xa, xn, xc, rfl⟩ : ∃ xa xn xc, x = .slice xa xn xc := by obtain ⟨xa, xc, e, _⟩ := HOk.out.k.cm; exact ⟨xa, _, xc, e⟩
          have hDr : p + 1 < wr.heap.size := (Array.getElem?_eq_some_iff.1 HOk.out.blk).1
          obtain ⟨Wc, hWc⟩ : ∃ Wc, Wc = wr.alloc (.cells #[.slice a1 n1 c1, .slice a3 n3 c3] 54) := ⟨_, rfl⟩
          have hbc : Below wr.heap.size wr Wc := by rw [hWc]; exact (Below.refl _ _).alloc (Nat.le_refl _) _
          have q0 : Wc.cell? ⟨wr.heap.size, 0, none⟩ = some (.slice a1 n1 c1) := by rw [hWc]; simp [go_sem]
          have q1 : Wc.cell? ⟨wr.heap.size, 1, none⟩ = some (.slice a3 n3 c3) := by rw [hWc]; simp [go_sem]
          have hcs : wr.heap.size < Wc.heap.size := by rw [hWc]; simp
          have HCB : Hid (∀ V, Below Wc.heap.size Wc V → V.cell? ⟨wr.heap.size, 0, none⟩ = some (.slice a1 n1 c1) ∧ V.cell? ⟨wr.heap.size, 1, none⟩ = some (.slice a3 n3 c3)) := fun V hV => ⟨(hV.cell (p := ⟨wr.heap.size, 0, none⟩) hcs).trans q0, (hV.cell (p := ⟨wr.heap.size, 1, none⟩) hcs).trans q1⟩
          have HOV : Hid (∀ V, Below Wc.heap.size Wc V → Op2 Wp (p + 1) (.slice xa xn xc) y z Ck H Am V) := fun V hV => HOk.out.later (hbc.trans (hV.mono hbc.size))
          have HDV : Hid (∀ V, Below Wc.heap.size Wc V → V.cell? ⟨p + 1, 0, none⟩ = some (.slice xa xn xc)) := fun V hV => by rw [cell_of_row _ _ _ _ _ _ (HOV.out V hV).blk]; rfl
          have HC1 : Hid (∀ V, Below Wc.heap.size Wc V → Calls Tryz.prog 94 #[.slice a1 n1 c1] V fun e w' => ∃ ua uc, e = .returned (.slice ua n1 uc) ∧ Own w' Wc.heap.size (.slice ua n1 uc) cc.1 ∧ Below V.heap.size V w') := fun V hV => by
            refine (cloned_any a1 n1 c1 cc.1 V (by omega) ((s0.below hbc (Nat.le_refl _)).below hV (Nat.le_refl _)) nil1).mono ?_
            rintro e w' ⟨v, rfl, ho, hb⟩
            obtain ⟨ua, uc, rfl, _⟩ := ho.rd
            have : cc.1.length = n1 := s0.1
            exact ⟨ua, uc, by rw [this], by rw [← this]; exact ownsRow_lower ho hV.size, hb⟩
          have HC2 : Hid (∀ V, Below Wc.heap.size Wc V → Calls Tryz.prog 111 #[.slice a3 n3 c3] V fun e w' => ∃ ua uc, e = .returned (.slice ua n3 uc) ∧ OwnI w' Wc.heap.size (.slice ua n3 uc) cc.2 ∧ Below V.heap.size V w') := fun V hV => by
            refine (icloned_any a3 n3 c3 cc.2 V (by omega) ((s1.below hbc (Nat.le_refl _)).below hV (Nat.le_refl _)) nil3).mono ?_
            rintro e w' ⟨v, rfl, ho, hb⟩
            obtain ⟨ua, uc, rfl, _⟩ := ho.ri
            have : cc.2.length = n3 := s1.1
            exact ⟨ua, uc, by rw [this], by rw [← this]; exact ownsRow_lower ho hV.size, hb⟩
          have HLe : Hid (cc.1.length ≤ 1000000 ∧ cc.2.length ≤ 1000000) := ⟨by rw [s0.1]; omega, by rw [s1.1]; omega⟩
          have dD := HDV.out Wc (Below.refl _ _)
          have HWc : Hid (Wc = wr.alloc (.cells #[.slice a1 n1 c1, .slice a3 n3 c3] 54)) := hWc
          have hki : (k : Int) < (n : Int) := by omega
          have hk14 : k ≤ 14 := by omega
          have hpc : p + 1 < Wc.heap.size := by omega
          clear hcc hRk nil1 nil3 eT hCk hCl hvl hrow hel hWc s0 s1 J
          go_wp2_with fail
          rw [← HWc.out]
          refine wp_region_till 18 (fun V => V.cell? ⟨p + 1, 0, none⟩ = some (.slice xa xn xc) ∧ V.cell? ⟨wr.heap.size, 0, none⟩ = some (.slice a1 n1 c1) ∧ V.cell? ⟨wr.heap.size, 1, none⟩ = some (.slice a3 n3 c3)) (by kernel_rfl) ⟨dD, q0, q1⟩ (fun hHeld => ?_)
          refine till_go 0 (v := .pointer (some ⟨p + 1, 0, none⟩)) rfl (by decide) (by kernel_rfl) (by kernel_rfl) (by kernel_rfl) (fun _ _ _ h => h) (Or.inl ⟨by rfl, fun V _ => (by go_simp)⟩) hHeld ?_
          try simp only [Act.put]
          refine till_go 1 (v := .pointer (some ⟨p + 1, 0, none⟩)) rfl (by decide) (by kernel_rfl) (by kernel_rfl) (by kernel_rfl) (fun _ _ _ h => h) (Or.inl ⟨by rfl, fun V _ => (by go_simp)⟩) hHeld ?_
          try simp only [Act.put]
          refine till_go 2 (v := .pointer (some ⟨p + 1, 0, none⟩)) rfl (by decide) (by kernel_rfl) (by kernel_rfl) (by kernel_rfl) (fun _ _ _ h => h) (Or.inl ⟨by rfl, fun V _ => (by go_simp)⟩) hHeld ?_
          try simp only [Act.put]
          refine till_go 3 (v := .pointer (some ⟨p + 1, 0, none⟩)) rfl (by decide) (by kernel_rfl) (by kernel_rfl) (by kernel_rfl) (fun _ _ _ h => h) (Or.inl ⟨by rfl, fun V _ => (by go_simp)⟩) hHeld ?_
          try simp only [Act.put]
          refine till_go 4 (v := .pointer (some ⟨p + 1, 0, none⟩)) rfl (by decide) (by kernel_rfl) (by kernel_rfl) (by kernel_rfl) (fun _ _ _ h => h) (Or.inl ⟨by rfl, fun V _ => (by go_simp)⟩) hHeld ?_
          try simp only [Act.put]
          refine till_take 5 (v := .slice xa xn xc) rfl (by decide) (by kernel_rfl) (by kernel_rfl) (by kernel_rfl) (by kernel_rfl) (by kernel_rfl) (fun _ _ _ h => h) (Or.inl ⟨by rfl, fun V hV => (by obtain ⟨v0, v1, v2⟩ := hV; go_simp)⟩) hHeld ?_
          try simp only [Act.put]
          refine till_go 6 (v := .pointer (some ⟨wr.heap.size, 0, none⟩)) rfl (by decide) (by kernel_rfl) (by kernel_rfl) (by kernel_rfl) (fun _ _ _ h => h) (Or.inl ⟨by rfl, fun V _ => (by go_simp)⟩) hHeld ?_
          try simp only [Act.put]
          refine till_take 7 (v := .slice a1 n1 c1) rfl (by decide) (by kernel_rfl) (by kernel_rfl) (by kernel_rfl) (by kernel_rfl) (by kernel_rfl) (fun _ _ _ h => h) (Or.inl ⟨by rfl, fun V hV => (by obtain ⟨v0, v1, v2⟩ := hV; go_simp)⟩) hHeld ?_
          try simp only [Act.put]
          refine till_go 9 (v := .pointer (some ⟨wr.heap.size, 1, none⟩)) rfl (by decide) (by kernel_rfl) (by kernel_rfl) (by kernel_rfl) (fun _ _ _ h => h) (Or.inl ⟨by rfl, fun V _ => (by go_simp)⟩) hHeld ?_
          try simp only [Act.put]
          refine till_take 10 (v := .slice a3 n3 c3) rfl (by decide) (by kernel_rfl) (by kernel_rfl) (by kernel_rfl) (by kernel_rfl) (by kernel_rfl) (fun _ _ _ h => h) (Or.inl ⟨by rfl, fun V hV => (by obtain ⟨v0, v1, v2⟩ := hV; go_simp)⟩) hHeld ?_
          try simp only [Act.put]
          refine till_step 8 rfl (by decide) (by kernel_rfl) (fun K hK => ?_)
          go_simp
          go_wp2_with (go_at_call 94; refine (HC1.out _ ((Below.refl _ _).drew)).mono ?_; rintro e w4 ⟨ua, uc, rfl, ho4, hb4⟩)
          have b4 : Hid (Below Wc.heap.size Wc w4) := ((Below.refl _ _).drew).trans hb4
          have hAnew : Hid (w4.cell? ⟨p + 1, 0, none⟩ = some (.slice xa xn xc) ∧ w4.cell? ⟨wr.heap.size, 0, none⟩ = some (.slice a1 n1 c1) ∧ w4.cell? ⟨wr.heap.size, 1, none⟩ = some (.slice a3 n3 c3)) := ⟨HDV.out w4 b4.out, HCB.out w4 b4.out⟩
          have H4 : Hid (Own w4 Wc.heap.size (.slice ua n1 uc) cc.1) := ho4
          clear ho4 hb4
          refine hK.out _ _ hAnew.out (fun hHeld => ?_)
          clear hK K
          refine till_step 11 rfl (by decide) (by kernel_rfl) (fun K hK => ?_)
          go_simp
          go_wp2_with (go_at_call 111; refine (HC2.out _ b4.out).mono ?_; rintro e w5 ⟨ub, ud, rfl, ho5, hb5⟩)
          have b5 : Hid (Below Wc.heap.size Wc w5) := b4.out.trans (hb5.mono b4.out.size)
          have hAnew : Hid (w5.cell? ⟨p + 1, 0, none⟩ = some (.slice xa xn xc) ∧ w5.cell? ⟨wr.heap.size, 0, none⟩ = some (.slice a1 n1 c1) ∧ w5.cell? ⟨wr.heap.size, 1, none⟩ = some (.slice a3 n3 c3)) := ⟨HDV.out w5 b5.out, HCB.out w5 b5.out⟩
          have H5 : Hid (OwnCo w5 (p + 1) (.slice ua n1 uc, .slice ub n3 ud) cc) := ⟨ownsRow_lower (ownsRow_later H4.out hb5) (by omega), ownsRow_lower ho5 (by omega), HLe.out⟩
          have hs5 : wr.heap.size < w5.heap.size := by have := b5.out.size; omega
          have hw5 : Below wr.heap.size wr w5 := hbc.trans (b5.out.mono hbc.size)
          have HRA : Hid ((w5.alloc (.cells #[.slice ua n1 uc, .slice ub n3 ud] 54)).ownsRow (p + 1) 54 2 (.slice xa xn xc) k (encP vals)) := (ownsRow_later HRow.out hw5).alloc _
          have hA5 : Hid ((w5.alloc (.cells #[.slice ua n1 uc, .slice ub n3 ud] 54)).cell? ⟨p + 1, 0, none⟩ = some (.slice xa xn xc) ∧ (w5.alloc (.cells #[.slice ua n1 uc, .slice ub n3 ud] 54)).cell? ⟨wr.heap.size, 0, none⟩ = some (.slice a1 n1 c1) ∧ (w5.alloc (.cells #[.slice ua n1 uc, .slice ub n3 ud] 54)).cell? ⟨wr.heap.size, 1, none⟩ = some (.slice a3 n3 c3)) := ⟨((Below.refl w5.heap.size w5).alloc (Nat.le_refl _) _).cell (p := ⟨p + 1, 0, none⟩) (by show p + 1 < _; omega) |>.trans hAnew.out.1, ((Below.refl w5.heap.size w5).alloc (Nat.le_refl _) _).cell (p := ⟨wr.heap.size, 0, none⟩) hs5 |>.trans hAnew.out.2.1, ((Below.refl w5.heap.size w5).alloc (Nat.le_refl _) _).cell (p := ⟨wr.heap.size, 1, none⟩) hs5 |>.trans hAnew.out.2.2⟩
          clear ho5 hb5
          refine hK.out _ _ hAnew.out (fun hHeld => ?_)
          clear hK K
          refine till_go 12 (v := .agg #[.slice ua n1 uc, .slice ub n3 ud]) rfl (by decide) (by kernel_rfl) (by kernel_rfl) (by kernel_rfl) (fun _ _ _ h => h) (Or.inl ⟨by rfl, fun V _ => (by go_simp)⟩) hHeld ?_
          try simp only [Act.put]
          refine till_step 13 rfl (by decide) (by kernel_rfl) (fun K hK => ?_)
          go_simp
          refine hK.out _ _ hA5.out (fun hHeld => ?_)
          clear hK K
          refine till_step 14 rfl (by decide) (by kernel_rfl) (fun K hK => ?_)
          refine step_append_lies _ rfl _ _ 32 rfl (p + 1) 54 i1 (.agg #[.slice none 0 0, .slice none 0 0]) 2 48 Tryz.underlying32 hi1 hy0 hy1 hy2 rfl (by decide) _ k (encP vals) rfl HRA.out ⟨w5.heap.size, 0, none⟩ 1 1 [.slice ua n1 uc, .slice ub n3 ud] rfl rfl (cell_pair_new _ _ _ _) (by simp [Value.oneCell']) (by decide) (by simp only [maxLen]; omega) (by omega) (by simp; omega) _ rfl ?_
          intro g6 cap6 w6 h6 h7 _ _
          obtain ⟨P1, P2, P3⟩ := open_end HCl.out HVl.out HRow.out HEl.out hsp hw5 (HOV.out w5 b5.out) H5.out h6 h7 hAnew.out.2.1 hAnew.out.2.2
          have k6 : w6.cell? ⟨p + 1, 0, none⟩ = some (.slice xa xn xc) := by rw [cell_of_row _ _ _ _ _ _ P2]; rfl
          have f6 : w6.frozen? ⟨p + 1, 0, none⟩ = false := frozen_of_row _ _ _ _ _ P2
          have hA6 : Hid (w6.cell? ⟨p + 1, 0, none⟩ = some (.slice xa xn xc) ∧ w6.cell? ⟨wr.heap.size, 0, none⟩ = some (.slice a1 n1 c1) ∧ w6.cell? ⟨wr.heap.size, 1, none⟩ = some (.slice a3 n3 c3)) := ⟨k6, P3⟩
          have HE6 : Aside (Op2 Wp (p + 1) (.slice (some ⟨g6, 0, none⟩) (k + 1) cap6) y z (C.take (k + 1)) H Am (w6.setCell ⟨p + 1, 0, none⟩ (.slice (some ⟨g6, 0, none⟩) (k + 1) cap6))) := by unfold Aside; rw [ET.out]; exact P1
          clear P1 P2 P3 h6 h7
          refine hK.out _ _ hA6.out (fun hHeld => ?_)
          clear hK K
          refine till_go 15 (v := .pointer (some ⟨p + 1, 0, none⟩)) rfl (by decide) (by kernel_rfl) (by kernel_rfl) (by kernel_rfl) (fun _ _ _ h => h) (Or.inl ⟨by rfl, fun V _ => (by go_simp)⟩) hHeld ?_
          try simp only [Act.put]
          refine till_go 16 (v := .pointer (some ⟨p + 1, 0, none⟩)) rfl (by decide) (by kernel_rfl) (by kernel_rfl) (by kernel_rfl) (fun _ _ _ h => h) (Or.inl ⟨by rfl, fun V _ => (by go_simp)⟩) hHeld ?_
          try simp only [Act.put]
          refine till_go 17 (v := .pointer (some ⟨p + 1, 0, none⟩)) rfl (by decide) (by kernel_rfl) (by kernel_rfl) (by kernel_rfl) (fun _ _ _ h => h) (Or.inl ⟨by rfl, fun V _ => (by go_simp)⟩) hHeld ?_
          try simp only [Act.put]
          refine till_last rfl (by kernel_rfl) (by kernel_rfl) (fun K hK => ?_) _
          go_simp
          refine hK.out _ _ ?_
          clear hK K
          clear hAnew hA5 hA6 HRA H5 H4 HC1 HC2 HOV HDV HCB
          go_wp2
          go_roundg (gk - 1)
          case measure => omega
          case rel => exact ⟨k + 1, _, by omega, by go_num, HE6⟩
        · obtain rfl : k = n := by omega
          have hkk2 : decide ((k : Int) < (k : Int)) = false := by simp
          have hO := HOk.out
          rw [List.take_of_length_le (by rw [J.cm.1]; omega)] at hO
          have HD : Aside (DeskAt wr w.heap.size (p + 1) C H (S.map (M.hat C H))) := by
            unfold Aside
            rw [← HAm.out]
            exact ⟨x, y, z, hO.blk, by rw [← HP.out]; omega, hO.k.lower (by rw [← HP.out]; omega), hO.h.lower (by rw [← HP.out]; omega), ownsRow_lower hO.i (by rw [← HP.out]; omega)⟩
          clear hO HOk J
          go_wp2
          go_ret2
          exact ⟨hbw, Or.inr ⟨EA.out, HR0.out, p + 1, rfl, HD.out⟩⟩
theorem place1_any (x : M.Hd) (q : Nat) (s : ByteArray) (w : World) (hq : w.cell? ⟨q, 0, none⟩ = some (.string s)) (hql : q < w.heap.size) :
    Calls Tryz.prog 115 #[.agg #[.string x.1, .int .i64 x.2], .pointer (some ⟨q, 0, none⟩)] w fun e w' => e = .returned (.bool (M.alike x.1 s)) ∧ Below w.heap.size w w' := by
  have hb : Below w.heap.size w (w.alloc (.cells #[.string x.1, .int .i64 x.2] 58)) := (Below.refl _ _).alloc (Nat.le_refl _) _
  have hq1 : (w.alloc (.cells #[.string x.1, .int .i64 x.2] 58)).cell? ⟨q, 0, none⟩ = some (.string s) := (hb.cell (p := ⟨q, 0, none⟩) hql).trans hq
  go_enter Tryz.func115, Tryz.ntmps115
  go_wp2
  go_ret
  exact ⟨rfl, hb⟩
theorem dplace_any (D base : Nat) (C : List M.Com) (H : List M.Hd) (A : List Int) (s : ByteArray) (w : World) (hD : DeskAt w base D C H A) :
    Calls Tryz.prog 78 #[.pointer (some ⟨D, 0, none⟩), .string s] w fun e w' => e = .returned (.int .i64 (M.plc H s)) ∧ Below w.heap.size w w' := by
  have hlt := hD.lt
  obtain ⟨x, y, z, h1, _, _, h4, _⟩ := hD
  obtain ⟨a, cap, rfl, hs, hc1, hc2, _⟩ := h4.hs
  obtain ⟨W, hW⟩ : ∃ W, W = w.alloc (.cells #[.string s] 9) := ⟨_, rfl⟩
  have hb : Below w.heap.size w W := by rw [hW]; exact (Below.refl _ _).alloc (Nat.le_refl _) _
  have hq : W.cell? ⟨w.heap.size, 0, none⟩ = some (.string s) := by rw [hW]; simp [go_sem]
  have hql : w.heap.size < W.heap.size := by rw [hW]; simp
  have k1 : W.cell? ⟨D, 1, none⟩ = some (.slice a H.length cap) := (hb.cell (p := ⟨D, 1, none⟩) hlt).trans (by rw [cell_of_row _ _ _ _ _ _ h1]; rfl)
  have k1' : w.cell? ⟨D, 1, none⟩ = some (.slice a H.length cap) := by rw [cell_of_row _ _ _ _ _ _ h1]; rfl
  rw [hW] at k1
  have K := index_any 115 [.pointer (some ⟨w.heap.size, 0, none⟩)] (enters_of Tryz.func115 (by kernel_rfl) rfl) (fun h => M.alike h.1 s) a H.length cap H W (hs.below hb (Nat.le_refl _)) (by unfold maxLen at hc2; omega) (fun W' x hx hbx => place1_any x w.heap.size s W' ((hbx.cell (p := ⟨w.heap.size, 0, none⟩) hql).trans hq) (Nat.lt_of_lt_of_le hql hbx.size))
  have KK : Hid (Calls Tryz.prog 59 #[.slice a H.length cap, .func (.func 115) #[] #[.pointer (some ⟨w.heap.size, 0, none⟩)]] W fun e w' => e = .returned (.int .i64 (M.plc H s)) ∧ Below W.heap.size W w') := K
  have HW : Hid (W = w.alloc (.cells #[.string s] 9)) := hW
  clear K hs hW hq h1 h4
  go_enter Tryz.func78, Tryz.ntmps78
  go_wp2_with fail
  rw [← HW.out]
  refine KK.out.mono ?_
  rintro e w' ⟨rfl, hb1⟩
  go_wp2
  go_ret
  exact ⟨rfl, hb.trans (hb1.mono hb.size)⟩
theorem drows_any (D base : Nat) (C : List M.Com) (H : List M.Hd) (A : List Int) (k : Nat) (w : World) (hD : DeskAt w base D C H A) (hk : k < C.length) :
    Calls Tryz.prog 74 #[.pointer (some ⟨D, 0, none⟩), .int .i64 k] w fun e w' => ∃ a cap, e = .returned (.slice a (C.getD k ([], [])).1.length cap) ∧ Own w' base (.slice a (C.getD k ([], [])).1.length cap) (C.getD k ([], [])).1 ∧ w' = w := by
  obtain ⟨x, y, z, h1, _, h3, _, _⟩ := hD
  have h3' := h3
  obtain ⟨vals, hl, h0, hv⟩ := h3'
  obtain ⟨a, cap, e, hcm, _⟩ := h3.cm
  subst e
  obtain ⟨o1, _⟩ := hv k hk
  obtain ⟨a1, c1, e1, _⟩ := o1.rd
  have HO : Hid (Own w base (.slice a1 (C.getD k ([], [])).1.length c1) (C.getD k ([], [])).1) := by rw [← e1]; exact o1
  obtain ⟨g, rfl⟩ : ∃ g, a = some ⟨g, 0, none⟩ := by
    rcases h0.2 with ⟨e, _⟩ | ⟨g, _, _, e, _⟩
    · simp at e; omega
    · simp at e; exact ⟨g, e.1⟩
  have k0 : w.cell? ⟨D, 0, none⟩ = some (.slice (some ⟨g, 0, none⟩) C.length cap) := by rw [cell_of_row _ _ _ _ _ _ h1]; rfl
  have kr : w.cell? ⟨g, k * 2, none⟩ = some (.slice a1 (C.getD k ([], [])).1.length c1) := by
    rw [World.ownsRow.cellAt h0 (k * 2) (by omega), encP_fst vals k (by omega), e1]
  obtain ⟨m, hm⟩ : ∃ m, m = (C.getD k ([], [])).1.length := ⟨_, rfl⟩
  rw [← hm] at kr HO ⊢
  have hki : (k : Int) < (C.length : Int) := by omega
  clear hcm h0 hv o1 h3 h1 e1 hm
  go_enter Tryz.func74, Tryz.ntmps74
  go_wp2
  go_ret
  exact ⟨a1, c1, rfl, HO.out, rfl⟩
def M.mv (H : List M.Hd) (s : ByteArray) (x : Int) : List M.Hd := H.set (M.plc H s).toNat ((H.getD (M.plc H s).toNat M.hd0).1, x)
theorem encH_set (H : List M.Hd) (k : Nat) (x : Int) (h : k < H.length) : encH (H.set k ((H.getD k M.hd0).1, x)) = (encH H).set (k * 2 + 1) (.int .i64 x) := by
  induction H generalizing k with
  | nil => simp at h
  | cons r t ih =>
    cases k with
    | zero => simp [encH]
    | succ k =>
      have := ih k (by simpa using h)
      rw [List.set_cons_succ, encH_cons, encH_cons, show (k + 1) * 2 + 1 = k * 2 + 1 + 1 + 1 by omega, List.set_cons_succ, List.set_cons_succ]
      simp at this ⊢
      exact this
theorem DeskAt.moved {w : World} {base D g cap k : Nat} {x z : Value} {C : List M.Com} {H : List M.Hd} {A : List Int} (n : Int) (h1 : w.heap[D]? = some (.cells #[x, .slice (some ⟨g, 0, none⟩) H.length cap, z] 115 (0, 0))) (h2 : base ≤ D) (h3 : OwnK w base x C) (h4 : OwnH w base (.slice (some ⟨g, 0, none⟩) H.length cap) H) (h5 : OwnI w base z A) (hk : k < H.length) :
    DeskAt (w.setCell ⟨g, k * 2 + 1, none⟩ (.int .i64 n)) base D C (H.set k ((H.getD k M.hd0).1, n)) A ∧ w.frozen? ⟨g, k * 2 + 1, none⟩ = false ∧ base ≤ g := by
  have h40 := h4.1
  obtain ⟨⟨hl, hor⟩, hsm⟩ := h4
  rcases hor with ⟨e, _⟩ | ⟨g', cap', cur, e, hb, hh, hc, hm, hz, hx⟩
  · simp at e
  · simp only [Value.slice.injEq, Option.some.injEq, Addr.mk.injEq] at e
    obtain ⟨⟨rfl, _⟩, _, rfl⟩ := e
    have gg := grownBy_set w ⟨g, k * 2 + 1, none⟩ (.int .i64 n)
    have hgD : g ≠ D := fun e => by rw [e, h1] at hh; simp at hh
    refine ⟨⟨x, .slice (some ⟨g, 0, none⟩) H.length cap, z, ?_, h2, h3.elsewhere gg hh (by decide) (by decide) (by decide), ⟨⟨?_, Or.inr ⟨g, cap, cur.setIfInBounds (k * 2 + 1) (.int .i64 n), by simp, hb, ?_, by simpa using hc, hm, by simpa using hz, ?_⟩⟩, ?_⟩, ownsRow_elsewhere h5 gg fun r e cur' he => ?_⟩, frozen_of_row _ _ _ _ _ hh, hb⟩
    · rw [heap_setCell_other _ _ _ _ (fun e => hgD e.symm)]; exact h1
    · simp [encH_length]
    · exact heap_setCell_same _ _ _ _ _ _ hh
    · rw [encH_set H k n hk, Array.toList_setIfInBounds, List.length_set, List.take_set, hx]
    · intro y hy
      rcases List.mem_or_eq_of_mem_set hy with hy | rfl
      · exact hsm y hy
      · exact hsm (H.getD k M.hd0) (by simp [List.getD, hk])
    · cases e
      rw [show w.heap[g]? = _ from hh] at he
      simp at he
def Kt (w w' : World) : Prop := ∀ (k : Nat) (cur : Array Value) (t : TypeId), t ≠ 115 → t ≠ 58 → t ≠ 54 → w.heap[k]? = some (.cells cur t (0, 0)) → w'.heap[k]? = some (.cells cur t (0, 0))
theorem Kt.trans {a b c : World} (h : Kt a b) (k : Kt b c) : Kt a c := fun n cur t h1 h2 h3 e => k n cur t h1 h2 h3 (h n cur t h1 h2 h3 e)
theorem Kt.of {w w' : World} (h : Below w.heap.size w w') : Kt w w' := fun k _ _ _ _ _ e => (h.block k (Array.getElem?_eq_some_iff.1 e).1).trans e
theorem Kt.grown {w w' : World} {r : Option Nat} (h : w.grownBy w' r) (hr : ∀ k, r = some k → ∃ cur t, w.heap[k]? = some (.cells cur t (0, 0)) ∧ (t = 115 ∨ t = 58 ∨ t = 54)) : Kt w w' := fun k cur t h1 h2 h3 e => by
  refine (h.block k (Array.getElem?_eq_some_iff.1 e).1 fun er => ?_).trans e
  obtain ⟨cur', t', e', ht⟩ := hr k er.symm
  rw [e] at e'
  simp at e'
  rcases ht with ht | ht | ht
  · exact h1 (e'.2.trans ht)
  · exact h2 (e'.2.trans ht)
  · exact h3 (e'.2.trans ht)
set_option maxHeartbeats 4000000 in
theorem move_any (D base : Nat) (C : List M.Com) (H : List M.Hd) (A : List Int) (s : ByteArray) (n : Int) (w : World) (hD : DeskAt w base D C H A) (hbD : base ≤ w.heap.size) (hk : 0 ≤ M.plc H s) :
    Calls Tryz.prog 86 #[.pointer (some ⟨D, 0, none⟩), .string s, .int .i64 n] w fun e w' => (∃ v, e = .returned v) ∧ DeskAt w' base D C (M.mv H s n) A ∧ Below base w w' ∧ Kt w w' := by
  have hlt := hD.lt
  have HP0 := dplace_any D base C H A s w.drew (hD.later ((Below.refl _ _).drew))
  have hpl := M.plc_lt H s
  obtain ⟨k, hke⟩ : ∃ k : Nat, M.plc H s = (k : Int) := ⟨(M.plc H s).toNat, by omega⟩
  have hkl : k < H.length := by omega
  rw [hke] at HP0
  have hmv : M.mv H s n = H.set k ((H.getD k M.hd0).1, n) := by unfold M.mv; rw [hke]; rfl
  rw [hmv]
  obtain ⟨x, y, z, h1, h2, h3, h4, h5⟩ := hD
  obtain ⟨g, cap, rfl⟩ : ∃ g cap, y = .slice (some ⟨g, 0, none⟩) H.length cap := by
    rcases h4.1.2 with ⟨e, e2⟩ | ⟨g, cap, _, e, _⟩
    · omega
    · exact ⟨g, cap, e⟩
  have hg : base ≤ g := (DeskAt.moved n h1 h2 h3 h4 h5 hkl).2.2
  have k1 : w.cell? ⟨D, 1, none⟩ = some (.slice (some ⟨g, 0, none⟩) H.length cap) := by rw [cell_of_row _ _ _ _ _ _ h1]; rfl
  have HP : Hid (Calls Tryz.prog 78 #[.pointer (some ⟨D, 0, none⟩), .string s] w.drew fun e w' => e = .returned (.int .i64 (k : Int)) ∧ Below w.heap.size w.drew w') := HP0
  have HAf : Hid (∀ w4, Below w.heap.size w.drew w4 → Kt w (w4.setCell ⟨g, k * 2 + 1, none⟩ (.int .i64 n)) ∧ DeskAt (w4.setCell ⟨g, k * 2 + 1, none⟩ (.int .i64 n)) base D C (H.set k ((H.getD k M.hd0).1, n)) A ∧ w4.frozen? ⟨g, k * 2 + 1, none⟩ = false ∧ w4.cell? ⟨D, 1, none⟩ = some (.slice (some ⟨g, 0, none⟩) H.length cap) ∧ ∃ u, w4.cell? ⟨g, k * 2 + 1, none⟩ = some u) := fun w4 hb => by
    have hb' : Below w.heap.size w w4 := ((Below.refl _ _).drew).trans hb
    have e1 := (hb'.block D hlt).trans h1
    have o4 := h4.later hb'
    obtain ⟨m1, m2, _⟩ := DeskAt.moved n e1 h2 (h3.later hb') o4 (ownsRow_later h5 hb') hkl
    refine ⟨(Kt.of hb').trans (Kt.grown (grownBy_set w4 ⟨g, k * 2 + 1, none⟩ _) fun r er => ?_), m1, m2, by rw [cell_of_row _ _ _ _ _ _ e1]; rfl, .int .i64 (H.getD k M.hd0).2, ?_⟩
    · cases er
      rcases o4.1.2 with ⟨e, _⟩ | ⟨g', _, cur, e, _, hh, _⟩
      · simp at e
      · simp only [Value.slice.injEq, Option.some.injEq, Addr.mk.injEq] at e
        obtain ⟨⟨rfl, _⟩, _⟩ := e
        exact ⟨cur, _, hh, Or.inr (Or.inl rfl)⟩
    · rw [World.ownsRow.cellAt o4.1 (k * 2 + 1) (by omega), encH_at H k hkl]
  have hki : (k : Int) < (H.length : Int) := by omega
  clear HP0 hke hmv h1 h3 h4 h5 hpl hk
  go_enter Tryz.func86, Tryz.ntmps86
  go_wp2_with fail
  refine wp_region_till 11 (fun V => V.cell? ⟨D, 1, none⟩ = some (.slice (some ⟨g, 0, none⟩) H.length cap)) (by kernel_rfl) k1 (fun hHeld => ?_)
  refine till_go 0 (v := .pointer (some ⟨D, 0, none⟩)) rfl (by decide) (by kernel_rfl) (by kernel_rfl) (by kernel_rfl) (fun _ _ _ h => h) (Or.inl ⟨by rfl, fun V _ => (by go_simp)⟩) hHeld ?_
  try simp only [Act.put]
  refine till_go 1 (v := .pointer (some ⟨D, 0, none⟩)) rfl (by decide) (by kernel_rfl) (by kernel_rfl) (by kernel_rfl) (fun _ _ _ h => h) (Or.inl ⟨by rfl, fun V _ => (by go_simp)⟩) hHeld ?_
  try simp only [Act.put]
  refine till_go 2 (v := .pointer (some ⟨D, 0, none⟩)) rfl (by decide) (by kernel_rfl) (by kernel_rfl) (by kernel_rfl) (fun _ _ _ h => h) (Or.inl ⟨by rfl, fun V _ => (by go_simp)⟩) hHeld ?_
  try simp only [Act.put]
  refine till_go 3 (v := .pointer (some ⟨D, 1, none⟩)) rfl (by decide) (by kernel_rfl) (by kernel_rfl) (by kernel_rfl) (fun _ _ _ h => h) (Or.inl ⟨by rfl, fun V _ => (by go_simp)⟩) hHeld ?_
  try simp only [Act.put]
  refine till_take 4 (v := .slice (some ⟨g, 0, none⟩) H.length cap) rfl (by decide) (by kernel_rfl) (by kernel_rfl) (by kernel_rfl) (by kernel_rfl) (by kernel_rfl) (fun _ _ _ h => h) (Or.inl ⟨by rfl, fun V hV => (by have v0 := hV; go_simp)⟩) hHeld ?_
  try simp only [Act.put]
  refine till_go 5 (v := .pointer (some ⟨D, 0, none⟩)) rfl (by decide) (by kernel_rfl) (by kernel_rfl) (by kernel_rfl) (fun _ _ _ h => h) (Or.inl ⟨by rfl, fun V _ => (by go_simp)⟩) hHeld ?_
  try simp only [Act.put]
  refine till_go 6 (v := .string s) rfl (by decide) (by kernel_rfl) (by kernel_rfl) (by kernel_rfl) (fun _ _ _ h => h) (Or.inl ⟨by rfl, fun V _ => (by go_simp)⟩) hHeld ?_
  try simp only [Act.put]
  refine till_go 8 (v := .int .i64 n) rfl (by decide) (by kernel_rfl) (by kernel_rfl) (by kernel_rfl) (fun _ _ _ h => h) (Or.inl ⟨by rfl, fun V _ => (by go_simp)⟩) hHeld ?_
  try simp only [Act.put]
  refine till_step 7 rfl (by decide) (by kernel_rfl) (fun K hK => ?_)
  go_simp
  go_wp2_with (go_at_call 78; refine HP.out.mono ?_; rintro e w4 ⟨rfl, hb4⟩)
  obtain ⟨P0, P1, P2, P3, u4, P4⟩ := HAf.out w4 hb4
  have HKt : Hid (Kt w (w4.setCell ⟨g, k * 2 + 1, none⟩ (.int .i64 n))) := P0
  have HDD : Hid (DeskAt (w4.setCell ⟨g, k * 2 + 1, none⟩ (.int .i64 n)) base D C (H.set k ((H.getD k M.hd0).1, n)) A) := P1
  have hbb : Below base w (w4.setCell ⟨g, k * 2 + 1, none⟩ (.int .i64 n)) := (((Below.refl _ _).drew).trans (hb4.mono hbD)).setCell (p := ⟨g, k * 2 + 1, none⟩) hg _
  have hAnew : Hid (w4.cell? ⟨D, 1, none⟩ = some (.slice (some ⟨g, 0, none⟩) H.length cap)) := P3
  clear P0 P1 P3 hb4
  refine hK.out _ _ hAnew.out (fun hHeld => ?_)
  clear hK K
  refine till_go 9 (v := .pointer (some ⟨g, k * 2, none⟩)) rfl (by decide) (by kernel_rfl) (by kernel_rfl) (by kernel_rfl) (fun _ _ _ h => h) (Or.inl ⟨by rfl, fun V _ => (by go_simp)⟩) hHeld ?_
  try simp only [Act.put]
  refine till_go 10 (v := .pointer (some ⟨g, k * 2 + 1, none⟩)) rfl (by decide) (by kernel_rfl) (by kernel_rfl) (by kernel_rfl) (fun _ _ _ h => h) (Or.inl ⟨by rfl, fun V _ => (by go_simp)⟩) hHeld ?_
  try simp only [Act.put]
  refine till_last rfl (by kernel_rfl) (by kernel_rfl) (fun K hK => ?_) _
  go_simp
  refine hK.out _ _ ?_
  clear hK K
  clear hAnew
  go_wp2
  go_end0
  exact ⟨⟨_, rfl⟩, HDD.out, hbb, HKt.out⟩
theorem DeskAt.put {w w' : World} {base D : Nat} {x x' y z : Value} {C : List M.Com} {c : M.Com} {q : Value × Value} {H : List M.Hd} {A : List Int} {vals : List (Value × Value)} (h1 : w.heap[D]? = some (.cells #[x, y, z] 115 (0, 0))) (hbD : base ≤ D) (hl : vals.length = C.length) (hrow : w.ownsRow base 54 2 x C.length (encP vals)) (hel : ∀ i, i < C.length → OwnCo w base (vals.getD i vp0) (C.getD i ([], [])))
    (hy : OwnH w base y H) (hz : OwnI w base z A) (hq : OwnCo w base q c) (tmp : Obj) (h3 : w'.ownsRow base 54 2 x' (C.length + 1) (encP vals ++ [q.1, q.2])) (hg : (w.alloc tmp).grownBy w' x.ownBlock) (hbw : base ≤ w.heap.size) :
    DeskAt (w'.setCell ⟨D, 0, none⟩ x') base D (C ++ [c]) H A ∧ w'.heap[D]? = some (.cells #[x, y, z] 115 (0, 0)) ∧ Below base w (w'.setCell ⟨D, 0, none⟩ x') ∧ Kt w (w'.setCell ⟨D, 0, none⟩ x') := by
  have hlt := (Array.getElem?_eq_some_iff.1 h1).1
  have typ : ∀ r, x.ownBlock = some r → ∃ cur, (w.alloc tmp).heap[r]? = some (.cells cur 54 (0, 0)) := by
    intro r e
    rcases (hrow.alloc tmp).2 with ⟨rfl, _⟩ | ⟨g, cap, cur', rfl, _, hgb, _⟩
    · simp [Value.ownBlock] at e
    · obtain rfl : g = r := by simpa [Value.ownBlock] using e
      exact ⟨_, hgb⟩
  have other : ∀ e, e ≠ 54 → ∀ r, x.ownBlock = some r → ∀ cur, (w.alloc tmp).heap[r]? ≠ some (.cells cur e (0, 0)) := by
    intro e he r hr cur hc
    obtain ⟨cur', hcur⟩ := typ r hr
    rw [hcur] at hc
    simp at hc
    exact he hc.2.symm
  have hDa : (w.alloc tmp).heap[D]? = some (.cells #[x, y, z] 115 (0, 0)) := by rw [Below.heap_alloc _ _ _ hlt]; exact h1
  have hne : x.ownBlock ≠ some D := fun e => other _ (by decide) D e _ hDa
  have hbk : w'.heap[D]? = some (.cells #[x, y, z] 115 (0, 0)) := by
    rw [hg.block D (by simp; omega) (fun e => hne e.symm)]; exact hDa
  have b1 : Below base w w' := ((Below.refl _ _).alloc hbw tmp).grown hg (by simp; omega) (fun k e => by
    have := (World.ownsRow.lt hrow k e).1; omega)
  have hba : Below w.heap.size w (w.alloc tmp) := (Below.refl _ _).alloc (Nat.le_refl _) _
  have K' : OwnK w' base x' (C ++ [c]) := OwnK.append hl (hrow.alloc tmp) (fun i hi => (hel i hi).later hba) (hq.later hba) h3 hg
  have g2 := grownBy_set w' ⟨D, 0, none⟩ x'
  refine ⟨⟨x', y, z, ?_, hbD, K'.elsewhere g2 hbk (by decide) (by decide) (by decide), OwnH.elsewhere ⟨ownsRow_elsewhere (hy.later hba).1 hg (other _ (by decide)), hy.2⟩ g2 hbk (by decide), ?_⟩, hbk, b1.setCell (p := ⟨D, 0, none⟩) hbD _, ((Kt.of hba).trans (Kt.grown hg fun r er => ?_)).trans (Kt.grown g2 fun r er => ?_)⟩
  · rw [heap_setCell_same _ _ _ _ _ _ hbk]; rfl
  · refine ownsRow_elsewhere (ownsRow_elsewhere (ownsRow_later hz hba) hg (other _ (by decide))) g2 fun r e cur he => ?_
    cases e
    rw [show w'.heap[D]? = _ from hbk] at he
    simp at he
  · obtain ⟨cur, hc⟩ := typ r er
    exact ⟨cur, _, hc, Or.inr (Or.inr rfl)⟩
  · cases er
    exact ⟨_, _, hbk, Or.inl rfl⟩
set_option maxHeartbeats 4000000 in
theorem commit_any (D base : Nat) (C : List M.Com) (H : List M.Hd) (A : List Int) (s : ByteArray) (ra pa : Option Addr) (rn rc pn pc : Nat) (c : M.Com) (w : World) (hD : DeskAt w base D C H A) (hbD : base ≤ w.heap.size) (hq : OwnCo w base (.slice ra rn rc, .slice pa pn pc) c) (hk : 0 ≤ M.plc H s) (hC : C.length ≤ 1000) :
    Calls Tryz.prog 75 #[.pointer (some ⟨D, 0, none⟩), .string s, .slice ra rn rc, .slice pa pn pc] w fun e w' => (∃ v, e = .returned v) ∧ DeskAt w' base D (C ++ [c]) (M.mv H s C.length) A ∧ Below base w w' ∧ Kt w w' := by
  obtain ⟨i1, hi1, hy0, hy1, hy2⟩ := info_parts infoCommit
  have hlt := hD.lt
  obtain ⟨x, y, z, h1, h2, h3, h4, h5⟩ := hD
  obtain ⟨xa, xc, rfl, _⟩ := h3.cm
  have k0 : w.cell? ⟨D, 0, none⟩ = some (.slice xa C.length xc) := by rw [cell_of_row _ _ _ _ _ _ h1]; rfl
  obtain ⟨vals, hl, hrow, hel⟩ := h3
  have HRA : Hid ((w.alloc (.cells #[.slice ra rn rc, .slice pa pn pc] 54)).ownsRow base 54 2 (.slice xa C.length xc) C.length (encP vals)) := hrow.alloc _
  have HPut : Hid (∀ x' w', w'.ownsRow base 54 2 x' (C.length + 1) (encP vals ++ [.slice ra rn rc, .slice pa pn pc]) → (w.alloc (.cells #[.slice ra rn rc, .slice pa pn pc] 54)).grownBy w' (Value.slice xa C.length xc).ownBlock → DeskAt (w'.setCell ⟨D, 0, none⟩ x') base D (C ++ [c]) H A ∧ w'.heap[D]? = some (.cells #[.slice xa C.length xc, y, z] 115 (0, 0)) ∧ Below base w (w'.setCell ⟨D, 0, none⟩ x') ∧ Kt w (w'.setCell ⟨D, 0, none⟩ x')) := fun x' w' h6 h7 => DeskAt.put h1 h2 hl hrow hel h4 h5 hq _ h6 h7 hbD
  obtain ⟨m, hm⟩ : ∃ m, m = C.length := ⟨_, rfl⟩
  rw [← hm] at HRA HPut hC k0 ⊢
  have HM : Aside (m = C.length) := hm
  clear h1 h4 h5 hl hrow hel hq hm
  go_enter Tryz.func75, Tryz.ntmps75
  go_wp2_with (at_builtin; refine wpList_append_own _ rfl _ _ 32 rfl base 54 i1 (.agg #[.slice none 0 0, .slice none 0 0]) 2 48 Tryz.underlying32 hi1 hy0 hy1 hy2 rfl (by decide) _ m (encP vals) rfl HRA.out ⟨w.heap.size, 0, none⟩ 1 1 [.slice ra rn rc, .slice pa pn pc] rfl rfl (cell_pair_new _ _ _ _) (by simp [Value.oneCell']) (by simp only [maxLen]; omega) (by omega) (by simp; omega) ?_)
  intro v' w1 h6 h7 _
  obtain ⟨g', cap', rfl⟩ := ownsRow_succ h6
  obtain ⟨P1, P2, P3, P4⟩ := HPut.out _ w1 h6 h7
  have k1 : w1.cell? ⟨D, 0, none⟩ = some (.slice xa m xc) := by rw [cell_of_row _ _ _ _ _ _ P2]; rfl
  have f1 : w1.frozen? ⟨D, 0, none⟩ = false := frozen_of_row _ _ _ _ _ P2
  have hD1 : D < w1.heap.size := (Array.getElem?_eq_some_iff.1 P2).1
  obtain ⟨W2, hW2⟩ : ∃ W2, W2 = w1.setCell ⟨D, 0, none⟩ (.slice (some ⟨g', 0, none⟩) (m + 1) cap') := ⟨_, rfl⟩
  rw [← hW2] at P1 P3 P4
  have HW2 : Hid (W2 = w1.setCell ⟨D, 0, none⟩ (.slice (some ⟨g', 0, none⟩) (m + 1) cap')) := hW2
  have K := move_any D base (C ++ [c]) H A s (m : Int) W2 P1 (Nat.le_trans hbD P3.size) hk
  have KK : Hid (Calls Tryz.prog 86 #[.pointer (some ⟨D, 0, none⟩), .string s, .int .i64 (m : Int)] W2 fun e w' => (∃ v, e = .returned v) ∧ DeskAt w' base D (C ++ [c]) (M.mv H s m) A ∧ Below base W2 w' ∧ Kt W2 w') := K
  have hmw : IntKind.i64.wrap (((m + 1 : Nat) : Int) - 1) = (m : Int) := by rw [IntKind.wrap_i64]; omega
  have hP3 : Below base w W2 := P3
  have HK4 : Hid (Kt w W2) := P4
  clear K P1 P2 P3 P4 h6 h7 hW2 HRA HPut
  go_wp2_with fail
  rw [← HW2.out]
  refine KK.out.mono ?_
  rintro e w3 ⟨⟨v, rfl⟩, hd, hb, hkt⟩
  have HK5 : Hid (Kt w w3) := HK4.out.trans hkt
  have HD3 : Aside (DeskAt w3 base D (C ++ [c]) (M.mv H s m) A) := hd
  have hb3 := hP3.trans hb
  clear hd hb hkt
  go_wp2
  go_end0
  exact ⟨⟨_, rfl⟩, HD3.out, hb3, HK5.out⟩
end Go.Proofs.YtcgpgflnihjpiagGreat
namespace Go.Proofs.YtcgpgflnihjpiagGreat
open Go.RowKit
theorem repoOwn_set {w : World} {base R : Nat} {c0 c1 x y : Value} {C : List M.Com} {H : List M.Hd} (h : w.heap[R]? = some (.cells #[c0, c1] 35 (0, 0))) (hx : OwnK w base x C) (hy : OwnH w base y H) :
    RepoOwn ((w.setCell ⟨R, 0, none⟩ x).setCell ⟨R, 1, none⟩ y) base (.agg #[x, y]) C H := by
  have h1 := heap_setCell_same w R 0 _ _ x h
  have k1 := hx.elsewhere (grownBy_set w ⟨R, 0, none⟩ x) h (by decide) (by decide) (by decide)
  have k2 := hy.elsewhere (grownBy_set w ⟨R, 0, none⟩ x) h (by decide)
  exact ⟨x, y, rfl, k1.elsewhere (grownBy_set _ ⟨R, 1, none⟩ y) h1 (by decide) (by decide) (by decide), k2.elsewhere (grownBy_set _ ⟨R, 1, none⟩ y) h1 (by decide)⟩
theorem res_set {w : World} {R : Nat} {c0 c1 : Value} {t : TypeId} (h : w.heap[R]? = some (.cells #[c0, c1] t (0, 0))) (u v : Value) :
    ((w.setCell ⟨R, 0, none⟩ u).setCell ⟨R, 1, none⟩ v).heap[R]? = some (.cells #[u, v] t (0, 0)) ∧ (∀ k, k ≠ R → ((w.setCell ⟨R, 0, none⟩ u).setCell ⟨R, 1, none⟩ v).heap[k]? = w.heap[k]?) ∧ ((w.setCell ⟨R, 0, none⟩ u).setCell ⟨R, 1, none⟩ v).heap.size = w.heap.size := by
  refine ⟨?_, fun k hk => ?_, by simp [World.setCell]⟩
  · rw [heap_setCell_same _ _ _ _ _ _ (heap_setCell_same _ _ _ _ _ _ h)]; rfl
  · rw [heap_setCell_other _ _ _ _ (by exact hk), heap_setCell_other _ _ _ _ (by exact hk)]
end Go.Proofs.YtcgpgflnihjpiagGreat
