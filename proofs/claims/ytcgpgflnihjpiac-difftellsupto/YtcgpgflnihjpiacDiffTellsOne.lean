/- For every two trees whose reading is of bulk at most the given bound, the law DiffTells returns true and leaves its arguments as they were: Of of the landed diff package tells what the reference tells. -/
import Derived.Test.YtcgpgflnihjpiacSum
import Derived.Test.YtcgpgflnihjpiacCutA
import Derived.Test.YtcgpgflnihjpiacSameT
import Derived.Deep.RegionHeld3
import Derived.Deep.AppendLies
import Derived.Test.YtcgpgflnihjpiacTree1
import Derived.Test.YtcgpgflnihjpiacDiff3
import Derived.Test.YtcgpgflnihjpiacRPatch
import Derived.Test.YtcgpgflnihjpiacRDiff1
import Derived.Test.YtcgpgflnihjpiacRows
import Derived.Test.YtcgpgflnihjpiacBase
import Derived.ProofKit
import Derived.OpenShut
import Derived.ChangeOld
import Derived.Deep.SlicePairs
import Derived.Deep.RegionHeld
import Derived.Test.YtcgpgflnihjpiacTCheck
import Derived.Test.YtcgpgflnihjpiacDfBegun
import Derived.JoinedCond
namespace Go.Proofs.Ytcgpgflnihjpiac
open Go.RowKit

/-! ### The reference's sum -/
theorem rsum_none (a : Option Addr) (cap : Nat) (w : World) :
    Calls Try.prog 62 #[.slice a 0 cap] w fun e w' => e = .returned (.int .i64 1) ∧ Below w.heap.size w w' := by
  go_enter Try.func62, Try.ntmps62
  go_wp2
  refine wp_loop_rounds 1 ?_
  rw [rounds_succ]
  go_wp2
  go_ret
  exact ⟨rfl, Below.refl _ _⟩

set_option maxHeartbeats 2000000 in
theorem rsum_some (b off n cap : Nat) (l : List (Int × Int)) (w : World) (hn : n ≤ 40) (hl : l.length = n) (hB : b < w.heap.size) (h0 : M.chk l = 0)
    (hc : ∀ i, i < n → w.cell? ⟨b, off + i * 2, none⟩ = some (.int .i64 (l.getD i (0, 0)).1) ∧ w.cell? ⟨b, off + i * 2 + 1, none⟩ = some (.int .i64 (l.getD i (0, 0)).2)) :
    Calls Try.prog 62 #[.slice (some ⟨b, off, none⟩) n cap] w fun e w' => e = .returned (.int .i64 (M.sum l)) ∧ Below w.heap.size w w' := by
  have HOk : Aside (M.Ok l) := ((M.chk_zero l).1 h0).2
  have HC : Aside (∀ i, i < n → w.cell? ⟨b, off + i * 2, none⟩ = some (.int .i64 (l.getD i (0, 0)).1) ∧ w.cell? ⟨b, off + i * 2 + 1, none⟩ = some (.int .i64 (l.getD i (0, 0)).2)) := hc
  have HL : Aside (l.length = n) := hl
  clear hc hl h0
  go_enter Try.func62, Try.ntmps62
  go_wp2
  go_loopg [3, 4] n (fun g s i wr => ∃ (k : Nat) (q : Int), k + g = n ∧ 0 ≤ q ∧ q ≤ 996 ∧ i = .int .i64 k ∧ s = .int .i64 q ∧ Below w.heap.size w wr ∧ Aside (M.sumFrom q (l.drop k) = M.sum l))
  case atStart => exact ⟨0, 1, by omega, by omega, by omega, rfl, rfl, Below.refl _ _, by simp [Aside, M.sum]⟩
  case round =>
    obtain ⟨k, q, hk, hq0, hq1, rfl, rfl, hbel, A⟩ := hrel
    have hsz := hbel.size
    by_cases hlt : k < n
    · obtain ⟨x, y, hxy⟩ : ∃ x y, l.getD k (0, 0) = (x, y) := ⟨_, _, rfl⟩
      have c0 : wr.cell? ⟨b, off + k * 2, none⟩ = some (.int .i64 x) := by rw [hbel.cell (p := ⟨b, off + k * 2, none⟩) hB, (HC.out k hlt).1, hxy]
      have c1 : wr.cell? ⟨b, off + k * 2 + 1, none⟩ = some (.int .i64 y) := by rw [hbel.cell (p := ⟨b, off + k * 2 + 1, none⟩) hB, (HC.out k hlt).2, hxy]
      have hr := HOk.out.1 (l.getD k (0, 0)) (M.getD_mem l k (by rw [HL.out]; exact hlt))
      rw [hxy] at hr
      obtain ⟨x0, x1, y0, y1⟩ : 0 ≤ x ∧ x ≤ 99 ∧ 0 ≤ y ∧ y ≤ 996 := hr
      have HXY : Aside (l.getD k (0, 0) = (x, y)) := hxy
      clear hxy
      have hki : (k : Int) < (n : Int) := by omega
      go_wp2_with fail
      go_quiet (fail)
      go_wp2
      go_roundg (gk - 1)
      case measure => omega
      case rel => exact ⟨k + 1, (31 * q + 7 * x + y + 1) % 997, by omega, by omega, by omega, by go_num, by go_num, below_drewN hbel _, by unfold Aside; rw [← A.out, M.sumFrom_step q l k (by rw [HL.out]; exact hlt) x y HXY.out]⟩
    · go_wp2
      go_ret
      exact ⟨ret_int (A.out.symm.trans (M.sumFrom_end q l k (by rw [HL.out]; omega))).symm, hbel⟩

theorem rsum_any (a : Option Addr) (n cap : Nat) (l : List (Int × Int)) (w : World) (h : Rd w a n l) (h0 : M.chk l = 0) :
    Calls Try.prog 62 #[.slice a n cap] w fun e w' => e = .returned (.int .i64 (M.sum l)) ∧ Below w.heap.size w w' := by
  rcases h.cases with ⟨rfl, rfl⟩ | ⟨b, off, rfl, hn, hl, hB, hc⟩
  · exact rsum_none a cap w
  · exact rsum_some b off n cap l w (by rw [← hl]; exact ((M.chk_zero l).1 h0).1) hl hB h0 hc

set_option maxHeartbeats 2000000 in
theorem endsOf_any (x y level : Int) (w : World) :
    Calls Try.prog 84 #[.agg #[.int .i64 x, .int .i64 y], .int .i64 level] w fun e w' => e = .returned (.bool (M.ends level x y)) ∧ Below w.heap.size w w' := by
  have hbW : Below w.heap.size w (w.alloc (.cells #[.int .i64 x, .int .i64 y] 56)) := (Below.refl _ _).alloc (Nat.le_refl _) _
  by_cases hx : 0 ≤ x ∧ x ≤ 99
  · obtain ⟨x0, x1⟩ := hx
    by_cases hy : 0 ≤ y ∧ y ≤ 996
    · obtain ⟨y0, y1⟩ := hy
      by_cases hl : 0 ≤ level ∧ level ≤ 9
      · obtain ⟨l0, l1⟩ := hl
        have e1 : M.ends level x y = ((7 * x + 13 * y + 5 * level) % 3 == 0) := by rw [M.ends_yes (by simp [M.right]; omega), M.endsB, Bool.eq_iff_iff]; simp
        have E1 : Hid (M.ends level x y = ((7 * x + 13 * y + 5 * level) % 3 == 0)) := e1
        clear e1
        go_enter Try.func84, Try.ntmps84
        go_wp2_with fail
        refine (isKey_yes _ _ x0 x1).mono ?_
        rintro e w1 ⟨rfl, rfl⟩
        go_wp2_with fail
        refine (within_yes _ _ _ _ y0 y1).mono ?_
        rintro e w1 ⟨rfl, rfl⟩
        go_wp2_with fail
        refine (within_yes _ _ _ _ l0 l1).mono ?_
        rintro e w1 ⟨rfl, rfl⟩
        go_wp2
        go_ret
        exact ⟨ret_bool E1.out.symm, hbW⟩
      · have E1 : Hid (M.ends level x y = false) := M.ends_no (by simp [M.right]; omega)
        have HL : Hid (level < 0 ∨ 9 < level) := by unfold Hid; omega
        clear hl
        go_enter Try.func84, Try.ntmps84
        go_wp2_with fail
        refine (isKey_yes _ _ x0 x1).mono ?_
        rintro e w1 ⟨rfl, rfl⟩
        go_wp2_with fail
        refine (within_yes _ _ _ _ y0 y1).mono ?_
        rintro e w1 ⟨rfl, rfl⟩
        go_wp2_with fail
        refine (within_no _ _ _ _ HL.out).mono ?_
        rintro e w1 ⟨rfl, rfl⟩
        go_wp2
        go_ret
        exact ⟨ret_bool E1.out.symm, hbW⟩
    · have E1 : Hid (M.ends level x y = false) := M.ends_no (by simp [M.right]; omega)
      have HL : Hid (y < 0 ∨ 996 < y) := by unfold Hid; omega
      clear hy
      go_enter Try.func84, Try.ntmps84
      go_wp2_with fail
      refine (isKey_yes _ _ x0 x1).mono ?_
      rintro e w1 ⟨rfl, rfl⟩
      go_wp2_with fail
      refine (within_no _ _ _ _ HL.out).mono ?_
      rintro e w1 ⟨rfl, rfl⟩
      go_wp2
      go_ret
      exact ⟨ret_bool E1.out.symm, hbW⟩
  · have E1 : Hid (M.ends level x y = false) := M.ends_no (by simp [M.right]; omega)
    have HL : Hid (x < 0 ∨ 99 < x) := by unfold Hid; omega
    clear hx
    go_enter Try.func84, Try.ntmps84
    go_wp2_with fail
    refine (isKey_no _ _ HL.out).mono ?_
    rintro e w1 ⟨rfl, rfl⟩
    go_wp2
    go_ret
    exact ⟨ret_bool E1.out.symm, hbW⟩
end Go.Proofs.Ytcgpgflnihjpiac

namespace Go.Proofs.Ytcgpgflnihjpiac
open Go.RowKit

theorem rcut_none (a : Option Addr) (cap : Nat) (level : Int) (w : World) :
    Calls Try.prog 61 #[.slice a 0 cap, .int .i64 level] w fun e w' => e = .returned (.slice none 0 0) ∧ w' = w := by
  go_enter Try.func61, Try.ntmps61
  go_wp2
  refine wp_loop_rounds 1 ?_
  rw [rounds_succ]
  go_wp2
  go_ret
  exact ⟨rfl, rfl⟩

set_option maxHeartbeats 8000000 in
theorem rcut_some (b off n cap : Nat) (l : List (Int × Int)) (level : Int) (w : World) (hn : n ≤ 40) (hcap : n ≤ cap) (_hcm : cap ≤ maxLen) (h : Rd w (some ⟨b, off, none⟩) n l) (hB : b < w.heap.size)
    (hc : ∀ i, i < n → w.cell? ⟨b, off + i * 2, none⟩ = some (.int .i64 (l.getD i (0, 0)).1) ∧ w.cell? ⟨b, off + i * 2 + 1, none⟩ = some (.int .i64 (l.getD i (0, 0)).2)) :
    Calls Try.prog 61 #[.slice (some ⟨b, off, none⟩) n cap, .int .i64 level] w fun e w' => ∃ v, e = .returned v ∧ OwnLL w' w.heap.size v (M.cut level l) ∧ Below w.heap.size w w' := by
  obtain ⟨i0, hi, hz0, hz1, hz2⟩ := info_parts infoRows
  have HR : Aside (Rd w (some ⟨b, off, none⟩) n l) := h
  have HC : Aside (∀ i, i < n → w.cell? ⟨b, off + i * 2, none⟩ = some (.int .i64 (l.getD i (0, 0)).1) ∧ w.cell? ⟨b, off + i * 2 + 1, none⟩ = some (.int .i64 (l.getD i (0, 0)).2)) := hc
  have HL : Aside (l.length = n) := h.1
  unfold maxLen at _hcm
  clear hc h
  go_enter Try.func61, Try.ntmps61
  go_wp2
  go_loopg [5, 6, 7] n (fun g v vf vk wr => ∃ (k fr : Nat) (LL : List (List (Int × Int))), k + g = n ∧ fr ≤ k ∧ LL.length ≤ k ∧ vk = .int .i64 k ∧ vf = .int .i64 fr ∧ Aside (OwnLL wr w.heap.size v LL) ∧ Below w.heap.size w wr ∧ Aside (LL ++ M.cut level (l.drop fr) = M.cut level l) ∧ Aside (M.lenFrom level (k - fr) (l.drop k) = M.len level (l.drop fr)) ∧ Aside (k = n → fr = n))
  case atStart => exact ⟨0, 0, [], by omega, by omega, by simp, rfl, rfl, OwnLL.nil _ _, Below.refl _ _, by simp [Aside], by simp [Aside, M.len], fun h => by omega⟩
  case round =>
    obtain ⟨k, fr, LL, hk, hfk, hLLk, rfl, rfl, HO, hbel, HE, HA, HF⟩ := hrel
    have hsz := hbel.size
    by_cases hlt : k < n
    · obtain ⟨x, y, hxy⟩ : ∃ x y, l.getD k (0, 0) = (x, y) := ⟨_, _, rfl⟩
      have c0 : wr.cell? ⟨b, off + k * 2, none⟩ = some (.int .i64 x) := by rw [hbel.cell (p := ⟨b, off + k * 2, none⟩) hB, (HC.out k hlt).1, hxy]
      have c1 : wr.cell? ⟨b, off + k * 2 + 1, none⟩ = some (.int .i64 y) := by rw [hbel.cell (p := ⟨b, off + k * 2 + 1, none⟩) hB, (HC.out k hlt).2, hxy]
      have HXY : Aside (l.getD k (0, 0) = (x, y)) := hxy
      clear hxy
      obtain ⟨e, he⟩ : ∃ e, e = M.ends level x y := ⟨_, rfl⟩
      have HEn : Aside (e = M.ends level x y) := he
      clear he
      cases e with
      | true =>
        by_cases h2 : 2 ≤ k - fr + 1
        · have h2i : (2 : Int) ≤ (k : Int) - (fr : Int) + 1 := by omega
          go_wp2_with (first | (go_at_call 84; refine (endsOf_any x y level _).mono ?_; rintro e w1 ⟨rfl, hb1⟩; rw [← HEn.out]; have HEm : Hid (Own (w1.alloc (.cells #[] 56)) w1.heap.size (.slice (some ⟨w1.heap.size, 0, none⟩) 0 0) []) := own_empty0 w1; have HRd : Hid (Rd (w1.alloc (.cells #[] 56)) (some ⟨b, off + fr * 2, none⟩) (k + 1 - fr) ((l.drop fr).take (k + 1 - fr))) := (((HR.out.below hbel (Nat.le_refl _)).below hb1 (Nat.le_refl _)).below ((Below.refl _ _).alloc (Nat.le_refl _) _) (Nat.le_refl _)).mid fr (k + 1 - fr) (by omega); have HO1 : Hid (OwnLL w1 w.heap.size u5 LL) := HO.out.kept (grown_none hb1) (fun r e => by cases e); have hb2 : Below w.heap.size w w1 := hbel.trans (hb1.mono hsz)) | (at_builtin; refine append_rd rfl (.tmp 41) (.tmp 46) rfl w1.heap.size _ [] rfl HEm.out (some ⟨b, off + fr * 2, none⟩) (k + 1 - fr) (cap - fr) ((l.drop fr).take (k + 1 - fr)) rfl HRd.out (by simp) (by simp; omega) (by simp) ?_; intro u w2 ho2 hb3; have hb4 : Below w1.heap.size w1 w2 := ((Below.refl _ _).alloc (Nat.le_refl _) _).trans hb3; obtain ⟨ua, un, uc, rfl⟩ := own_shape ho2; have HU : Hid (Own w2 w.heap.size (.slice ua un uc) ((l.drop fr).take (k + 1 - fr))) := Own.mono ho2 hb2.size; obtain ⟨vals, hrow, hel⟩ := HO1.out.kept (grown_none hb4) (fun r e => by cases e); have HRow : Hid (w2.ownsRow w.heap.size 32 1 u5 LL.length vals) := hrow; have HEl : Hid (∀ i u, vals[i]? = some u → Own w2 w.heap.size u (LL.getD i [])) := hel; have hb5 : Below w.heap.size w w2 := hb2.trans (hb4.mono hb2.size); clear hrow hel ho2 hb3) | (at_builtin; refine wpList_append_own _ rfl (.tmp 40) (.tmp 48) 58 rfl w.heap.size 32 i0 (.slice none 0 0) 1 24 Try.underlying58 hi hz0 hz1 hz2 rfl (by decide) _ LL.length vals rfl (World.ownsRow.alloc HRow.out _) ⟨w2.heap.size, 0, none⟩ 1 1 [.slice ua un uc] rfl rfl (cell_one_new _ _ _) (by simp [Value.oneCell']) (by simp [maxLen]; omega) (by omega) (by have := hb5.size; simp; omega) ?_; intro v3 w3 hown3 hgrow3 _))
          have HO3 : Aside (OwnLL w3 w.heap.size v3 (LL ++ [(l.drop fr).take (k + 1 - fr)])) := OwnLL.append HRow.out HEl.out HU.out hown3 hgrow3
          have hb6 : Below w.heap.size w w3 := (hb5.alloc hb5.size _).grown hgrow3 (by have := hb5.size; simp; omega) (fun r e => (World.ownsRow.lt HRow.out r e).1)
          clear hown3 hgrow3
          go_wp2
          go_roundg (gk - 1)
          case measure => omega
          case rel => exact ⟨k + 1, k + 1, _, by omega, by omega, by simp; omega, by go_num, by go_num, HO3, hb6, by unfold Aside; rw [← HE.out, M.cut_at hfk (by rw [HL.out]; exact hlt) HA.out x y HXY.out (by rw [← HEn.out, HL.out]; simp; omega), show k - fr + 1 = k + 1 - fr by omega]; simp, by simp [Aside, M.len], fun h => by omega⟩
        · by_cases hl : k + 1 = n
          · have h2i : decide ((2 : Int) ≤ (k : Int) - (fr : Int) + 1) = false := by simp; omega
            have h6i : ((k : Int) - (fr : Int) + 1 == 6) = false := by simp; omega
            have hli : ((k : Int) == (n : Int) - 1) = true := by simp; omega
            have hl2 : n ≤ k + 1 := by omega
            clear hl
            go_wp2_with (first | (go_at_call 84; refine (endsOf_any x y level _).mono ?_; rintro e w1 ⟨rfl, hb1⟩; rw [← HEn.out]; have HEm : Hid (Own (w1.alloc (.cells #[] 56)) w1.heap.size (.slice (some ⟨w1.heap.size, 0, none⟩) 0 0) []) := own_empty0 w1; have HRd : Hid (Rd (w1.alloc (.cells #[] 56)) (some ⟨b, off + fr * 2, none⟩) (k + 1 - fr) ((l.drop fr).take (k + 1 - fr))) := (((HR.out.below hbel (Nat.le_refl _)).below hb1 (Nat.le_refl _)).below ((Below.refl _ _).alloc (Nat.le_refl _) _) (Nat.le_refl _)).mid fr (k + 1 - fr) (by omega); have HO1 : Hid (OwnLL w1 w.heap.size u5 LL) := HO.out.kept (grown_none hb1) (fun r e => by cases e); have hb2 : Below w.heap.size w w1 := hbel.trans (hb1.mono hsz)) | (at_builtin; refine append_rd rfl (.tmp 41) (.tmp 46) rfl w1.heap.size _ [] rfl HEm.out (some ⟨b, off + fr * 2, none⟩) (k + 1 - fr) (cap - fr) ((l.drop fr).take (k + 1 - fr)) rfl HRd.out (by simp) (by simp; omega) (by simp) ?_; intro u w2 ho2 hb3; have hb4 : Below w1.heap.size w1 w2 := ((Below.refl _ _).alloc (Nat.le_refl _) _).trans hb3; obtain ⟨ua, un, uc, rfl⟩ := own_shape ho2; have HU : Hid (Own w2 w.heap.size (.slice ua un uc) ((l.drop fr).take (k + 1 - fr))) := Own.mono ho2 hb2.size; obtain ⟨vals, hrow, hel⟩ := HO1.out.kept (grown_none hb4) (fun r e => by cases e); have HRow : Hid (w2.ownsRow w.heap.size 32 1 u5 LL.length vals) := hrow; have HEl : Hid (∀ i u, vals[i]? = some u → Own w2 w.heap.size u (LL.getD i [])) := hel; have hb5 : Below w.heap.size w w2 := hb2.trans (hb4.mono hb2.size); clear hrow hel ho2 hb3) | (at_builtin; refine wpList_append_own _ rfl (.tmp 40) (.tmp 48) 58 rfl w.heap.size 32 i0 (.slice none 0 0) 1 24 Try.underlying58 hi hz0 hz1 hz2 rfl (by decide) _ LL.length vals rfl (World.ownsRow.alloc HRow.out _) ⟨w2.heap.size, 0, none⟩ 1 1 [.slice ua un uc] rfl rfl (cell_one_new _ _ _) (by simp [Value.oneCell']) (by simp [maxLen]; omega) (by omega) (by have := hb5.size; simp; omega) ?_; intro v3 w3 hown3 hgrow3 _))
            have HO3 : Aside (OwnLL w3 w.heap.size v3 (LL ++ [(l.drop fr).take (k + 1 - fr)])) := OwnLL.append HRow.out HEl.out HU.out hown3 hgrow3
            have hb6 : Below w.heap.size w w3 := (hb5.alloc hb5.size _).grown hgrow3 (by have := hb5.size; simp; omega) (fun r e => (World.ownsRow.lt HRow.out r e).1)
            clear hown3 hgrow3
            go_wp2
            go_roundg (gk - 1)
            case measure => omega
            case rel => exact ⟨k + 1, k + 1, _, by omega, by omega, by simp; omega, by go_num, by go_num, HO3, hb6, by unfold Aside; rw [← HE.out, M.cut_at hfk (by rw [HL.out]; exact hlt) HA.out x y HXY.out (by rw [← HEn.out, HL.out]; simp; omega), show k - fr + 1 = k + 1 - fr by omega]; simp, by simp [Aside, M.len], fun h => by omega⟩
          · have h2i : decide ((2 : Int) ≤ (k : Int) - (fr : Int) + 1) = false := by simp; omega
            have h6i : ((k : Int) - (fr : Int) + 1 == 6) = false := by simp; omega
            have hli : ((k : Int) == (n : Int) - 1) = false := by simp; omega
            go_wp2_with (go_at_call 84; refine (endsOf_any x y level _).mono ?_; rintro e w1 ⟨rfl, hb1⟩; rw [← HEn.out])
            have hb2 := hbel.trans (hb1.mono hsz)
            have HO2 : Aside (OwnLL w1 w.heap.size _ LL) := HO.out.kept (grown_none hb1) (fun r e => by cases e)
            go_roundg (gk - 1)
            case measure => omega
            case rel => exact ⟨k + 1, fr, LL, by omega, by omega, by omega, by go_num, rfl, HO2, hb2, HE, M.cut_on hfk (by rw [HL.out]; exact hlt) HA.out x y HXY.out (by rw [← HEn.out]; simp; omega), fun h => by omega⟩
      | false =>
        by_cases h6 : k - fr + 1 = 6
        · have h6i : ((k : Int) - (fr : Int) + 1 == 6) = true := by simp; omega
          go_wp2_with (first | (go_at_call 84; refine (endsOf_any x y level _).mono ?_; rintro e w1 ⟨rfl, hb1⟩; rw [← HEn.out]; have HEm : Hid (Own (w1.alloc (.cells #[] 56)) w1.heap.size (.slice (some ⟨w1.heap.size, 0, none⟩) 0 0) []) := own_empty0 w1; have HRd : Hid (Rd (w1.alloc (.cells #[] 56)) (some ⟨b, off + fr * 2, none⟩) (k + 1 - fr) ((l.drop fr).take (k + 1 - fr))) := (((HR.out.below hbel (Nat.le_refl _)).below hb1 (Nat.le_refl _)).below ((Below.refl _ _).alloc (Nat.le_refl _) _) (Nat.le_refl _)).mid fr (k + 1 - fr) (by omega); have HO1 : Hid (OwnLL w1 w.heap.size u5 LL) := HO.out.kept (grown_none hb1) (fun r e => by cases e); have hb2 : Below w.heap.size w w1 := hbel.trans (hb1.mono hsz)) | (at_builtin; refine append_rd rfl (.tmp 41) (.tmp 46) rfl w1.heap.size _ [] rfl HEm.out (some ⟨b, off + fr * 2, none⟩) (k + 1 - fr) (cap - fr) ((l.drop fr).take (k + 1 - fr)) rfl HRd.out (by simp) (by simp; omega) (by simp) ?_; intro u w2 ho2 hb3; have hb4 : Below w1.heap.size w1 w2 := ((Below.refl _ _).alloc (Nat.le_refl _) _).trans hb3; obtain ⟨ua, un, uc, rfl⟩ := own_shape ho2; have HU : Hid (Own w2 w.heap.size (.slice ua un uc) ((l.drop fr).take (k + 1 - fr))) := Own.mono ho2 hb2.size; obtain ⟨vals, hrow, hel⟩ := HO1.out.kept (grown_none hb4) (fun r e => by cases e); have HRow : Hid (w2.ownsRow w.heap.size 32 1 u5 LL.length vals) := hrow; have HEl : Hid (∀ i u, vals[i]? = some u → Own w2 w.heap.size u (LL.getD i [])) := hel; have hb5 : Below w.heap.size w w2 := hb2.trans (hb4.mono hb2.size); clear hrow hel ho2 hb3) | (at_builtin; refine wpList_append_own _ rfl (.tmp 40) (.tmp 48) 58 rfl w.heap.size 32 i0 (.slice none 0 0) 1 24 Try.underlying58 hi hz0 hz1 hz2 rfl (by decide) _ LL.length vals rfl (World.ownsRow.alloc HRow.out _) ⟨w2.heap.size, 0, none⟩ 1 1 [.slice ua un uc] rfl rfl (cell_one_new _ _ _) (by simp [Value.oneCell']) (by simp [maxLen]; omega) (by omega) (by have := hb5.size; simp; omega) ?_; intro v3 w3 hown3 hgrow3 _))
          have HO3 : Aside (OwnLL w3 w.heap.size v3 (LL ++ [(l.drop fr).take (k + 1 - fr)])) := OwnLL.append HRow.out HEl.out HU.out hown3 hgrow3
          have hb6 : Below w.heap.size w w3 := (hb5.alloc hb5.size _).grown hgrow3 (by have := hb5.size; simp; omega) (fun r e => (World.ownsRow.lt HRow.out r e).1)
          clear hown3 hgrow3
          go_wp2
          go_roundg (gk - 1)
          case measure => omega
          case rel => exact ⟨k + 1, k + 1, _, by omega, by omega, by simp; omega, by go_num, by go_num, HO3, hb6, by unfold Aside; rw [← HE.out, M.cut_at hfk (by rw [HL.out]; exact hlt) HA.out x y HXY.out (by rw [← HEn.out, HL.out]; simp; omega), show k - fr + 1 = k + 1 - fr by omega]; simp, by simp [Aside, M.len], fun h => by omega⟩
        · by_cases hl : k + 1 = n
          · have h6i : ((k : Int) - (fr : Int) + 1 == 6) = false := by simp; omega
            have hli : ((k : Int) == (n : Int) - 1) = true := by simp; omega
            have hl2 : n ≤ k + 1 := by omega
            clear hl
            go_wp2_with (first | (go_at_call 84; refine (endsOf_any x y level _).mono ?_; rintro e w1 ⟨rfl, hb1⟩; rw [← HEn.out]; have HEm : Hid (Own (w1.alloc (.cells #[] 56)) w1.heap.size (.slice (some ⟨w1.heap.size, 0, none⟩) 0 0) []) := own_empty0 w1; have HRd : Hid (Rd (w1.alloc (.cells #[] 56)) (some ⟨b, off + fr * 2, none⟩) (k + 1 - fr) ((l.drop fr).take (k + 1 - fr))) := (((HR.out.below hbel (Nat.le_refl _)).below hb1 (Nat.le_refl _)).below ((Below.refl _ _).alloc (Nat.le_refl _) _) (Nat.le_refl _)).mid fr (k + 1 - fr) (by omega); have HO1 : Hid (OwnLL w1 w.heap.size u5 LL) := HO.out.kept (grown_none hb1) (fun r e => by cases e); have hb2 : Below w.heap.size w w1 := hbel.trans (hb1.mono hsz)) | (at_builtin; refine append_rd rfl (.tmp 41) (.tmp 46) rfl w1.heap.size _ [] rfl HEm.out (some ⟨b, off + fr * 2, none⟩) (k + 1 - fr) (cap - fr) ((l.drop fr).take (k + 1 - fr)) rfl HRd.out (by simp) (by simp; omega) (by simp) ?_; intro u w2 ho2 hb3; have hb4 : Below w1.heap.size w1 w2 := ((Below.refl _ _).alloc (Nat.le_refl _) _).trans hb3; obtain ⟨ua, un, uc, rfl⟩ := own_shape ho2; have HU : Hid (Own w2 w.heap.size (.slice ua un uc) ((l.drop fr).take (k + 1 - fr))) := Own.mono ho2 hb2.size; obtain ⟨vals, hrow, hel⟩ := HO1.out.kept (grown_none hb4) (fun r e => by cases e); have HRow : Hid (w2.ownsRow w.heap.size 32 1 u5 LL.length vals) := hrow; have HEl : Hid (∀ i u, vals[i]? = some u → Own w2 w.heap.size u (LL.getD i [])) := hel; have hb5 : Below w.heap.size w w2 := hb2.trans (hb4.mono hb2.size); clear hrow hel ho2 hb3) | (at_builtin; refine wpList_append_own _ rfl (.tmp 40) (.tmp 48) 58 rfl w.heap.size 32 i0 (.slice none 0 0) 1 24 Try.underlying58 hi hz0 hz1 hz2 rfl (by decide) _ LL.length vals rfl (World.ownsRow.alloc HRow.out _) ⟨w2.heap.size, 0, none⟩ 1 1 [.slice ua un uc] rfl rfl (cell_one_new _ _ _) (by simp [Value.oneCell']) (by simp [maxLen]; omega) (by omega) (by have := hb5.size; simp; omega) ?_; intro v3 w3 hown3 hgrow3 _))
            have HO3 : Aside (OwnLL w3 w.heap.size v3 (LL ++ [(l.drop fr).take (k + 1 - fr)])) := OwnLL.append HRow.out HEl.out HU.out hown3 hgrow3
            have hb6 : Below w.heap.size w w3 := (hb5.alloc hb5.size _).grown hgrow3 (by have := hb5.size; simp; omega) (fun r e => (World.ownsRow.lt HRow.out r e).1)
            clear hown3 hgrow3
            go_wp2
            go_roundg (gk - 1)
            case measure => omega
            case rel => exact ⟨k + 1, k + 1, _, by omega, by omega, by simp; omega, by go_num, by go_num, HO3, hb6, by unfold Aside; rw [← HE.out, M.cut_at hfk (by rw [HL.out]; exact hlt) HA.out x y HXY.out (by rw [← HEn.out, HL.out]; simp; omega), show k - fr + 1 = k + 1 - fr by omega]; simp, by simp [Aside, M.len], fun h => by omega⟩
          · have h6i : ((k : Int) - (fr : Int) + 1 == 6) = false := by simp; omega
            have hli : ((k : Int) == (n : Int) - 1) = false := by simp; omega
            go_wp2_with (go_at_call 84; refine (endsOf_any x y level _).mono ?_; rintro e w1 ⟨rfl, hb1⟩; rw [← HEn.out])
            have hb2 := hbel.trans (hb1.mono hsz)
            have HO2 : Aside (OwnLL w1 w.heap.size _ LL) := HO.out.kept (grown_none hb1) (fun r e => by cases e)
            go_roundg (gk - 1)
            case measure => omega
            case rel => exact ⟨k + 1, fr, LL, by omega, by omega, by omega, by go_num, rfl, HO2, hb2, HE, M.cut_on hfk (by rw [HL.out]; exact hlt) HA.out x y HXY.out (by rw [← HEn.out]; simp; omega), fun h => by omega⟩
    · obtain rfl : k = n := by omega
      have hfr : fr = k := HF.out rfl
      have E : Aside (LL = M.cut level l) := by
        have h := HE.out
        rw [hfr, List.drop_eq_nil_of_le (by rw [HL.out]; omega), M.cut_nil, List.append_nil] at h
        exact h
      clear hfr
      go_wp2
      go_ret
      exact ⟨_, rfl, by rw [← E.out]; exact HO.out, hbel⟩
theorem rcut_any (a : Option Addr) (n cap : Nat) (l : List (Int × Int)) (level : Int) (w : World) (h : Sl w a n cap l) (h0 : M.chk l = 0) :
    Calls Try.prog 61 #[.slice a n cap, .int .i64 level] w fun e w' => ∃ v, e = .returned v ∧ OwnLL w' w.heap.size v (M.cut level l) ∧ Below w.heap.size w w' := by
  rcases h.1.cases with ⟨rfl, rfl⟩ | ⟨b, off, rfl, hn, hl, hB, hc⟩
  · refine (rcut_none a cap level w).mono ?_
    rintro e w' ⟨rfl, rfl⟩
    exact ⟨_, rfl, OwnLL.nil _ _, Below.refl _ _⟩
  · exact rcut_some b off n cap l level w (by rw [← hl]; exact ((M.chk_zero l).1 h0).1) h.2.1 h.2.2.1 h.1 hB hc

end Go.Proofs.Ytcgpgflnihjpiac

namespace Go.Proofs.Ytcgpgflnihjpiac
open Go.RowKit

/-- One row appended to rows of the call's own, at a step of a region that draws. -/
theorem step_append_row {w : World} {ops : Array Oper} {o : Oper} {a : Act} {K : Act → World → Prop} {Q : Exit → Act → World → Prop} {E : Prop} (hgd : o.guard = none) (s x : Operand)
    (ho : o.op = .call { callee := .builtin .append, args := #[s, x], argTypes := #[32, 32] })
    (base : Nat) (v : Value) (l : List (Int × Int)) (hs : a.eval s = v) (hown : Own w base v l)
    (ad : Addr) (r : Int × Int) (hx : a.eval x = .slice (some ad) 1 1) (hr : Rd w (some ad) 1 [r])
    (hbig : l.length + 1 ≤ 1000000) (hbase : base ≤ w.heap.size)
    (h : ∀ v' w', Own w' base v' (l ++ [r]) → Below base w w' → K (a.put o.dst v') w') : if Region.wanted o (yielded ops a.tmps) = true then Oper.wp Try.prog o a w K Q else E := by
  obtain ⟨i0, hi, hz0, hz1, hz2⟩ := info_parts infoRow
  have hm2 : (enc [r]).length = 1 * 2 := by rw [enc_length]; rfl
  have hnews : ∀ j u, (enc [r])[j]? = some u → w.cell? (ad.add j) = some u := by
    rcases hr.cases with ⟨h1, _⟩ | ⟨b, off, hab, hn, hl, hB, hc⟩
    · omega
    · obtain rfl : ad = ⟨b, off, none⟩ := by simpa using hab
      exact Rd.enc hl hc
  refine step_append_lies w hgd s x 32 ho base 56 i0 (.agg #[.int .i64 0, .int .i64 0]) 2 16 Try.underlying32 hi hz0 hz1 hz2 rfl (by decide) v l.length (enc l) hs hown ad 1 1 (enc [r]) hx hm2 hnews (enc_one [r])
    (by decide) (by simp only [maxLen]; omega) (by omega) hbase _ rfl ?_
  intro g cap w' h1 h2 _ _
  refine h _ w' ?_ ((Below.refl _ _).grown h2 hbase fun k hk => (World.ownsRow.lt hown k hk).1)
  unfold Own
  rw [enc_append, List.length_append]
  exact h1

theorem rbuild_none (a : Option Addr) (cap : Nat) (w : World) :
    Calls Try.prog 32 #[.slice a 0 cap] w fun e w' => e = .returned (.slice none 0 0) ∧ Below w.heap.size w w' := by
  go_enter Try.func32, Try.ntmps32
  go_wp2
  refine wp_loop_rounds 1 ?_
  rw [rounds_succ]
  go_wp2
  go_ret
  exact ⟨rfl, Below.refl _ _⟩

set_option maxRecDepth 10000 in
set_option maxHeartbeats 8000000 in
theorem rbuild_some (b0 off0 n cap : Nat) (l : List (Int × Int)) (w : World) (h : Sl w (some ⟨b0, off0, none⟩) n cap l) (hn0 : 0 < n) (h0 : M.chk l = 0) :
    Calls Try.prog 32 #[.slice (some ⟨b0, off0, none⟩) n cap] w fun e w' => ∃ v, e = .returned v ∧ OwnT w' w.heap.size v (M.build l) ∧ Below w.heap.size w w' := by
  obtain ⟨i0, hi, hz0, hz1, hz2⟩ := info_parts infoLevels
  have hn40 : n ≤ 40 := by rw [← h.1.1]; exact ((M.chk_zero l).1 h0).1
  have HS : Aside (Sl w (some ⟨b0, off0, none⟩) n cap l) := h
  have HZ : Aside (M.chk l = 0) := h0
  clear h h0
  go_enter Try.func32, Try.ntmps32
  have b1 := Below.refl w.heap.size w
  go_wp2
  go_loopg [0, 3] n (fun g vl v wr => ∃ (b off ln c k : Nat) (ll : List (Int × Int)) (T : List (List (List (Int × Int)))), vl = .slice (some ⟨b, off, none⟩) ln c ∧ ln ≤ g ∧ 0 < ln ∧ ln ≤ 40 ∧ k + M.lvl ln ≤ 6 ∧ Aside (T.length = k) ∧ Aside (Sl wr (some ⟨b, off, none⟩) ln c ll) ∧ Aside (M.chk ll = 0) ∧ Aside (OwnT wr w.heap.size v T) ∧ Aside (T ++ M.buildF ln k ll = M.build l) ∧ Below w.heap.size w wr)
  case atStart => exact ⟨b0, off0, n, cap, 0, l, [], rfl, Nat.le_refl _, hn0, hn40, by have := (M.lvl_six n).2; omega, rfl, HS.out.below b1, HZ, OwnT.nil _ _, by unfold Aside; rw [List.nil_append, M.build, HS.out.1.1], b1⟩
  case round =>
    obtain ⟨b, off, ln, c, k, ll, T, rfl, hlg, hln0, hln, hkl, HT, HSl, HCk, HO, HE, hbel⟩ := hrel
    have hsz := hbel.size
    have hk6 : k ≤ 5 := by have := (M.lvl_six ln).1; omega
    obtain ⟨ta, tn, tc, htv, htS⟩ := HO.out.tv
    obtain rfl : tn = k := by rw [← HT.out]; exact htS.1.1.symm
    subst htv
    have hne : ll ≠ [] := fun e => by have := HSl.out.1.1; rw [e] at this; simp at this; omega
    have HB : Aside (b < wr.heap.size) := by
      rcases HSl.out.1.cases with ⟨e, _⟩ | ⟨b', off', e, _, _, hB, _⟩
      · omega
      · obtain ⟨rfl, rfl⟩ : b = b' ∧ off = off' := by simpa using e
        exact hB
    have HC := rcut_any (some ⟨b, off, none⟩) ln c ll (tn : Int) wr HSl.out HCk.out
    obtain ⟨LL, hLL⟩ : ∃ LL, LL = M.cut (tn : Int) ll := ⟨_, rfl⟩
    rw [← hLL] at HC
    have HC1 : Aside (Calls Try.prog 61 #[.slice (some ⟨b, off, none⟩) ln c, .int .i64 tn] wr fun e w' => ∃ v, e = .returned v ∧ OwnLL w' wr.heap.size v LL ∧ Below wr.heap.size wr w') := HC
    have HLL : Aside (LL = M.cut (tn : Int) ll) := hLL
    have hLp : 0 < LL.length := by rw [hLL]; exact M.cut_pos _ ll hne
    have hLh : LL.length ≤ (ln + 1) / 2 := by rw [hLL, ← HSl.out.1.1]; exact M.cut_half _ ll
    have HNe : Aside (ll ≠ []) := hne
    obtain ⟨N, hN⟩ : ∃ N, N = LL.length := ⟨_, rfl⟩
    rw [← hN] at hLp hLh
    have HN : Aside (N = LL.length) := hN
    clear HC hLL hne hN htS
    go_wp2_with fail
    refine HC1.out.mono ?_
    rintro e w2 ⟨lv, rfl, holl, b2⟩
    obtain ⟨la, ln', lc, rfl, hlv⟩ := holl.lv
    obtain rfl : ln' = N := by rw [HN.out]; exact hlv.1.1.symm
    have HOLL : Aside (OwnLL w2 w.heap.size (.slice la ln' lc) LL) := holl.mono hsz
    have HOT2 : Aside (OwnT w2 w.heap.size (.slice ta tn tc) T) := HO.out.kept (grown_none b2) (fun r e => by cases e)
    obtain ⟨vals, hrow, hel⟩ := HOT2.out
    have HRow : Aside (w2.ownsRow w.heap.size 58 1 (.slice ta tn tc) T.length vals) := hrow
    have HEl : Aside (∀ i u, vals[i]? = some u → OwnLL w2 w.heap.size u (T.getD i [])) := hel
    have hb2 : Below w.heap.size w w2 := hbel.trans (b2.mono hsz)
    clear holl hlv hrow hel b2 HC1
    by_cases h1 : ln' = 1
    · have h1b : ((ln' : Int) == 1) = true := by simp [h1]
      have EB : Aside (T ++ [LL] = M.build l) := by
        unfold Aside
        rw [← HE.out]
        obtain ⟨f, rfl⟩ : ∃ f, ln = f + 1 := ⟨ln - 1, by omega⟩
        rw [M.buildF_one f tn ll HNe.out (by rw [← HLL.out, ← HN.out, h1]), HLL.out]
      clear h1
      go_wp2_with (at_builtin; refine wpList_append_own _ rfl _ _ 22 rfl w.heap.size 58 i0 (.slice none 0 0) 1 24 Try.underlying22 hi hz0 hz1 hz2 rfl (by decide) _ T.length vals rfl (World.ownsRow.alloc HRow.out _) ⟨w2.heap.size, 0, none⟩ 1 1 [.slice la ln' lc] rfl rfl (cell_one_new _ _ _) (by simp [Value.oneCell']) (by rw [HT.out]; simp [maxLen]; omega) (by rw [HT.out]; omega) (by have := hb2.size; simp; omega) ?_)
      intro v3 w3 hown3 hgrow3 _
      obtain ⟨hot3, hll3⟩ := OwnT.append HRow.out HEl.out HOLL.out hown3 hgrow3
      have HOT3 : Aside (OwnT w3 w.heap.size v3 (M.build l)) := by unfold Aside; rw [← EB.out]; exact hot3
      have hb3 : Below w.heap.size w w3 := (hb2.alloc hb2.size _).grown hgrow3 (by have := hb2.size; simp; omega) (fun r e => (World.ownsRow.lt HRow.out r e).1)
      clear hown3 hgrow3 hot3 hll3
      go_wp2
      go_ret
      exact ⟨_, rfl, HOT3.out, hb3⟩
    · have h1b : ((ln' : Int) == 1) = false := by simp; omega
      have HNE : Aside (∀ c ∈ LL, c ≠ []) := by unfold Aside; rw [HLL.out]; exact M.cut_ne _ ll
      have HCH : Aside (∀ c ∈ LL, M.chk c = 0) := by unfold Aside; rw [HLL.out]; exact M.cut_chk HCk.out
      have HTC : Aside (M.chk (M.tell LL) = 0) := by unfold Aside; rw [HLL.out]; exact M.tell_cut_chk HCk.out
      have EB : Aside ((T ++ [LL]) ++ M.buildF ln' (tn + 1) (M.tell LL) = M.build l) := by
        unfold Aside
        rw [← HE.out]
        obtain ⟨f, rfl⟩ : ∃ f, ln = f + 1 := ⟨ln - 1, by omega⟩
        rw [M.buildF_more f tn ll HNe.out (by rw [← HLL.out, ← HN.out]; exact h1), HLL.out, List.append_assoc, List.singleton_append, ← HLL.out]
        rw [M.buildF_fuel ln' f (tn + 1) (M.tell LL) (by rw [M.tell_length, ← HN.out]; exact Nat.le_refl _) (by rw [M.tell_length, ← HN.out]; omega)]
      have hlv1 : ln' < ln := by omega
      have hlv2 : tn + 1 + M.lvl ln' ≤ 6 := by
        have e1 := M.lvl_mono ln' ((ln + 1) / 2) hLh
        have e2 := M.lvl_step ln hln (by omega)
        omega
      go_wp2_with (at_builtin; refine wpList_append_own _ rfl _ _ 22 rfl w.heap.size 58 i0 (.slice none 0 0) 1 24 Try.underlying22 hi hz0 hz1 hz2 rfl (by decide) _ T.length vals rfl (World.ownsRow.alloc HRow.out _) ⟨w2.heap.size, 0, none⟩ 1 1 [.slice la ln' lc] rfl rfl (cell_one_new _ _ _) (by simp [Value.oneCell']) (by rw [HT.out]; simp [maxLen]; omega) (by rw [HT.out]; omega) (by have := hb2.size; simp; omega) ?_)
      intro v3 w3 hown3 hgrow3 _
      obtain ⟨hot3, hll3⟩ := OwnT.append HRow.out HEl.out HOLL.out hown3 hgrow3
      have HOT3 : Aside (OwnT w3 w.heap.size v3 (T ++ [LL])) := hot3
      have hb3 : Below w.heap.size w w3 := (hb2.alloc hb2.size _).grown hgrow3 (by have := hb2.size; simp; omega) (fun r e => (World.ownsRow.lt HRow.out r e).1)
      obtain ⟨la', ln'', lc', hle, hlv3⟩ := hll3.lv
      obtain ⟨rfl, rfl, rfl⟩ : la = la' ∧ ln' = ln'' ∧ lc = lc' := by simpa using hle
      obtain ⟨lb, lo, rfl⟩ : ∃ lb lo, la = some ⟨lb, lo, none⟩ := by
        rcases hlv3.1.2 with e | ⟨b', o', e, _⟩
        · omega
        · exact ⟨b', o', e⟩
      have HLV : Aside (Lv w3 (some ⟨lb, lo, none⟩) ln' LL) := hlv3.1
      have HLB : Aside (lb < w3.heap.size) := (hlv3.1.at hLp).1
      clear hown3 hgrow3 hot3 hll3 hle hlv3 HRow HEl HOLL HOT2 hb2 h1
      go_wp2
      go_loopg [0, 5] ln' (fun g v i wr => ∃ k : Nat, k + g = ln' ∧ i = .int .i64 k ∧ Aside (Own wr w3.heap.size v (M.tell (LL.take k))) ∧ Below w3.heap.size w3 wr)
      case atStart => exact ⟨0, by omega, rfl, World.ownsRow_nil _ _ _ _, Below.refl _ _⟩
      case round =>
        obtain ⟨k, hk, rfl, HI, hin⟩ := hrel
        have hsz3 := hin.size
        by_cases hlt : k < ln'
        · obtain ⟨a', n', c', q1, s1⟩ := (HLV.out.at hLp).2 k hlt
          have hmem : LL.getD k [] ∈ LL := by rw [List.getD, List.getElem?_eq_getElem (by rw [← HN.out]; exact hlt)]; simp
          obtain ⟨x, hx⟩ : ∃ x, x = LL.getD k [] := ⟨_, rfl⟩
          rw [← hx] at s1 hmem
          have hxne := HNE.out x hmem
          have hxc := HCH.out x hmem
          have sw := s1.below hin
          rcases sw.1.cases with ⟨_, e⟩ | ⟨xb, xo, rfl, hxn, hxl, hxB, hxc2⟩
          · exact absurd e hxne
          have hx40 : n' ≤ 40 := by rw [← hxl]; exact ((M.chk_zero x).1 hxc).1
          have qc : wr.cell? ⟨lb, lo + k, none⟩ = some (.slice (some ⟨xb, xo, none⟩) n' c') := (hin.cell (p := ⟨lb, lo + k, none⟩) HLB.out).trans q1
          obtain ⟨m, rfl⟩ : ∃ m, n' = m + 1 := ⟨n' - 1, by omega⟩
          have hkey := (hxc2 m (by omega)).1
          obtain ⟨s, hs⟩ : ∃ s, s = M.sum x := ⟨_, rfl⟩
          obtain ⟨ky, hky⟩ : ∃ ky, ky = (x.getD m (0, 0)).1 := ⟨_, rfl⟩
          rw [← hky] at hkey
          have hxB3 : xb < w3.heap.size := by
            rcases s1.1.cases with ⟨_, e⟩ | ⟨xb', xo', e, _, _, hB3, _⟩
            · exact absurd e hxne
            · obtain ⟨rfl, rfl⟩ : xb = xb' ∧ xo = xo' := by simpa using e
              exact hB3
          have HS : Aside (∀ W, Later wr W → Calls Try.prog 62 #[.slice (some ⟨xb, xo, none⟩) (m + 1) c'] W fun e w' => e = .returned (.int .i64 s) ∧ Later wr w') := fun W hW => by
            rw [hs]
            refine (rsum_any (some ⟨xb, xo, none⟩) (m + 1) c' x W (sw.1.below hW.out (Nat.le_refl _)) hxc).mono ?_
            rintro e w' ⟨rfl, hb⟩
            exact ⟨rfl, hW.out.trans (hb.mono hW.out.size)⟩
          have HKey : Aside (∀ W, Below w3.heap.size wr W → W.cell? ⟨lb, lo + k, none⟩ = some (.slice (some ⟨xb, xo, none⟩) (m + 1) c') ∧ W.cell? ⟨xb, xo + m * 2, none⟩ = some (.int .i64 ky)) := fun W hW => ⟨(hW.cell (p := ⟨lb, lo + k, none⟩) HLB.out).trans qc, (hW.cell (p := ⟨xb, xo + m * 2, none⟩) hxB3).trans hkey⟩
          have ET : Aside (M.tell (LL.take (k + 1)) = M.tell (LL.take k) ++ [(ky, s)]) := by
            unfold Aside
            rw [tell_snoc LL k (by rw [← HN.out]; exact hlt), ← hx]
            have : M.tellOf x = (ky, s) := by unfold M.tellOf; rw [hxl, Nat.add_sub_cancel, hky, hs]
            rw [this]
          have HLen : Aside ((M.tell (LL.take k)).length + 1 ≤ 1000000) := by unfold Aside; rw [M.tell_length, List.length_take]; omega
          have hki : (k : Int) < (ln' : Int) := by omega
          have hm40 : (m : Int) ≤ 40 := by omega
          have hm0 : (0 : Int) ≤ (m : Int) := by omega
          have hm1 : (m : Int) < (m : Int) + 1 := by omega
          have hmw : IntKind.i64.wrap (m : Int) = (m : Int) := by rw [IntKind.wrap_i64]; omega
          have hmw2 : IntKind.i64.wrap ((m : Int) + 1 - 1) = (m : Int) := by rw [IntKind.wrap_i64]; omega
          have hmw3 : (m : Int) < ((m + 1 : Nat) : Int) := by omega
          clear q1 s1 sw hxc2 hs hky hxc hxne hmem hx hxl
          go_wp2_with fail
          go_region_held3 (fun W => W.cell? ⟨lb, lo + k, none⟩ = some (.slice (some ⟨xb, xo, none⟩) (m + 1) c') ∧ W.cell? ⟨xb, xo + m * 2, none⟩ = some (.int .i64 ky)) (first | (simp [*]; done) | exact hAnew.out | go_keep) (first | (go_at_call 62; refine (HS.out _ ((Below.refl _ _).drew)).mono ?_; rintro e w4 ⟨rfl, HL4⟩; have hAnew : Hid (w4.cell? ⟨lb, lo + k, none⟩ = some (.slice (some ⟨xb, xo, none⟩) (m + 1) c') ∧ w4.cell? ⟨xb, xo + m * 2, none⟩ = some (.int .i64 ky)) := HKey.out w4 (HL4.out.mono hsz3); obtain ⟨qc4, hkey4⟩ := hAnew.out; have hb4 : Below w3.heap.size w3 w4 := hin.trans (HL4.out.mono hsz3); have HI1 : Hid (Own (w4.alloc (.cells #[.int .i64 ky, .int .i64 s] 56)) w3.heap.size u0 (M.tell (LL.take k))) := World.ownsRow.alloc (ownsRow_other HI.out (grown_none HL4.out) (fun r e => by cases e)) _; have HR1 : Hid (Rd (w4.alloc (.cells #[.int .i64 ky, .int .i64 s] 56)) (some ⟨w4.heap.size, 0, none⟩) 1 [(ky, s)]) := one_rd w4 _ _) | (refine step_append_row rfl _ _ rfl w3.heap.size _ (M.tell (LL.take k)) rfl HI1.out ⟨w4.heap.size, 0, none⟩ (ky, s) rfl HR1.out HLen.out (by have := hb4.size; simp; omega) ?_; intro v5 w5 ho5 hb5; have hb6 : Below w3.heap.size w3 w5 := (hb4.alloc hb4.size _).trans hb5; have HB6 : Hid (Below w3.heap.size wr w5) := ((HL4.out.mono hsz3).alloc (by have := hb4.size; omega) _).trans hb5; obtain ⟨qc5, hkey5⟩ := HKey.out w5 HB6.out; have HO5 : Hid (Own w5 w3.heap.size v5 (M.tell (LL.take k) ++ [(ky, s)])) := ho5; clear ho5 hb5))
          have HO6 : Aside (Own w5 w3.heap.size v5 (M.tell (LL.take (k + 1)))) := by unfold Aside; rw [ET.out]; exact HO5.out
          clear HI1 HR1 HO5 hAnew qc4 hkey4 qc5 hkey5
          go_wp2
          go_roundg (gk - 1)
          case measure => omega
          case rel => exact ⟨k + 1, by omega, by go_num, HO6, hb6⟩
        · obtain rfl : k = ln' := by omega
          have HI1 : Aside (Own wr w3.heap.size u0 (M.tell LL)) := by
            have h5 := HI.out
            rw [List.take_of_length_le (by rw [← HN.out]; omega)] at h5
            exact h5
          obtain ⟨na, nc, rfl, hnr, hn1, hn2, hn3⟩ := HI1.out.rd
          have etl : (M.tell LL).length = k := by rw [M.tell_length]; exact HN.out.symm
          rw [etl] at hnr hn1 hn3
          rw [etl]
          have HSN : Aside (Sl wr na k nc (M.tell LL)) := ⟨hnr, hn1, hn2, hn3⟩
          obtain ⟨nb, no, rfl⟩ : ∃ nb no, na = some ⟨nb, no, none⟩ := by
            rcases HSN.out.1.cases with ⟨e, _⟩ | ⟨b', o', e, _⟩
            · omega
            · exact ⟨b', o', e⟩
          have HOT4 : Aside (OwnT wr w.heap.size v3 (T ++ [LL])) := HOT3.out.kept (grown_none hin) (fun r e => by cases e)
          have hb4 : Below w.heap.size w wr := hb3.trans (hin.mono hb3.size)
          have HTL : Aside ((T ++ [LL]).length = tn + 1) := by unfold Aside; rw [List.length_append, HT.out]; rfl
          clear hnr hn1 hn2 hn3 etl HI HI1 hk
          go_wp2
          go_roundg k
          case measure => omega
          case rel => exact ⟨nb, no, k, nc, tn + 1, M.tell LL, T ++ [LL], rfl, Nat.le_refl _, hLp, by omega, hlv2, HTL, HSN, HTC, HOT4, EB, hb4⟩


theorem rbuild_any (a : Option Addr) (n cap : Nat) (l : List (Int × Int)) (w : World) (h : Sl w a n cap l) (h0 : M.chk l = 0) :
    Calls Try.prog 32 #[.slice a n cap] w fun e w' => ∃ v, e = .returned v ∧ OwnT w' w.heap.size v (M.build l) ∧ Below w.heap.size w w' := by
  rcases h.1.cases with ⟨rfl, rfl⟩ | ⟨b, off, rfl, hn, _⟩
  · refine (rbuild_none a cap w).mono ?_
    rintro e w' ⟨rfl, hb⟩
    exact ⟨_, rfl, OwnT.nil _ _, hb⟩
  · exact rbuild_some b off n cap l w h hn h0

end Go.Proofs.Ytcgpgflnihjpiac

namespace Go.Proofs.Ytcgpgflnihjpiac
open Go.RowKit

theorem rowsOf_none (a : Option Addr) (cap : Nat) (w : World) :
    Calls Try.prog 31 #[.slice a 0 cap] w fun e w' => e = .returned (.slice none 0 0) ∧ w' = w := by
  go_enter Try.func31, Try.ntmps31
  go_wp2
  refine wp_loop_rounds 1 ?_
  rw [rounds_succ]
  go_wp2
  go_ret
  exact ⟨rfl, rfl⟩

set_option maxRecDepth 100000 in
set_option maxHeartbeats 4000000 in
theorem rowsOf_some (tb to n cap : Nat) (T : List (List (List (Int × Int)))) (w : World) (hT : TvS w (some ⟨tb, to, none⟩) n cap T) (hn : 0 < n) (hfl : (flat T).length ≤ 900000) :
    Calls Try.prog 31 #[.slice (some ⟨tb, to, none⟩) n cap] w fun e w' => ∃ v, e = .returned v ∧ Own w' w.heap.size v (flat T) ∧ Below w.heap.size w w' := by
  obtain ⟨b', o', e, hB, hc⟩ := hT.1.at hn
  obtain ⟨rfl, rfl⟩ : tb = b' ∧ to = o' := by simpa using e
  obtain ⟨ka, kn, kc, qk, sk⟩ := hc 0 hn
  obtain ⟨U, hU⟩ : ∃ U, U = ground T := ⟨_, rfl⟩
  have sk' : LvS w ka kn kc U := by rw [hU]; exact sk
  have hnm := hT.len
  have hkm := sk.len
  have HFl : Aside (U.flatten.length ≤ 900000) := by unfold Aside; rw [hU]; exact hfl
  have HFF : Aside (flat T = U.flatten) := by unfold Aside; rw [hU]; rfl
  have HSk : Aside (LvS w ka kn kc U) := sk'
  have HUn : Aside (U.length = kn) := sk'.1.1
  have HQk : Aside (∀ W, Below w.heap.size w W → W.cell? ⟨tb, to, none⟩ = some (.slice ka kn kc)) := fun W hW => (hW.cell (p := ⟨tb, to, none⟩) hB).trans qk
  have hni : (0 : Int) < (n : Int) := by omega
  clear hT hc sk sk' qk hU hfl e
  go_enter Try.func31, Try.ntmps31
  go_wp2
  go_loopg [3, 4] kn (fun g v ix ws => ∃ t : Nat, t + g = kn ∧ ix = .int .i64 t ∧ Aside (Own ws w.heap.size v (U.take t).flatten) ∧ Below w.heap.size w ws)
  case atStart => exact ⟨0, by omega, rfl, World.ownsRow_nil _ _ _ _, Below.refl _ _⟩
  case round =>
    obtain ⟨t, htg, rfl, HO, hbel⟩ := hrel
    have hsz := hbel.size
    have hqk := HQk.out wr hbel
    by_cases hlt : t < kn
    · obtain ⟨kb, ko, rfl⟩ : ∃ b o, ka = some ⟨b, o, none⟩ := by
        rcases HSk.out.1.2 with e | ⟨b', o', e, _⟩
        · omega
        · exact ⟨b', o', e⟩
      obtain ⟨hkB, hkc⟩ := HSk.out.1.at (by omega)
      obtain ⟨ya, yn, yc, q2, s2⟩ := hkc t hlt
      obtain ⟨y, hy⟩ : ∃ y, y = U.getD t [] := ⟨_, rfl⟩
      rw [← hy] at s2
      have hq2 : wr.cell? ⟨kb, ko + t, none⟩ = some (.slice ya yn yc) := (hbel.cell (p := ⟨kb, ko + t, none⟩) hkB).trans q2
      have HSy : Aside (Sl wr ya yn yc y) := s2.below hbel
      have hft := flat_take U t (by rw [HUn.out]; exact hlt)
      rw [← hy] at hft
      have HFt : Aside ((U.take (t + 1)).flatten = (U.take t).flatten ++ y) := hft
      have HBg : Aside ((U.take t).flatten.length + yn ≤ 1000000) := by
        unfold Aside
        have e1 := flat_le U (t + 1)
        have e2 := HFl.out
        rw [hft, List.length_append, s2.1.1] at e1
        omega
      have hti : (t : Int) < (kn : Int) := by omega
      clear hkc q2 s2 hy hft
      go_wp2_with (at_builtin; refine append_rd rfl _ _ rfl w.heap.size _ (U.take t).flatten rfl HO.out ya yn yc y rfl HSy.out.1 HSy.out.2.2.2 HBg.out hbel.size ?_)
      intro v' w' ho' hb3
      have HO' : Aside (Own w' w.heap.size v' (U.take (t + 1)).flatten) := by unfold Aside; rw [HFt.out]; exact ho'
      have hb4 := hbel.trans hb3
      clear ho' hb3
      go_wp2
      go_roundg (gk - 1)
      case measure => omega
      case rel => exact ⟨t + 1, by omega, by go_num, HO', hb4⟩
    · obtain rfl : t = kn := by omega
      have HO1 : Aside (Own wr w.heap.size u3 (flat T)) := by
        have h5 := HO.out
        rw [List.take_of_length_le (by rw [HUn.out]; omega), ← HFF.out] at h5
        exact h5
      go_wp2
      go_ret
      exact ⟨_, rfl, HO1.out, hbel⟩

theorem rowsOf_any (a : Option Addr) (n cap : Nat) (T : List (List (List (Int × Int)))) (w : World) (hT : TvS w a n cap T) (hfl : (flat T).length ≤ 900000) :
    Calls Try.prog 31 #[.slice a n cap] w fun e w' => ∃ va vc, e = .returned (.slice va (flat T).length vc) ∧ Own w' w.heap.size (.slice va (flat T).length vc) (flat T) ∧ Sl w' va (flat T).length vc (flat T) ∧ Below w.heap.size w w' := by
  rcases Nat.eq_zero_or_pos n with rfl | hn
  · have e : T = [] := List.eq_nil_of_length_eq_zero hT.1.1
    subst e
    refine (rowsOf_none a cap w).mono ?_
    rintro e w' ⟨rfl, rfl⟩
    exact ⟨none, 0, rfl, World.ownsRow_nil _ _ _ _, ⟨Rd.zero rfl rfl, Nat.le_refl _, by simp [maxLen], fun _ => ⟨rfl, rfl⟩⟩, Below.refl _ _⟩
  · obtain ⟨tb, to, rfl, _⟩ := hT.1.at hn
    refine (rowsOf_some tb to n cap T w hT hn hfl).mono ?_
    rintro e w' ⟨v, rfl, ho, hb⟩
    obtain ⟨va, vc, rfl, hs⟩ := Own.sl ho
    exact ⟨va, vc, rfl, ho, hs, hb⟩

set_option maxHeartbeats 4000000 in
theorem treeError_any (a : Option Addr) (n cap : Nat) (T : List (List (List (Int × Int)))) (w : World) (hT : TvS w a n cap T) (hfl : (flat T).length ≤ 900000) :
    Calls Try.prog 29 #[.slice a n cap] w fun e w' => e = .returned (.int .i64 (treeE T)) ∧ Below w.heap.size w w' := by
  have HR := rowsOf_any a n cap T w hT hfl
  have HT : Aside (TvS w a n cap T) := hT
  have hnm := hT.len
  obtain ⟨l, hl⟩ : ∃ l, l = flat T := ⟨_, rfl⟩
  obtain ⟨L, hL⟩ : ∃ L, L = l.length := ⟨_, rfl⟩
  rw [← hl] at HR hfl
  rw [← hL] at HR hfl
  have HR1 : Aside (Calls Try.prog 31 #[.slice a n cap] w fun e w' => ∃ va vc, e = .returned (.slice va L vc) ∧ Own w' w.heap.size (.slice va L vc) l ∧ Sl w' va L vc l ∧ Below w.heap.size w w') := HR
  by_cases h0 : M.chk l = 0
  · obtain ⟨t, ht⟩ : ∃ t, t = decide (M.build l = T) := ⟨_, rfl⟩
    have HE : Aside (treeE T = if t = true then 0 else 1) := by
      unfold Aside treeE
      rw [← hl, ht]
      by_cases hh : M.build l = T
      · rw [if_pos ⟨h0, hh.symm⟩]; simp [hh]
      · rw [if_neg (fun h => hh h.2.symm)]; simp [hh]
    have HErr : Aside (∀ va vc W, Sl W va L vc l → Calls Try.prog 52 #[.slice va L vc] W fun e w' => e = .returned (.int .i64 0) ∧ Below W.heap.size W w') := fun va vc W hs => by
      have := error_any va L vc l W hs.1 (by omega)
      rwa [h0] at this
    have HBd : Aside (∀ va vc W, Sl W va L vc l → Below w.heap.size w W → Calls Try.prog 32 #[.slice va L vc] W fun e w' => ∃ ba bn bc, e = .returned (.slice ba bn bc) ∧ Aside (Calls Try.prog 12 #[.slice ba bn bc, .slice a n cap] w' fun e w'' => e = .returned (.bool t) ∧ Below w'.heap.size w' w'') ∧ Below W.heap.size W w') := fun va vc W hs hb => by
      refine (rbuild_any va L vc l W hs h0).mono ?_
      rintro e w' ⟨v, rfl, ho, hb2⟩
      obtain ⟨ba, bn, bc, rfl, htv⟩ := ho.tv
      refine ⟨ba, bn, bc, rfl, ?_, hb2⟩
      rw [ht]
      exact tsame_any ba a bn n bc cap (M.build l) T w' htv.1 ((HT.out.below (below2 hb hb2)).1) htv.len
    clear HR h0 hl hL ht hT hfl
    cases t with
    | true =>
      have HE1 : Aside (treeE T = 0) := by unfold Aside; rw [HE.out]; simp
      go_enter Try.func29, Try.ntmps29
      go_wp2_with fail
      refine HR1.out.mono ?_
      rintro e w1 ⟨va, vc, rfl, ho, hs, b1⟩
      have HS : Aside (Sl w1 va L vc l) := hs
      clear ho hs
      go_wp2_with fail
      refine (HErr.out va vc w1 HS.out).mono ?_
      rintro e w2 ⟨rfl, b2⟩
      have q2 := below2 b1 b2
      go_wp2_with fail
      refine (HBd.out va vc w2 (HS.out.below b2) q2).mono ?_
      rintro e w3 ⟨ba, bn, bc, rfl, HSame, b3⟩
      have q3 := below2 q2 b3
      go_wp2_with fail
      refine HSame.out.mono ?_
      rintro e w4 ⟨rfl, b4⟩
      have q4 := below2 q3 b4
      go_wp2
      go_ret
      exact ⟨by rw [HE1.out]; rfl, q4⟩
    | false =>
      have HE1 : Aside (treeE T = 1) := by unfold Aside; rw [HE.out]; simp
      go_enter Try.func29, Try.ntmps29
      go_wp2_with fail
      refine HR1.out.mono ?_
      rintro e w1 ⟨va, vc, rfl, ho, hs, b1⟩
      have HS : Aside (Sl w1 va L vc l) := hs
      clear ho hs
      go_wp2_with fail
      refine (HErr.out va vc w1 HS.out).mono ?_
      rintro e w2 ⟨rfl, b2⟩
      have q2 := below2 b1 b2
      go_wp2_with fail
      refine (HBd.out va vc w2 (HS.out.below b2) q2).mono ?_
      rintro e w3 ⟨ba, bn, bc, rfl, HSame, b3⟩
      have q3 := below2 q2 b3
      go_wp2_with fail
      refine HSame.out.mono ?_
      rintro e w4 ⟨rfl, b4⟩
      have q4 := below2 q3 b4
      go_wp2
      go_ret
      exact ⟨by rw [HE1.out]; rfl, q4⟩
  · have HE : Aside (treeE T = 1) := by unfold Aside treeE; rw [← hl, if_neg (fun h => h0 h.1)]
    obtain ⟨c, hc⟩ : ∃ c, c = M.chk l := ⟨_, rfl⟩
    have HErr : Aside (∀ va vc W, Sl W va L vc l → Calls Try.prog 52 #[.slice va L vc] W fun e w' => e = .returned (.int .i64 c) ∧ Below W.heap.size W w') := fun va vc W hs => by
      rw [hc]; exact error_any va L vc l W hs.1 (by omega)
    have hcb : (c != 0) = true := by rw [hc]; simp [h0]
    clear HR h0 hl hL hT hfl hc
    go_enter Try.func29, Try.ntmps29
    go_wp2_with fail
    refine HR1.out.mono ?_
    rintro e w1 ⟨va, vc, rfl, ho, hs, b1⟩
    have HS : Aside (Sl w1 va L vc l) := hs
    clear ho hs
    go_wp2_with fail
    refine (HErr.out va vc w1 HS.out).mono ?_
    rintro e w2 ⟨rfl, b2⟩
    have q2 := below2 b1 b2
    go_wp2
    go_ret
    exact ⟨by rw [HE.out]; rfl, q2⟩
end Go.Proofs.Ytcgpgflnihjpiac

namespace Go.Proofs.Ytcgpgflnihjpiac.M

theorem mem_dif (a b : List (Int × Int)) (c : Chg) : c ∈ dif a b ↔ ∃ k : Nat, k < 100 ∧ find (k : Int) a ≠ find (k : Int) b ∧ c = ((k : Int), find k a, find k b) := mem_difF a b 100 c
theorem dif_fine {a b : List (Int × Int)} (ha : Ok a) (hb : Ok b) : Fine (-1) (dif a b) := by
  refine ⟨fun c hc => ?_, difF_rise a b 100⟩
  obtain ⟨k, h1, h2, rfl⟩ := (mem_dif a b c).1 hc
  have r1 := find_range (key := (k : Int)) ha
  have r2 := find_range (key := (k : Int)) hb
  exact ⟨by show -1 < (k : Int); omega, by show (k : Int) ≤ 99; omega, r1.1, r1.2, r2.1, r2.2, h2⟩
theorem dif_clash (a b : List (Int × Int)) : clashF a (dif a b) = false := by
  unfold clashF
  rw [List.any_eq_false]
  intro c hc
  obtain ⟨k, h1, h2, rfl⟩ := (mem_dif a b c).1 hc
  simp
theorem dif_tab (a b : List (Int × Int)) (k : Nat) (hk : k < 100) : tab (fun x => find x a) (dif a b) (k : Int) = find k b := by
  rcases tab_cases (fun x => find x a) _ (difF_rise a b 100) (k : Int) with ⟨c, hc, e1, e2⟩ | ⟨hno, e2⟩
  · obtain ⟨j, h1, h2, rfl⟩ := (mem_dif a b c).1 hc
    have : (j : Int) = (k : Int) := e1
    have : j = k := by omega
    subst this
    exact e2
  · by_cases h : find (k : Int) a = find (k : Int) b
    · exact e2.trans h
    · exact absurd rfl (hno _ ((mem_dif a b _).2 ⟨k, hk, h, rfl⟩))
theorem dif_patch {a b : List (Int × Int)} (ha : chk a = 0) (hb : chk b = 0) : patchE a (dif a b) = 0 ∧ patchV a (dif a b) = b := by
  have oa := (chk_zero a).1 ha
  have ob := (chk_zero b).1 hb
  have e : ofTab (tab (fun k => find k a) (dif a b)) = b := ofTab_self ob.2 _ fun i hi => dif_tab a b i hi
  have e0 : patchE a (dif a b) = 0 := by
    unfold patchE
    rw [e, ha, (fine_iff _).2 (dif_fine oa.2 ob.2), dif_clash]
    have := ob.1
    simp
    omega
  refine ⟨e0, ?_⟩
  unfold patchV
  rw [if_pos e0, e]
theorem difF_swap (a b : List (Int × Int)) (n : Nat) : (difF a b n).map swapC = difF b a n := by
  induction n with
  | zero => rfl
  | succ n ih =>
    rw [difF, difF]
    by_cases h : find (n : Int) a = find (n : Int) b
    · rw [if_neg (by simp [h]), if_neg (by simp [h]), ih]
    · rw [if_pos h, if_pos (fun e => h e.symm), List.map_append, ih]; rfl
theorem dif_back {a b : List (Int × Int)} (ha : chk a = 0) (hb : chk b = 0) : backE (dif a b) = 0 ∧ backV (dif a b) = dif b a := by
  have hf := (fine_iff _).2 (dif_fine ((chk_zero a).1 ha).2 ((chk_zero b).1 hb).2)
  unfold backE backV
  rw [if_pos hf, if_pos hf]
  exact ⟨rfl, difF_swap a b 100⟩
theorem dif_nil {a b : List (Int × Int)} (ha : chk a = 0) (hb : chk b = 0) : dif a b = [] ↔ a = b := by
  have oa := ((chk_zero a).1 ha).2
  have ob := ((chk_zero b).1 hb).2
  constructor
  · intro h
    refine ext _ _ oa ob fun k => ?_
    by_cases hk : 0 ≤ k ∧ k ≤ 99
    · obtain ⟨i, rfl⟩ := Int.eq_ofNat_of_zero_le hk.1
      by_cases e : find (i : Int) a = find (i : Int) b
      · exact e
      · have := (mem_dif a b _).2 ⟨i, by omega, e, rfl⟩
        rw [h] at this
        simp at this
    · rw [find_out oa k (by omega), find_out ob k (by omega)]
  · rintro rfl
    refine List.eq_nil_iff_forall_not_mem.2 fun c hc => ?_
    obtain ⟨k, _, h, _⟩ := (mem_dif a a c).1 hc
    exact h rfl
theorem difF_le (a b : List (Int × Int)) (n : Nat) : (difF a b n).length ≤ (foldTo (fun i => find (i : Int) a) n).length + (foldTo (fun i => find (i : Int) b) n).length := by
  induction n with
  | zero => simp [difF]
  | succ n ih =>
    rw [difF, foldTo, foldTo]
    by_cases h : find (n : Int) a = find (n : Int) b
    · rw [if_neg (by simp [h])]
      split <;> split <;> (try simp) <;> omega
    · rw [if_pos h]
      by_cases h1 : find (n : Int) a = -1
      · rw [if_pos h1, if_neg (by omega)]; simp; omega
      · rw [if_neg h1]
        split <;> simp <;> omega
theorem dif_le {a b : List (Int × Int)} (ha : chk a = 0) (hb : chk b = 0) : (dif a b).length ≤ a.length + b.length := by
  have oa := ((chk_zero a).1 ha).2
  have ob := ((chk_zero b).1 hb).2
  have h := difF_le a b 100
  have e1 : foldTo (fun i => find (i : Int) a) 100 = a := ofTab_self oa (fun k => find k a) fun _ _ => rfl
  have e2 : foldTo (fun i => find (i : Int) b) 100 = b := ofTab_self ob (fun k => find k b) fun _ _ => rfl
  rw [e1, e2] at h
  exact h
theorem dif_at (a b : List (Int × Int)) (k : Nat) (h : k < (dif a b).length) : ∃ i : Nat, i < 100 ∧ find (i : Int) a ≠ find (i : Int) b ∧ (dif a b).getD k (0, 0, 0) = ((i : Int), find i a, find i b) := by
  obtain ⟨i, h1, h2, h3⟩ := (mem_dif a b _).1 (gmem (dif a b) k h)
  exact ⟨i, h1, h2, h3⟩

/-- What of the second's changes is not yet in the first. -/
def left (b l m : List (Int × Int)) : List Chg := (dif b m).filter (fun c => decide (find c.1 l ≠ c.2.2))
theorem difF_left (b l m : List (Int × Int)) (n : Nat) (h : ∀ k : Nat, k < n → mclash (find k b) (find k l) (find k m) = false) :
    (difF b m n).filter (fun c => decide (find c.1 l ≠ c.2.2)) = (sel (fun k => decide (find (k : Int) b ≠ find (k : Int) m)) n).filterMap (aloneC b l m) := by
  induction n with
  | zero => rfl
  | succ n ih =>
    have ih := ih fun k hk => h k (by omega)
    have hc := h n (by omega)
    unfold mclash at hc
    rw [decide_eq_false_iff_not] at hc
    rw [difF, sel]
    by_cases h1 : find (n : Int) b = find (n : Int) m
    · rw [if_neg (by simp [h1]), if_neg (by simp [h1]), ih]
    · rw [if_pos h1, if_pos (by simp [h1]), List.filter_append, List.filterMap_append, ih]
      congr 1
      by_cases h2 : find (n : Int) b = find (n : Int) l
      · have h3 : find (n : Int) l ≠ find (n : Int) m := by omega
        simp [aloneC, h2, h3]
      · have h3 : find (n : Int) l = find (n : Int) m := by omega
        simp [aloneC, h3, h1]
theorem left_alone (b l m : List (Int × Int)) (h : mkeys b l m = []) : left b l m = alone b l m := by
  refine difF_left b l m 100 fun k hk => ?_
  cases hm : mclash (find (k : Int) b) (find (k : Int) l) (find (k : Int) m) with
  | false => rfl
  | true =>
    have : (k : Int) ∈ mkeys b l m := (mem_sel _ _ _).2 ⟨k, hk, hm, rfl⟩
    rw [h] at this
    simp at this
theorem left_patch {b l m : List (Int × Int)} (hE : mergeE b l m = 0) (hK : mkeys b l m = []) : patchE l (left b l m) = 0 ∧ patchV l (left b l m) = mrows b l m := by
  have z1 : chk b = 0 := by unfold mergeE at hE; split at hE <;> omega
  have z2 : chk l = 0 := by unfold mergeE at hE; rw [if_neg (by omega)] at hE; split at hE <;> omega
  have z3 : chk m = 0 := by unfold mergeE at hE; rw [if_neg (by omega), if_neg (by omega)] at hE; split at hE <;> omega
  have h := alone_patch z1 z2 z3
  rw [left_alone b l m hK]
  have e0 : patchE l (alone b l m) = 0 := h.1.trans hE
  refine ⟨e0, ?_⟩
  unfold patchV
  rw [if_pos e0, h.2]
end Go.Proofs.Ytcgpgflnihjpiac.M

namespace Go.Proofs.Ytcgpgflnihjpiac
open Go.RowKit

set_option maxRecDepth 100000 in
set_option maxHeartbeats 16000000 in
theorem differ_any (a1 a2 : Option Addr) (n1 n2 c1 c2 : Nat) (l m : List (Int × Int)) (w : World) (h1 : Rd w a1 n1 l) (h2 : Rd w a2 n2 m) (z1 : M.chk l = 0) (z2 : M.chk m = 0) :
    Calls Try.prog 47 #[.slice a1 n1 c1, .slice a2 n2 c2] w fun e w' => ∃ va vn vc, e = .returned (.slice va vn vc) ∧ Rc w' va vn (M.dif l m) ∧ vn ≤ vc ∧ vc ≤ maxLen ∧ Below w.heap.size w w' := by
  obtain ⟨Z, hZ, hz⟩ := zeroTable
  have k1 : n1 ≤ 40 := by rw [← h1.1]; exact ((M.chk_zero l).1 z1).1
  have k2 : n2 ≤ 40 := by rw [← h2.1]; exact ((M.chk_zero m).1 z2).1
  have H2 : Hid (Rd w a2 n2 m) := h2
  have SP1 := spread_any a1 n1 c1 l w h1 k1
  clear h1 h2 z1 z2
  go_enter Try.func47, Try.ntmps47
  go_wp2_with fail
  refine SP1.mono ?_
  rintro e w4 ⟨cx, rfl, hcx, hfx, b4⟩
  have HCX : Aside (cx.size = 100) := hcx
  have HFX : Aside (∀ i : Nat, i < 100 → cx[i]? = some (.int .i64 (M.find i l))) := hfx
  clear hcx hfx SP1
  go_wp2_with fail
  refine (spread_any a2 n2 c2 m _ (H2.out.below b4 (Nat.le_refl _)) k2).mono ?_
  rintro e w5 ⟨cy, rfl, hcy, hfy, hb5⟩
  have b5 := below2 b4 hb5
  have HCY : Aside (cy.size = 100) := hcy
  have HFY : Aside (∀ i : Nat, i < 100 → cy[i]? = some (.int .i64 (M.find i m))) := hfy
  clear hcy hfy hb5 b4 H2
  obtain ⟨S, hS⟩ : ∃ S, S = w5.heap.size := ⟨_, rfl⟩
  obtain ⟨V3, hV3⟩ : ∃ V3, V3 = (w5.alloc (.cells Z 80)).alloc (.cells Z 80) := ⟨_, rfl⟩
  have g0 : V3.heap[S]? = some (.cells Z 80 (0, 0)) := by rw [hV3, hS]; exact (Below.heap_alloc _ _ _ (by simp)).trans (heap_alloc_new w5 _)
  have g1 : V3.heap[S + 1]? = some (.cells Z 80 (0, 0)) := by rw [hV3, hS, show w5.heap.size + 1 = (w5.alloc (.cells Z 80)).heap.size by simp]; exact heap_alloc_new _ _
  have bV3 : Below w5.heap.size w5 V3 := by rw [hV3]; exact ((Below.refl _ _).alloc (Nat.le_refl _) _).alloc (by simp) _
  obtain ⟨V4, hV4⟩ : ∃ V4, V4 = V3.setRow S cx := ⟨_, rfl⟩
  obtain ⟨V5, hV5⟩ : ∃ V5, V5 = V4.setRow (S + 1) cy := ⟨_, rfl⟩
  have g4 : V4.heap[S + 1]? = some (.cells Z 80 (0, 0)) := by rw [hV4]; exact (setRow_other _ _ _ _ (by omega)).trans g1
  have GX : Aside (V5.heap[S]? = some (.cells cx 80 (0, 0))) := by unfold Aside; rw [hV5, setRow_other _ _ _ _ (by omega), hV4]; exact setRow_heap _ _ Z cx _ _ g0
  have GY : Aside (V5.heap[S + 1]? = some (.cells cy 80 (0, 0))) := by unfold Aside; rw [hV5]; exact setRow_heap _ _ Z cy _ _ g4
  have hV5s : V5.heap.size = S + 1 + 1 := by rw [hV5, hV4, hV3, hS]; simp
  have bV5 : Below w5.heap.size w5 V5 := by rw [hV5, hV4]; exact below_setRow (below_setRow bV3 (by omega) _) (by omega) _
  have b7 : Below w.heap.size w V5 := b5.trans (bV5.mono b5.size)
  have hwS : w.heap.size ≤ S := by rw [hS]; exact b5.size
  have G0 : Hid (V3.heap[S]? = some (.cells Z 80 (0, 0))) := g0
  have G4 : Hid (V4.heap[S + 1]? = some (.cells Z 80 (0, 0))) := g4
  have HV3 : Hid (V3 = (w5.alloc (.cells Z 80)).alloc (.cells Z 80)) := hV3
  have HV4 : Hid (V4 = V3.setRow S cx) := hV4
  have HV5 : Hid (V5 = V4.setRow (S + 1) cy) := hV5
  have HS : Hid (S = w5.heap.size) := hS
  have HZs : Hid (Z.size = 100) := hZ
  have HVs : Aside (V5.heap.size = S + 1 + 1) := hV5s
  clear hV3 hV4 hV5 g0 g1 g4 hS hZ bV3 bV5 b5 hV5s
  have HOX : Hid (cx.all (·.oneCell') = true) := all_one cx _ HCX.out HFX.out
  have HOY : Hid (cy.all (·.oneCell') = true) := all_one cy _ HCY.out HFY.out
  have HCells : Hid (∀ W, Below V5.heap.size V5 W → ∀ k : Nat, k < 100 → W.cell? ⟨S, k, none⟩ = some (.int .i64 (M.find k l)) ∧ W.cell? ⟨S + 1, k, none⟩ = some (.int .i64 (M.find k m))) := fun W hW k hk => by
    have hs := HVs.out
    refine ⟨?_, ?_⟩
    · rw [hW.cell (p := ⟨S, k, none⟩) (by show S < _; omega), cell_of_row V5 _ k cx _ _ GX.out]; exact HFX.out k hk
    · rw [hW.cell (p := ⟨S + 1, k, none⟩) (by show S + 1 < _; omega), cell_of_row V5 _ k cy _ _ GY.out]; exact HFY.out k hk
  go_wp2_with (first
    | (refine wpList_store_row rfl 80 _ _ rfl w5.heap.size cx rfl rfl 80 Z (by rw [← HV3.out, ← HS.out]; exact G0.out) (by rw [HCX.out]; exact infoTable) (by rw [HCX.out]; exact HZs.out) HOX.out ?_; rw [← HV3.out, ← HS.out, ← HV4.out])
    | (refine wpList_store_row rfl 80 _ _ rfl (S + 1) cy rfl rfl 80 Z G4.out (by rw [HCY.out]; exact infoTable) (by rw [HCY.out]; exact HZs.out) HOY.out ?_; rw [← HV5.out]))
  go_loopg [7, 8] 100 (fun g v ix wr => ∃ k : Nat, k + g = 100 ∧ ix = .int .i64 k ∧ Aside (OwnC wr V5.heap.size v (M.difF l m k)) ∧ Below V5.heap.size V5 wr)
  case atStart => exact ⟨0, by omega, rfl, OwnC.nil _ _, Below.refl _ _⟩
  case round =>
    obtain ⟨k, hk, rfl, HO, hbel⟩ := hrel
    have hsz := hbel.size
    by_cases hlt : k < 100
    · have hki : (k : Int) ≤ 99 := by omega
      have hki2 : (k : Int) < 100 := by omega
      obtain ⟨cX, cY⟩ := HCells.out wr hbel k hlt
      have HK : Hid (∀ W, Below V5.heap.size wr W → W.cell? ⟨S, k, none⟩ = some (.int .i64 (M.find k l)) ∧ W.cell? ⟨S + 1, k, none⟩ = some (.int .i64 (M.find k m))) := fun W hW => HCells.out W (hbel.trans hW) k hlt
      have HStep : Hid (M.difF l m (k + 1) = if M.find (k : Int) l ≠ M.find (k : Int) m then M.difF l m k ++ [((k : Int), M.find k l, M.find k m)] else M.difF l m k) := rfl
      obtain ⟨x, hx⟩ : ∃ x, x = M.find (k : Int) l := ⟨_, rfl⟩
      obtain ⟨y, hy⟩ : ∃ y, y = M.find (k : Int) m := ⟨_, rfl⟩
      rw [← hx] at cX HK HStep
      rw [← hy] at cY HK HStep
      have HLe : Hid ((M.difF l m k).length + 1 ≤ 1000000) := by have := M.difF_len l m k; unfold Hid; omega
      clear hx hy
      by_cases hxy : x = y
      · have hb : (x != y) = false := by simp [hxy]
        have HO2 : Aside (OwnC wr V5.heap.size u7 (M.difF l m (k + 1))) := by unfold Aside; rw [HStep.out, if_neg (by simp [hxy])]; exact HO.out
        clear hxy HO HStep
        go_wp2_with fail
        go_quiet (fail)
        go_wp2
        go_roundg (gk - 1)
        case measure => omega
        case rel => exact ⟨k + 1, by omega, by go_num, keep_row HO2.out (fun _ _ _ => rfl), below_drewN hbel _⟩
      · have hb : (x != y) = true := by simp [hxy]
        have HS2 : Hid (M.difF l m (k + 1) = M.difF l m k ++ [((k : Int), x, y)]) := by unfold Hid; rw [HStep.out, if_pos hxy]
        have HOD : Hid (∀ W : World, W.heap = wr.heap → OwnC (W.alloc (.cells #[.int .i64 (k : Int), .int .i64 x, .int .i64 y] 50)) V5.heap.size u7 (M.difF l m k)) := fun W hW => HO.out.allocW hW _ _
        clear hxy HO HStep
        go_wp2_with fail
        go_quiet (fail)
        obtain ⟨Wq, hWq⟩ : ∃ Wq, Wq = wr.drewN nq := ⟨_, rfl⟩
        have hqb : Below V5.heap.size wr Wq := by rw [hWq]; exact below_drewN (Below.refl _ _) _
        have hqh : Wq.heap = wr.heap := by rw [hWq]; rfl
        have hqs : Wq.heap.size = wr.heap.size := by rw [hqh]
        obtain ⟨cX2, cY2⟩ := HK.out Wq hqb
        rw [← hWq]
        have HQH : Hid (Wq.heap = wr.heap) := hqh
        have HQB : Hid (Below V5.heap.size wr Wq) := hqb
        have hsq : V5.heap.size ≤ Wq.heap.size := by omega
        clear hWq hqb hqh hqs
        go_wp2_with fail
        go_region_held3 (fun W => W.cell? ⟨S, k, none⟩ = some (.int .i64 x) ∧ W.cell? ⟨S + 1, k, none⟩ = some (.int .i64 y)) (first | (simp [*]; done) | exact hA.out | go_keep) (first | (refine step_append_rc rfl _ _ rfl V5.heap.size _ (M.difF l m k) rfl (HOD.out _ HQH.out) Wq.heap.size (k : Int) x y rfl (rc_cells _ _ _ _) HLe.out (by simp; omega) ?_; intro v5 w6 ho5 hb5; have HB5 : Hid (Below V5.heap.size wr w6) := HQB.out.trans ((((Below.refl _ _).drew).alloc hsq _).trans hb5); have hA : Hid (w6.cell? ⟨S, k, none⟩ = some (.int .i64 x) ∧ w6.cell? ⟨S + 1, k, none⟩ = some (.int .i64 y)) := HK.out w6 HB5.out; obtain ⟨s0, s1⟩ := hA.out; have HO5 : Hid (OwnC w6 V5.heap.size v5 (M.difF l m k ++ [((k : Int), x, y)])) := ho5; clear ho5 hb5))
        have HO2 : Aside (OwnC w6 V5.heap.size v5 (M.difF l m (k + 1))) := by unfold Aside; rw [HS2.out]; exact HO5.out
        have hb4 : Below V5.heap.size V5 w6 := hbel.trans HB5.out
        clear HO5 hA
        go_wp2
        go_roundg (gk - 1)
        case measure => omega
        case rel => exact ⟨k + 1, by omega, by go_num, HO2, hb4⟩
    · obtain rfl : k = 100 := by omega
      obtain ⟨va, vc, hv, hr, hl, hm2⟩ := HO.out.rc
      have HV : Hid (u7 = .slice va (M.difF l m 100).length vc) := hv
      have HVr : Hid (Rc wr va (M.difF l m 100).length (M.difF l m 100)) := hr
      have hki : decide ((100 : Int) ≤ 99) = false := by decide
      clear hv hr
      go_wp2
      go_ret
      exact ⟨va, _, vc, HV.out ▸ rfl, HVr.out, hl, hm2, b7.trans (hbel.mono b7.size)⟩
end Go.Proofs.Ytcgpgflnihjpiac

namespace Go.Proofs.Ytcgpgflnihjpiac
open Go.RowKit

theorem treeE_chk {T : List (List (List (Int × Int)))} (h : treeE T = 0) : M.chk (flat T) = 0 := by
  unfold treeE at h
  by_cases e : M.chk (flat T) = 0 ∧ T = M.build (flat T)
  · exact e.1
  · rw [if_neg e] at h; omega
set_option maxHeartbeats 4000000 in
theorem diffOf_any (a1 a2 : Option Addr) (n1 n2 c1 c2 : Nat) (T U : List (List (List (Int × Int)))) (w : World) (h1 : TvS w a1 n1 c1 T) (f1 : (flat T).length ≤ 900000) (h2 : TvS w a2 n2 c2 U) (f2 : (flat U).length ≤ 900000) :
    Calls Try.prog 20 #[.slice a1 n1 c1, .slice a2 n2 c2] w fun e w' => HandsC w w' (difV T U) (difE T U) e := by
  have E1 : Hid (∀ W, Below w.heap.size w W → Calls Try.prog 29 #[.slice a1 n1 c1] W fun e w' => e = .returned (.int .i64 (treeE T)) ∧ Below W.heap.size W w') := fun W hW => treeError_any a1 n1 c1 T W (h1.below hW) f1
  have E2 : Hid (∀ W, Below w.heap.size w W → Calls Try.prog 29 #[.slice a2 n2 c2] W fun e w' => e = .returned (.int .i64 (treeE U)) ∧ Below W.heap.size W w') := fun W hW => treeError_any a2 n2 c2 U W (h2.below hW) f2
  have R1 : Hid (∀ W, Below w.heap.size w W → Calls Try.prog 31 #[.slice a1 n1 c1] W fun e w' => ∃ va vn vc, e = .returned (.slice va vn vc) ∧ Rd w' va vn (flat T) ∧ Below W.heap.size W w') := fun W hW => (rowsOf_any a1 n1 c1 T W (h1.below hW) f1).mono fun e w' ⟨va, vc, he, _, hs, hb⟩ => ⟨va, _, vc, he, hs.1, hb⟩
  have R2 : Hid (∀ W, Below w.heap.size w W → Calls Try.prog 31 #[.slice a2 n2 c2] W fun e w' => ∃ va vn vc, e = .returned (.slice va vn vc) ∧ Rd w' va vn (flat U) ∧ Below W.heap.size W w') := fun W hW => (rowsOf_any a2 n2 c2 U W (h2.below hW) f2).mono fun e w' ⟨va, vc, he, _, hs, hb⟩ => ⟨va, _, vc, he, hs.1, hb⟩
  clear h1 h2 f1 f2
  by_cases z1 : treeE T = 0
  · by_cases z2 : treeE U = 0
    · have e0 : difE T U = 0 := by unfold difE; rw [if_neg (by omega)]; exact z2
      unfold difV
      rw [e0, if_pos rfl]
      have Z1 : Hid (M.chk (flat T) = 0) := treeE_chk z1
      have Z2 : Hid (M.chk (flat U) = 0) := treeE_chk z2
      rw [z1] at E1
      rw [z2] at E2
      clear z1 z2 e0
      go_enter Try.func20, Try.ntmps20
      go_wp2_with fail
      refine (E1.out _ (Below.refl _ _)).mono ?_
      rintro e w1 ⟨rfl, q1⟩
      go_wp2_with fail
      refine (E2.out _ q1).mono ?_
      rintro e w2 ⟨rfl, ba⟩
      have q2 := below2 q1 ba
      clear ba q1
      go_wp2_with fail
      refine (R1.out _ q2).mono ?_
      rintro e w3 ⟨xa, xn, xc, rfl, r, ba⟩
      have X3 : Hid (Rd w3 xa xn (flat T)) := r
      have q3 := below2 q2 ba
      clear ba q2 r
      go_wp2_with fail
      refine (R2.out _ q3).mono ?_
      rintro e w4 ⟨ya, yn, yc, rfl, r, ba⟩
      have Y4 : Hid (Rd w4 ya yn (flat U)) := r
      have X4 : Hid (Rd w4 xa xn (flat T)) := X3.out.below ba (Nat.le_refl _)
      have q4 := below2 q3 ba
      clear ba q3 r X3
      go_wp2_with fail
      refine (differ_any _ _ _ _ _ _ _ _ _ X4.out Y4.out Z1.out Z2.out).mono ?_
      rintro e w5 ⟨va, vn, vc, rfl, r, g1, g2, ba⟩
      have V5 : Hid (Rc w5 va vn (M.dif (flat T) (flat U))) := r
      have q5 := below2 q4 ba
      clear ba q4 r
      go_wp2
      go_ret2
      exact ⟨va, vn, vc, rfl, V5.out, g1, g2, q5⟩
    · have e0 : difE T U = treeE U := by unfold difE; rw [if_neg (by omega)]
      unfold difV
      rw [e0, if_neg z2]
      obtain ⟨E, hE⟩ : ∃ E, E = treeE U := ⟨_, rfl⟩
      rw [← hE] at E2 z2 ⊢
      rw [z1] at E1
      have hEb : (E != 0) = true := by simp [z2]
      clear z1 z2 e0 hE
      go_enter Try.func20, Try.ntmps20
      go_wp2_with fail
      refine (E1.out _ (Below.refl _ _)).mono ?_
      rintro e w1 ⟨rfl, q1⟩
      go_wp2_with fail
      refine (E2.out _ q1).mono ?_
      rintro e w2 ⟨rfl, ba⟩
      have q2 := below2 q1 ba
      go_wp2
      go_ret2
      exact HandsC.err E q2
  · have e0 : difE T U = treeE T := by unfold difE; rw [if_pos z1]
    unfold difV
    rw [e0, if_neg z1]
    obtain ⟨E, hE⟩ : ∃ E, E = treeE T := ⟨_, rfl⟩
    rw [← hE] at E1 z1 ⊢
    have hEb : (E != 0) = true := by simp [z1]
    clear z1 e0 hE
    go_enter Try.func20, Try.ntmps20
    go_wp2_with fail
    refine (E1.out _ (Below.refl _ _)).mono ?_
    rintro e w1 ⟨rfl, q1⟩
    go_wp2
    go_ret2
    exact HandsC.err E q1
end Go.Proofs.Ytcgpgflnihjpiac

namespace Go.Proofs.Ytcgpgflnihjpiac
open Go.ChangeShapes Go.WideShapes Go.ChangeAt Go.RowKit Go.Deep

theorem ownTry : ownKnob Try.prog.godebug = none := by kernel_rfl
theorem laidTry : laidOutB Try.prog = true := by kernel_rfl

theorem open_rows {H : Type} {enc : TypeId × Value → H} {w : World} {base : Nat} {spare : Nat → Bool} {held : Bool} {fuel : Nat} {a : Option Addr} {len cap : Nat} {x : DataW H × List MemPlace}
    (h : DataW.trod enc Try.prog w base spare held fuel 32 [.slice a len cap] = some x) : ∃ l, Rd w a len l ∧ len ≤ cap ∧ cap ≤ maxLen ∧ (a = none → len = 0 ∧ cap = 0) := by
  rcases open_slice_pairs Try.underlying32 Try.underlying56 (by kernel_rfl) rfl rfl (by kernel_rfl) (by kernel_rfl) h with ⟨hcs, _⟩ | ⟨ad, len', cap', m, n, V0, V1, D0, D1, P0, P1, hcs, _, hl, hm, hmm, _, hc⟩
  · simp at hcs
    obtain ⟨rfl, rfl, rfl⟩ := hcs
    exact ⟨[], ⟨rfl, Or.inl rfl⟩, Nat.le_refl _, by simp [maxLen], fun _ => ⟨rfl, rfl⟩⟩
  · simp at hcs
    obtain ⟨rfl, rfl, rfl⟩ := hcs
    have hlm : len ≤ m := by rw [hmm]; split <;> omega
    have each : ∀ i, i < len → ∃ q : Int × Int, w.cell? (ad.add (i * 2)) = some (.int .i64 q.1) ∧ w.cell? (ad.add (i * 2 + 1)) = some (.int .i64 q.2) := by
      intro i hi
      obtain ⟨c0, c1, t0, t1⟩ := hc i (by omega)
      obtain ⟨x0, e0, _, _⟩ := DataW.trod_int (k := .i64) Try.underlying3 t0
      obtain ⟨x1, e1, _, _⟩ := DataW.trod_int (k := .i64) Try.underlying3 t1
      simp at e0 e1
      rw [e0] at c0
      rw [e1] at c1
      exact ⟨(x0, x1), c0, c1⟩
    obtain ⟨q, hq⟩ := choose_lt each
    refine ⟨(List.range len).map q, ⟨by simp, ?_⟩, hl, hm, fun h => by simp at h⟩
    by_cases h0 : len = 0
    · exact Or.inl h0
    · obtain ⟨b, off, spot⟩ := ad
      have hs : spot = none := by
        have h1 := (hq 0 (by omega)).1
        simpa [Addr.add] using World.cell?_spot h1
      subst hs
      refine Or.inr ⟨b, off, rfl, World.block_lt_of_cell? w _ (hq 0 (by omega)).1, fun i hi => ?_⟩
      have h1 := hq i hi
      rw [Addr.add_lit, Addr.add_lit, ← Nat.add_assoc] at h1
      have e : ((List.range len).map q).getD i (0, 0) = q i := by simp [List.getD, hi]
      rw [e]
      exact h1
end Go.Proofs.Ytcgpgflnihjpiac

namespace Go.Proofs.Ytcgpgflnihjpiac
theorem trod_int_mk {H : Type} {enc : TypeId × Value → H} {w : World} {base : Nat} {spare : Nat → Bool} {held : Bool} {x : Int} (wx : (Lit.int .i64 x).wf = true) :
    DataW.trod enc Try.prog w base spare held 1 3 [.int .i64 x] = some (.lit (.int .i64 x), []) := by
  simp [DataW.trod, Try.underlying3, wx]
end Go.Proofs.Ytcgpgflnihjpiac

namespace Go.Proofs.Ytcgpgflnihjpiac
open Go.ChangeShapes Go.WideShapes Go.ChangeAt Go.RowKit Go.Deep

theorem bulk_all {H : Type} (D : Nat → DataW H) (f : Nat → Nat) (is : List Nat) (h : ∀ i ∈ is, f i ≤ Rows.uptoBulk (D i)) : (is.map f).sum ≤ Rows.uptoBulkAll (is.map D) := by
  induction is with
  | nil => simp [Rows.uptoBulkAll]
  | cons i r ih =>
    have h1 := h i (by simp)
    have h2 := ih fun j hj => h j (by simp [hj])
    simp only [List.map_cons, Rows.uptoBulkAll, List.sum_cons]
    omega
theorem bulk_part {H : Type} (D : Nat → DataW H) (is : List Nat) (i : Nat) (h : i ∈ is) : Rows.uptoBulk (D i) ≤ Rows.uptoBulkAll (is.map D) := by
  induction is with
  | nil => simp at h
  | cons j r ih =>
    simp only [List.map_cons, Rows.uptoBulkAll]
    rcases List.mem_cons.1 h with rfl | h
    · omega
    · have := ih h; omega
theorem bulk_one {H : Type} (d : DataW H) : 1 ≤ Rows.uptoBulk d := by
  cases d with
  | lit l => cases l <;> simp [Rows.uptoBulk]
  | nil => simp [Rows.uptoBulk]
  | ptr d => simp [Rows.uptoBulk]
  | slice elems spare => simp [Rows.uptoBulk]
  | agg parts => simp [Rows.uptoBulk]
  | iface t d => simp [Rows.uptoBulk]
  | map entries => simp [Rows.uptoBulk]
  | held h => simp [Rows.uptoBulk]

section
variable {H : Type} {enc : TypeId × Value → H} {w : World} {base : Nat} {spare : Nat → Bool} {held : Bool}

theorem open_chunk {fuel : Nat} {cs : List Value} {x : DataW H × List MemPlace} (h : DataW.trod enc Try.prog w base spare held fuel 32 cs = some x) :
    ∃ a len cap l, cs = [.slice a len cap] ∧ Sl w a len cap l ∧ len * 3 ≤ Rows.uptoBulk x.1 := by
  rcases open_slice_pairs Try.underlying32 Try.underlying56 (by kernel_rfl) rfl rfl (by kernel_rfl) (by kernel_rfl) h with ⟨rfl, rfl⟩ | ⟨ad, len, cap, m, n, V0, V1, D0, D1, P0, P1, rfl, _, hl, hm, hmm, rfl, hc⟩
  · obtain ⟨l, r1, r2⟩ := open_rows h
    exact ⟨none, 0, 0, l, rfl, ⟨r1, r2⟩, by simp⟩
  · obtain ⟨l, r1, r2⟩ := open_rows h
    refine ⟨some ad, len, cap, l, rfl, ⟨r1, r2⟩, ?_⟩
    have := bulk_all (fun i => DataW.agg [D0 i, D1 i]) (fun _ => 3) (List.range len) (fun i _ => by
      have h1 := bulk_one (D0 i)
      have h2 := bulk_one (D1 i)
      simp only [Rows.uptoBulk, Rows.uptoBulkAll]; omega)
    simp only [Rows.uptoBulk]
    have e : (List.map (fun _ => 3) (List.range len)).sum = len * 3 := by
      rw [List.map_const', List.sum_replicate_nat]; simp
    omega

theorem open_level {fuel : Nat} {cs : List Value} {x : DataW H × List MemPlace} (h : DataW.trod enc Try.prog w base spare held fuel 58 cs = some x) :
    ∃ a len cap L, cs = [.slice a len cap] ∧ LvS w a len cap L ∧ L.flatten.length * 3 ≤ Rows.uptoBulk x.1 := by
  rcases open_slice1 Try.underlying58 (by kernel_rfl) h with ⟨rfl, rfl⟩ | ⟨ad, len, cap, m, n, V, D, Pl, rfl, _, hl, hm, hmm, rfl, hc⟩
  · exact ⟨none, 0, 0, [], rfl, ⟨⟨rfl, Or.inl rfl⟩, Nat.le_refl _, by simp [maxLen], fun _ => ⟨rfl, rfl⟩⟩, by simp⟩
  · have hlm : len ≤ m := by rw [hmm]; split <;> omega
    have each : ∀ i, i < len → ∃ q : (Option Addr × Nat × Nat) × List (Int × Int), w.cell? (ad.add i) = some (.slice q.1.1 q.1.2.1 q.1.2.2) ∧ Sl w q.1.1 q.1.2.1 q.1.2.2 q.2 ∧ q.2.length * 3 ≤ Rows.uptoBulk (D i) := by
      intro i hi
      obtain ⟨c0, t0⟩ := hc i (by omega)
      obtain ⟨a', n', c', l, e, hs, hb⟩ := open_chunk t0
      simp at e
      rw [e] at c0
      exact ⟨((a', n', c'), l), c0, hs, by rw [hs.1.1]; exact hb⟩
    obtain ⟨q, hq⟩ := choose_lt each
    refine ⟨some ad, len, cap, (List.range len).map fun i => (q i).2, rfl, ⟨⟨by simp, ?_⟩, hl, hm, fun h => by simp at h⟩, ?_⟩
    · by_cases h0 : len = 0
      · exact Or.inl h0
      · obtain ⟨b, off, spot⟩ := ad
        have hs : spot = none := by
          have h1 := (hq 0 (by omega)).1
          simpa [Addr.add] using World.cell?_spot h1
        subst hs
        refine Or.inr ⟨b, off, rfl, World.block_lt_of_cell? w _ (hq 0 (by omega)).1, fun i hi => ?_⟩
        have h1 := hq i hi
        rw [Addr.add_lit] at h1
        have e : ((List.range len).map fun i => (q i).2).getD i [] = (q i).2 := by simp [List.getD, hi]
        rw [e]
        exact ⟨_, _, _, h1.1, h1.2.1⟩
    · have := bulk_all D (fun i => (q i).2.length * 3) (List.range len) (fun i hi => (hq i (by simpa using hi)).2.2)
      simp only [Rows.uptoBulk]
      have e : ∀ is : List Nat, (is.map fun i => (q i).2).flatten.length * 3 = (is.map fun i => (q i).2.length * 3).sum := by
        intro is
        induction is with
        | nil => simp
        | cons i r ih => simp only [List.map_cons, List.flatten_cons, List.length_append, List.sum_cons]; omega
      rw [e]
      omega

theorem open_tree {fuel : Nat} {a : Option Addr} {len cap : Nat} {x : DataW H × List MemPlace} (h : DataW.trod enc Try.prog w base spare held fuel 22 [.slice a len cap] = some x) :
    ∃ T, TvS w a len cap T ∧ (flat T).length * 3 ≤ Rows.uptoBulk x.1 := by
  rcases open_slice1 Try.underlying22 (by kernel_rfl) h with ⟨hcs, rfl⟩ | ⟨ad, len', cap', m, n, V, D, Pl, hcs, _, hl, hm, hmm, rfl, hc⟩
  · simp at hcs
    obtain ⟨rfl, rfl, rfl⟩ := hcs
    exact ⟨[], ⟨⟨rfl, Or.inl rfl⟩, Nat.le_refl _, by simp [maxLen], fun _ => ⟨rfl, rfl⟩⟩, by simp [flat, ground]⟩
  · simp at hcs
    obtain ⟨rfl, rfl, rfl⟩ := hcs
    have hlm : len ≤ m := by rw [hmm]; split <;> omega
    have each : ∀ i, i < len → ∃ q : (Option Addr × Nat × Nat) × List (List (Int × Int)), w.cell? (ad.add i) = some (.slice q.1.1 q.1.2.1 q.1.2.2) ∧ LvS w q.1.1 q.1.2.1 q.1.2.2 q.2 ∧ q.2.flatten.length * 3 ≤ Rows.uptoBulk (D i) := by
      intro i hi
      obtain ⟨c0, t0⟩ := hc i (by omega)
      obtain ⟨a', n', c', l, e, hs, hb⟩ := open_level t0
      simp at e
      rw [e] at c0
      exact ⟨((a', n', c'), l), c0, hs, hb⟩
    obtain ⟨q, hq⟩ := choose_lt each
    refine ⟨(List.range len).map fun i => (q i).2, ⟨⟨by simp, ?_⟩, hl, hm, fun h => by simp at h⟩, ?_⟩
    · by_cases h0 : len = 0
      · exact Or.inl h0
      · obtain ⟨b, off, spot⟩ := ad
        have hs : spot = none := by
          have h1 := (hq 0 (by omega)).1
          simpa [Addr.add] using World.cell?_spot h1
        subst hs
        refine Or.inr ⟨b, off, rfl, World.block_lt_of_cell? w _ (hq 0 (by omega)).1, fun i hi => ?_⟩
        have h1 := hq i hi
        rw [Addr.add_lit] at h1
        have e : ((List.range len).map fun i => (q i).2).getD i [] = (q i).2 := by simp [List.getD, hi]
        rw [e]
        exact ⟨_, _, _, h1.1, h1.2.1⟩
    · by_cases h0 : 0 < len
      · have e : flat ((List.range len).map fun i => (q i).2) = (q 0).2.flatten := by
          unfold flat ground
          have : ((List.range len).map fun i => (q i).2).getD 0 [] = (q 0).2 := by simp [List.getD, h0]
          rw [this]
        rw [e]
        have h1 := (hq 0 h0).2.2
        have h2 := bulk_part D (List.range len) 0 (by simpa using h0)
        simp only [Rows.uptoBulk]
        omega
      · obtain rfl : len = 0 := by omega
        simp [flat, ground]
end

theorem big_of {T : List (List (List (Int × Int)))} (h : (flat T).length ≤ 900000) : Big T := by
  intro c hc
  have := (List.sublist_flatten_of_mem hc).length_le
  unfold flat at h
  omega
end Go.Proofs.Ytcgpgflnihjpiac

namespace Go.Proofs.Ytcgpgflnihjpiac
open Go.ChangeShapes Go.WideShapes Go.ChangeAt Go.RowKit

set_option maxHeartbeats 8000000 in
theorem diffTells_walk (a1 a2 : Option Addr) (n1 n2 c1 c2 : Nat) (T U : List (List (List (Int × Int)))) (w : World) (h1 : TvS w a1 n1 c1 T) (f1 : (flat T).length ≤ 900000) (h2 : TvS w a2 n2 c2 U) (f2 : (flat U).length ≤ 900000) :
    Calls Try.prog 7 #[.slice a1 n1 c1, .slice a2 n2 c2] w fun e w' => e = .returned (.bool true) ∧ Below w.heap.size w w' := by
  have begun : Hid (∀ W, Below w.heap.size w W → Calls Try.prog 21 #[] W fun e w' => e = .returned (.bool true) ∧ Below w.heap.size w w' ∧ Below W.heap.size W w') := fun W hW => (diffBegun_any W).mono fun e w' ⟨h, hb⟩ => ⟨h, below2 hW hb, hb⟩
  have P1 : Hid (Calls Try.prog 19 #[.slice a1 n1 c1, .slice a2 n2 c2] w fun e w' => HandsC w w' (difV T U) (difE T U) e) := dof_any a1 a2 n1 n2 c1 c2 T U w h1 (big_of f1) h2 (big_of f2)
  have P2 : Hid (∀ W, Below w.heap.size w W → Calls Try.prog 20 #[.slice a1 n1 c1, .slice a2 n2 c2] W fun e w' => HandsC W w' (difV T U) (difE T U) e) := fun W hW => diffOf_any a1 a2 n1 n2 c1 c2 T U W (h1.below hW) f1 (h2.below hW) f2
  obtain ⟨B, hBB⟩ : ∃ B, B = difV T U := ⟨_, rfl⟩
  obtain ⟨F, hF⟩ : ∃ F, F = difE T U := ⟨_, rfl⟩
  rw [← hBB, ← hF] at P1 P2
  clear h1 h2 f1 f2 hBB hF
  go_enter Try.func7, Try.ntmps7
  go_wp2_with fail
  refine P1.out.mono ?_
  rintro e w1 ⟨ya, yn, yc, rfl, r, g1, g2, q1⟩
  have hyn : yn ≤ 9223372036854775807 := by unfold maxLen at g2; omega
  have Y1 : Hid (Rc w1 ya yn B) := r
  clear r g1 g2
  go_wp2_with fail
  refine (P2.out _ q1).mono ?_
  rintro e w2 ⟨va, vn, vc, rfl, r, g1, g2, ba⟩
  have V2 : Hid (Rc w2 va vn B) := r
  have Y2 : Hid (Rc w2 ya yn B) := Y1.out.below ba (Nat.le_refl _)
  have q2 := below2 q1 ba
  clear r g1 g2 ba Y1 q1
  go_wp2_with fail
  refine (begun.out _ q2).mono ?_
  rintro e w3 ⟨rfl, q3, ba⟩
  have V3 : Hid (Rc w3 va vn B) := V2.out.below ba (Nat.le_refl _)
  have Y3 : Hid (Rc w3 ya yn B) := Y2.out.below ba (Nat.le_refl _)
  clear ba Y2 V2 q2
  go_wp2_with fail
  refine (csame_any _ _ _ _ _ _ _ _ _ Y3.out V3.out hyn).mono ?_
  rintro e w4 ⟨rfl, ba⟩
  have hd3 : decide (B = B) = true := by simp
  have hd4 : (F == F) = true := by simp
  have q4 := below2 q3 ba
  go_wp2
  go_ret
  exact ⟨by simp, q4⟩

set_option maxRecDepth 100000 in
theorem diffTells_contract (H : Type) (enc : TypeId × Value → H) (W : World) (base : Nat) (args : Array Value) (ds gs : List (DataW H)) (before : List MemPlace)
    (hval0 : ∀ (j : Nat) t v, Try.f7.params[j]? = some t → args[j]? = some v → Value.okWide Try.prog W .any base t v)
    (hW : DataW.Whole enc Try.prog Try.f7.params.toList Rows.diffTellsSpec.vars false W args.toList ds gs before) (hk : Rows.uptoSmall H (ds ++ gs) = true) :
    Calls Try.prog 7 args W fun e W' => ∃ v, e = .returned v ∧ Rows.diffTellsSpec.post enc Try.prog Try.f7 false true false false W args v W' := by
  have hval : ∀ (j : Nat) t v, Try.f7.params[j]? = some t → args[j]? = some v → Value.okWide Try.prog W .any base t v := hval0
  have hW' := hW
  obtain ⟨p, q, hA0, hV, rfl, hfz, hnd⟩ := hW
  have hA : DataW.TrodAll enc Try.prog W 0 (fun _ => true) true Try.f7.params.toList args.toList ds p := hA0
  rw [Try.params7] at hA hval
  obtain ⟨v0, vs0, d0, ds0, p0, q0, hargs, rfl, rfl, h0, r0⟩ := trodAll_cons hA
  obtain ⟨v1, vs1, d1, ds1, p1, q1, rfl, rfl, rfl, h1, r1⟩ := trodAll_cons r0
  obtain ⟨rfl, rfl, rfl⟩ := trodAll_nil r1
  obtain rfl : args = #[v0, v1] := by cases args; simp_all
  obtain ⟨rfl, rfl⟩ := trodVars_none hV
  have hk1 : Rows.uptoSmall H [d0, d1] = true := hk
  have hb : Rows.uptoBulkAll [d0, d1] ≤ 1048576 := of_decide_eq_true hk1
  simp only [Rows.uptoBulkAll] at hb
  obtain ⟨a0, len0, cap0, rfl⟩ := okWide_slice Try.underlying22 (hval 0 22 v0 rfl rfl)
  have k0 := h0
  have lt0 : ∀ x ∈ p0, x.block < W.heap.size := by obtain ⟨m, hm⟩ := k0; exact DataW.trod_lt m _ _ _ hm
  obtain ⟨T0, hT0, hfl0⟩ : ∃ T, TvS W a0 len0 cap0 T ∧ (flat T).length * 3 ≤ Rows.uptoBulk d0 := by
    obtain ⟨fuel, hf⟩ := h0
    exact open_tree (by simpa [Value.cells] using hf)
  obtain ⟨a1, len1, cap1, rfl⟩ := okWide_slice Try.underlying22 (hval 1 22 v1 rfl rfl)
  have k1 := h1
  have lt1 : ∀ x ∈ p1, x.block < W.heap.size := by obtain ⟨m, hm⟩ := k1; exact DataW.trod_lt m _ _ _ hm
  obtain ⟨T1, hT1, hfl1⟩ : ∃ T, TvS W a1 len1 cap1 T ∧ (flat T).length * 3 ≤ Rows.uptoBulk d1 := by
    obtain ⟨fuel, hf⟩ := h1
    exact open_tree (by simpa [Value.cells] using hf)
  have hf0 : (flat T0).length ≤ 900000 := by omega
  have hf1 : (flat T1).length ≤ 900000 := by omega
  clear hA0 hval0
  refine (diffTells_walk a0 a1 len0 len1 cap0 cap1 T0 T1 W hT0 hf0 hT1 hf1).mono fun e W' ⟨he, bel⟩ => ?_
  subst he
  exact ⟨_, rfl, _, _, _, [], _, [], hW', trodAll_mk1 (shut_bool Try.underlying4 _), (trodAll_cons_mk (Below.trod laidTry (by kernel_rfl) (of_decide_eq_true (by kernel_rfl)) k0 bel lt0) (trodAll_cons_mk (Below.trod laidTry (by kernel_rfl) (of_decide_eq_true (by kernel_rfl)) k1 bel lt1) trodAll_mk0)), rfl, bel.frame _, fun h => by cases h⟩

set_option maxRecDepth 100000 in
theorem diffTells_lifted (os : Os) (started : os.Started) (H : Type) (enc : TypeId × Value → H) (F : Stop.Interp) :
    ReturnsInHanded {} Try.checked os 7 .any ((Rows.OpenSpec.upto Rows.diffTellsSpec).pre6 enc Try.prog Try.f7 Rows.diffTellsUptoRow.domain false) (((Rows.OpenSpec.upto Rows.diffTellsSpec).at F).post enc Try.prog Try.f7 false true false false) := by
  refine returnsInHanded_of_cond (C := Try.checked) (s := Rows.OpenSpec.upto Rows.diffTellsSpec) (k := Rows.uptoSmall) rfl ownTry started (by kernel_rfl) Try.func7
    (OpenSpec.witness (enc := enc) (C := Try.checked) (s := Rows.OpenSpec.upto Rows.diffTellsSpec) (k := Rows.uptoSmall) rfl false ⟨#[], #[.slice none 0 0, .slice none 0 0], []⟩ 8 (by kernel_rfl) (by kernel_rfl) (by kernel_rfl)
      (x := ([.nil, .nil], [], [])) (by kernel_rfl) rfl (by kernel_rfl)) ?_
  intro W base args ds gs before hval hW _ hk _
  exact diffTells_contract H enc W base args ds gs before hval hW hk

theorem diffTells_holds : Rows.DiffTellsUptoSaid :=
  OpenClaim.holds_of_cond 7 Try.f7 rfl rfl rfl rfl rfl rfl rfl ⟨rfl, rfl, rfl, rfl, rfl⟩ rfl rfl rfl rfl rfl (by kernel_rfl) Try.func7 (by kernel_rfl)
    (of_decide_eq_true (by kernel_rfl)) (by unfold Func.isWrapper; first | (rw [if_pos (by decide +kernel)]; kernel_rfl) | (rw [if_neg (by decide +kernel)]; exact ⟨rfl, rfl⟩))
    (fun os started H enc _ F => diffTells_lifted os started H enc F)
#print axioms diffTells_holds
end Go.Proofs.Ytcgpgflnihjpiac
