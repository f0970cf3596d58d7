/- The reference's cut. -/
import Derived.Test.YtcgpgflnihjpiacCutA
import Derived.Test.YtcgpgflnihjpiacRSum
namespace Go.Proofs.Ytcgpgflnihjpiac
open Go.RowKit

theorem rcut_none (a : Option Addr) (cap : Nat) (level : Int) (w : World) :
    Calls Try.prog 61 #[.slice a 0 cap, .int .i64 level] w fun e w' => e = .returned (.slice none 0 0) ∧ w' = w := by
  go_enter Try.func61, Try.ntmps61
  go_wp2
  refine wp_loop_rounds 1 ?_
  rw [rounds_succ]
  go_wp2
  go_ret
  exact ⟨rfl, rfl⟩

set_option maxHeartbeats 8000000 in
theorem rcut_some (b off n cap : Nat) (l : List (Int × Int)) (level : Int) (w : World) (hn : n ≤ 40) (hcap : n ≤ cap) (_hcm : cap ≤ maxLen) (h : Rd w (some ⟨b, off, none⟩) n l) (hB : b < w.heap.size)
    (hc : ∀ i, i < n → w.cell? ⟨b, off + i * 2, none⟩ = some (.int .i64 (l.getD i (0, 0)).1) ∧ w.cell? ⟨b, off + i * 2 + 1, none⟩ = some (.int .i64 (l.getD i (0, 0)).2)) :
    Calls Try.prog 61 #[.slice (some ⟨b, off, none⟩) n cap, .int .i64 level] w fun e w' => ∃ v, e = .returned v ∧ OwnLL w' w.heap.size v (M.cut level l) ∧ Below w.heap.size w w' := by
  obtain ⟨i0, hi, hz0, hz1, hz2⟩ := info_parts infoRows
  have HR : Aside (Rd w (some ⟨b, off, none⟩) n l) := h
  have HC : Aside (∀ i, i < n → w.cell? ⟨b, off + i * 2, none⟩ = some (.int .i64 (l.getD i (0, 0)).1) ∧ w.cell? ⟨b, off + i * 2 + 1, none⟩ = some (.int .i64 (l.getD i (0, 0)).2)) := hc
  have HL : Aside (l.length = n) := h.1
  unfold maxLen at _hcm
  clear hc h
  go_enter Try.func61, Try.ntmps61
  go_wp2
  go_loopg [5, 6, 7] n (fun g v vf vk wr => ∃ (k fr : Nat) (LL : List (List (Int × Int))), k + g = n ∧ fr ≤ k ∧ LL.length ≤ k ∧ vk = .int .i64 k ∧ vf = .int .i64 fr ∧ Aside (OwnLL wr w.heap.size v LL) ∧ Below w.heap.size w wr ∧ Aside (LL ++ M.cut level (l.drop fr) = M.cut level l) ∧ Aside (M.lenFrom level (k - fr) (l.drop k) = M.len level (l.drop fr)) ∧ Aside (k = n → fr = n))
  case atStart => exact ⟨0, 0, [], by omega, by omega, by simp, rfl, rfl, OwnLL.nil _ _, Below.refl _ _, by simp [Aside], by simp [Aside, M.len], fun h => by omega⟩
  case round =>
    obtain ⟨k, fr, LL, hk, hfk, hLLk, rfl, rfl, HO, hbel, HE, HA, HF⟩ := hrel
    have hsz := hbel.size
    by_cases hlt : k < n
    · obtain ⟨x, y, hxy⟩ : ∃ x y, l.getD k (0, 0) = (x, y) := ⟨_, _, rfl⟩
      have c0 : wr.cell? ⟨b, off + k * 2, none⟩ = some (.int .i64 x) := by rw [hbel.cell (p := ⟨b, off + k * 2, none⟩) hB, (HC.out k hlt).1, hxy]
      have c1 : wr.cell? ⟨b, off + k * 2 + 1, none⟩ = some (.int .i64 y) := by rw [hbel.cell (p := ⟨b, off + k * 2 + 1, none⟩) hB, (HC.out k hlt).2, hxy]
      have HXY : Aside (l.getD k (0, 0) = (x, y)) := hxy
      clear hxy
      obtain ⟨e, he⟩ : ∃ e, e = M.ends level x y := ⟨_, rfl⟩
      have HEn : Aside (e = M.ends level x y) := he
      clear he
      cases e with
      | true =>
        by_cases h2 : 2 ≤ k - fr + 1
        · have h2i : (2 : Int) ≤ (k : Int) - (fr : Int) + 1 := by omega
          go_wp2_with (first | (go_at_call 84; refine (endsOf_any x y level _).mono ?_; rintro e w1 ⟨rfl, hb1⟩; rw [← HEn.out]; have HEm : Hid (Own (w1.alloc (.cells #[] 56)) w1.heap.size (.slice (some ⟨w1.heap.size, 0, none⟩) 0 0) []) := own_empty0 w1; have HRd : Hid (Rd (w1.alloc (.cells #[] 56)) (some ⟨b, off + fr * 2, none⟩) (k + 1 - fr) ((l.drop fr).take (k + 1 - fr))) := (((HR.out.below hbel (Nat.le_refl _)).below hb1 (Nat.le_refl _)).below ((Below.refl _ _).alloc (Nat.le_refl _) _) (Nat.le_refl _)).mid fr (k + 1 - fr) (by omega); have HO1 : Hid (OwnLL w1 w.heap.size u5 LL) := HO.out.kept (grown_none hb1) (fun r e => by cases e); have hb2 : Below w.heap.size w w1 := hbel.trans (hb1.mono hsz)) | (at_builtin; refine append_rd rfl (.tmp 41) (.tmp 46) rfl w1.heap.size _ [] rfl HEm.out (some ⟨b, off + fr * 2, none⟩) (k + 1 - fr) (cap - fr) ((l.drop fr).take (k + 1 - fr)) rfl HRd.out (by simp) (by simp; omega) (by simp) ?_; intro u w2 ho2 hb3; have hb4 : Below w1.heap.size w1 w2 := ((Below.refl _ _).alloc (Nat.le_refl _) _).trans hb3; obtain ⟨ua, un, uc, rfl⟩ := own_shape ho2; have HU : Hid (Own w2 w.heap.size (.slice ua un uc) ((l.drop fr).take (k + 1 - fr))) := Own.mono ho2 hb2.size; obtain ⟨vals, hrow, hel⟩ := HO1.out.kept (grown_none hb4) (fun r e => by cases e); have HRow : Hid (w2.ownsRow w.heap.size 32 1 u5 LL.length vals) := hrow; have HEl : Hid (∀ i u, vals[i]? = some u → Own w2 w.heap.size u (LL.getD i [])) := hel; have hb5 : Below w.heap.size w w2 := hb2.trans (hb4.mono hb2.size); clear hrow hel ho2 hb3) | (at_builtin; refine wpList_append_own _ rfl (.tmp 40) (.tmp 48) 58 rfl w.heap.size 32 i0 (.slice none 0 0) 1 24 Try.underlying58 hi hz0 hz1 hz2 rfl (by decide) _ LL.length vals rfl (World.ownsRow.alloc HRow.out _) ⟨w2.heap.size, 0, none⟩ 1 1 [.slice ua un uc] rfl rfl (cell_one_new _ _ _) (by simp [Value.oneCell']) (by simp [maxLen]; omega) (by omega) (by have := hb5.size; simp; omega) ?_; intro v3 w3 hown3 hgrow3 _))
          have HO3 : Aside (OwnLL w3 w.heap.size v3 (LL ++ [(l.drop fr).take (k + 1 - fr)])) := OwnLL.append HRow.out HEl.out HU.out hown3 hgrow3
          have hb6 : Below w.heap.size w w3 := (hb5.alloc hb5.size _).grown hgrow3 (by have := hb5.size; simp; omega) (fun r e => (World.ownsRow.lt HRow.out r e).1)
          clear hown3 hgrow3
          go_wp2
          go_roundg (gk - 1)
          case measure => omega
          case rel => exact ⟨k + 1, k + 1, _, by omega, by omega, by simp; omega, by go_num, by go_num, HO3, hb6, by unfold Aside; rw [← HE.out, M.cut_at hfk (by rw [HL.out]; exact hlt) HA.out x y HXY.out (by rw [← HEn.out, HL.out]; simp; omega), show k - fr + 1 = k + 1 - fr by omega]; simp, by simp [Aside, M.len], fun h => by omega⟩
        · by_cases hl : k + 1 = n
          · have h2i : decide ((2 : Int) ≤ (k : Int) - (fr : Int) + 1) = false := by simp; omega
            have h6i : ((k : Int) - (fr : Int) + 1 == 6) = false := by simp; omega
            have hli : ((k : Int) == (n : Int) - 1) = true := by simp; omega
            have hl2 : n ≤ k + 1 := by omega
            clear hl
            go_wp2_with (first | (go_at_call 84; refine (endsOf_any x y level _).mono ?_; rintro e w1 ⟨rfl, hb1⟩; rw [← HEn.out]; have HEm : Hid (Own (w1.alloc (.cells #[] 56)) w1.heap.size (.slice (some ⟨w1.heap.size, 0, none⟩) 0 0) []) := own_empty0 w1; have HRd : Hid (Rd (w1.alloc (.cells #[] 56)) (some ⟨b, off + fr * 2, none⟩) (k + 1 - fr) ((l.drop fr).take (k + 1 - fr))) := (((HR.out.below hbel (Nat.le_refl _)).below hb1 (Nat.le_refl _)).below ((Below.refl _ _).alloc (Nat.le_refl _) _) (Nat.le_refl _)).mid fr (k + 1 - fr) (by omega); have HO1 : Hid (OwnLL w1 w.heap.size u5 LL) := HO.out.kept (grown_none hb1) (fun r e => by cases e); have hb2 : Below w.heap.size w w1 := hbel.trans (hb1.mono hsz)) | (at_builtin; refine append_rd rfl (.tmp 41) (.tmp 46) rfl w1.heap.size _ [] rfl HEm.out (some ⟨b, off + fr * 2, none⟩) (k + 1 - fr) (cap - fr) ((l.drop fr).take (k + 1 - fr)) rfl HRd.out (by simp) (by simp; omega) (by simp) ?_; intro u w2 ho2 hb3; have hb4 : Below w1.heap.size w1 w2 := ((Below.refl _ _).alloc (Nat.le_refl _) _).trans hb3; obtain ⟨ua, un, uc, rfl⟩ := own_shape ho2; have HU : Hid (Own w2 w.heap.size (.slice ua un uc) ((l.drop fr).take (k + 1 - fr))) := Own.mono ho2 hb2.size; obtain ⟨vals, hrow, hel⟩ := HO1.out.kept (grown_none hb4) (fun r e => by cases e); have HRow : Hid (w2.ownsRow w.heap.size 32 1 u5 LL.length vals) := hrow; have HEl : Hid (∀ i u, vals[i]? = some u → Own w2 w.heap.size u (LL.getD i [])) := hel; have hb5 : Below w.heap.size w w2 := hb2.trans (hb4.mono hb2.size); clear hrow hel ho2 hb3) | (at_builtin; refine wpList_append_own _ rfl (.tmp 40) (.tmp 48) 58 rfl w.heap.size 32 i0 (.slice none 0 0) 1 24 Try.underlying58 hi hz0 hz1 hz2 rfl (by decide) _ LL.length vals rfl (World.ownsRow.alloc HRow.out _) ⟨w2.heap.size, 0, none⟩ 1 1 [.slice ua un uc] rfl rfl (cell_one_new _ _ _) (by simp [Value.oneCell']) (by simp [maxLen]; omega) (by omega) (by have := hb5.size; simp; omega) ?_; intro v3 w3 hown3 hgrow3 _))
            have HO3 : Aside (OwnLL w3 w.heap.size v3 (LL ++ [(l.drop fr).take (k + 1 - fr)])) := OwnLL.append HRow.out HEl.out HU.out hown3 hgrow3
            have hb6 : Below w.heap.size w w3 := (hb5.alloc hb5.size _).grown hgrow3 (by have := hb5.size; simp; omega) (fun r e => (World.ownsRow.lt HRow.out r e).1)
            clear hown3 hgrow3
            go_wp2
            go_roundg (gk - 1)
            case measure => omega
            case rel => exact ⟨k + 1, k + 1, _, by omega, by omega, by simp; omega, by go_num, by go_num, HO3, hb6, by unfold Aside; rw [← HE.out, M.cut_at hfk (by rw [HL.out]; exact hlt) HA.out x y HXY.out (by rw [← HEn.out, HL.out]; simp; omega), show k - fr + 1 = k + 1 - fr by omega]; simp, by simp [Aside, M.len], fun h => by omega⟩
          · have h2i : decide ((2 : Int) ≤ (k : Int) - (fr : Int) + 1) = false := by simp; omega
            have h6i : ((k : Int) - (fr : Int) + 1 == 6) = false := by simp; omega
            have hli : ((k : Int) == (n : Int) - 1) = false := by simp; omega
            go_wp2_with (go_at_call 84; refine (endsOf_any x y level _).mono ?_; rintro e w1 ⟨rfl, hb1⟩; rw [← HEn.out])
            have hb2 := hbel.trans (hb1.mono hsz)
            have HO2 : Aside (OwnLL w1 w.heap.size _ LL) := HO.out.kept (grown_none hb1) (fun r e => by cases e)
            go_roundg (gk - 1)
            case measure => omega
            case rel => exact ⟨k + 1, fr, LL, by omega, by omega, by omega, by go_num, rfl, HO2, hb2, HE, M.cut_on hfk (by rw [HL.out]; exact hlt) HA.out x y HXY.out (by rw [← HEn.out]; simp; omega), fun h => by omega⟩
      | false =>
        by_cases h6 : k - fr + 1 = 6
        · have h6i : ((k : Int) - (fr : Int) + 1 == 6) = true := by simp; omega
          go_wp2_with (first | (go_at_call 84; refine (endsOf_any x y level _).mono ?_; rintro e w1 ⟨rfl, hb1⟩; rw [← HEn.out]; have HEm : Hid (Own (w1.alloc (.cells #[] 56)) w1.heap.size (.slice (some ⟨w1.heap.size, 0, none⟩) 0 0) []) := own_empty0 w1; have HRd : Hid (Rd (w1.alloc (.cells #[] 56)) (some ⟨b, off + fr * 2, none⟩) (k + 1 - fr) ((l.drop fr).take (k + 1 - fr))) := (((HR.out.below hbel (Nat.le_refl _)).below hb1 (Nat.le_refl _)).below ((Below.refl _ _).alloc (Nat.le_refl _) _) (Nat.le_refl _)).mid fr (k + 1 - fr) (by omega); have HO1 : Hid (OwnLL w1 w.heap.size u5 LL) := HO.out.kept (grown_none hb1) (fun r e => by cases e); have hb2 : Below w.heap.size w w1 := hbel.trans (hb1.mono hsz)) | (at_builtin; refine append_rd rfl (.tmp 41) (.tmp 46) rfl w1.heap.size _ [] rfl HEm.out (some ⟨b, off + fr * 2, none⟩) (k + 1 - fr) (cap - fr) ((l.drop fr).take (k + 1 - fr)) rfl HRd.out (by simp) (by simp; omega) (by simp) ?_; intro u w2 ho2 hb3; have hb4 : Below w1.heap.size w1 w2 := ((Below.refl _ _).alloc (Nat.le_refl _) _).trans hb3; obtain ⟨ua, un, uc, rfl⟩ := own_shape ho2; have HU : Hid (Own w2 w.heap.size (.slice ua un uc) ((l.drop fr).take (k + 1 - fr))) := Own.mono ho2 hb2.size; obtain ⟨vals, hrow, hel⟩ := HO1.out.kept (grown_none hb4) (fun r e => by cases e); have HRow : Hid (w2.ownsRow w.heap.size 32 1 u5 LL.length vals) := hrow; have HEl : Hid (∀ i u, vals[i]? = some u → Own w2 w.heap.size u (LL.getD i [])) := hel; have hb5 : Below w.heap.size w w2 := hb2.trans (hb4.mono hb2.size); clear hrow hel ho2 hb3) | (at_builtin; refine wpList_append_own _ rfl (.tmp 40) (.tmp 48) 58 rfl w.heap.size 32 i0 (.slice none 0 0) 1 24 Try.underlying58 hi hz0 hz1 hz2 rfl (by decide) _ LL.length vals rfl (World.ownsRow.alloc HRow.out _) ⟨w2.heap.size, 0, none⟩ 1 1 [.slice ua un uc] rfl rfl (cell_one_new _ _ _) (by simp [Value.oneCell']) (by simp [maxLen]; omega) (by omega) (by have := hb5.size; simp; omega) ?_; intro v3 w3 hown3 hgrow3 _))
          have HO3 : Aside (OwnLL w3 w.heap.size v3 (LL ++ [(l.drop fr).take (k + 1 - fr)])) := OwnLL.append HRow.out HEl.out HU.out hown3 hgrow3
          have hb6 : Below w.heap.size w w3 := (hb5.alloc hb5.size _).grown hgrow3 (by have := hb5.size; simp; omega) (fun r e => (World.ownsRow.lt HRow.out r e).1)
          clear hown3 hgrow3
          go_wp2
          go_roundg (gk - 1)
          case measure => omega
          case rel => exact ⟨k + 1, k + 1, _, by omega, by omega, by simp; omega, by go_num, by go_num, HO3, hb6, by unfold Aside; rw [← HE.out, M.cut_at hfk (by rw [HL.out]; exact hlt) HA.out x y HXY.out (by rw [← HEn.out, HL.out]; simp; omega), show k - fr + 1 = k + 1 - fr by omega]; simp, by simp [Aside, M.len], fun h => by omega⟩
        · by_cases hl : k + 1 = n
          · have h6i : ((k : Int) - (fr : Int) + 1 == 6) = false := by simp; omega
            have hli : ((k : Int) == (n : Int) - 1) = true := by simp; omega
            have hl2 : n ≤ k + 1 := by omega
            clear hl
            go_wp2_with (first | (go_at_call 84; refine (endsOf_any x y level _).mono ?_; rintro e w1 ⟨rfl, hb1⟩; rw [← HEn.out]; have HEm : Hid (Own (w1.alloc (.cells #[] 56)) w1.heap.size (.slice (some ⟨w1.heap.size, 0, none⟩) 0 0) []) := own_empty0 w1; have HRd : Hid (Rd (w1.alloc (.cells #[] 56)) (some ⟨b, off + fr * 2, none⟩) (k + 1 - fr) ((l.drop fr).take (k + 1 - fr))) := (((HR.out.below hbel (Nat.le_refl _)).below hb1 (Nat.le_refl _)).below ((Below.refl _ _).alloc (Nat.le_refl _) _) (Nat.le_refl _)).mid fr (k + 1 - fr) (by omega); have HO1 : Hid (OwnLL w1 w.heap.size u5 LL) := HO.out.kept (grown_none hb1) (fun r e => by cases e); have hb2 : Below w.heap.size w w1 := hbel.trans (hb1.mono hsz)) | (at_builtin; refine append_rd rfl (.tmp 41) (.tmp 46) rfl w1.heap.size _ [] rfl HEm.out (some ⟨b, off + fr * 2, none⟩) (k + 1 - fr) (cap - fr) ((l.drop fr).take (k + 1 - fr)) rfl HRd.out (by simp) (by simp; omega) (by simp) ?_; intro u w2 ho2 hb3; have hb4 : Below w1.heap.size w1 w2 := ((Below.refl _ _).alloc (Nat.le_refl _) _).trans hb3; obtain ⟨ua, un, uc, rfl⟩ := own_shape ho2; have HU : Hid (Own w2 w.heap.size (.slice ua un uc) ((l.drop fr).take (k + 1 - fr))) := Own.mono ho2 hb2.size; obtain ⟨vals, hrow, hel⟩ := HO1.out.kept (grown_none hb4) (fun r e => by cases e); have HRow : Hid (w2.ownsRow w.heap.size 32 1 u5 LL.length vals) := hrow; have HEl : Hid (∀ i u, vals[i]? = some u → Own w2 w.heap.size u (LL.getD i [])) := hel; have hb5 : Below w.heap.size w w2 := hb2.trans (hb4.mono hb2.size); clear hrow hel ho2 hb3) | (at_builtin; refine wpList_append_own _ rfl (.tmp 40) (.tmp 48) 58 rfl w.heap.size 32 i0 (.slice none 0 0) 1 24 Try.underlying58 hi hz0 hz1 hz2 rfl (by decide) _ LL.length vals rfl (World.ownsRow.alloc HRow.out _) ⟨w2.heap.size, 0, none⟩ 1 1 [.slice ua un uc] rfl rfl (cell_one_new _ _ _) (by simp [Value.oneCell']) (by simp [maxLen]; omega) (by omega) (by have := hb5.size; simp; omega) ?_; intro v3 w3 hown3 hgrow3 _))
            have HO3 : Aside (OwnLL w3 w.heap.size v3 (LL ++ [(l.drop fr).take (k + 1 - fr)])) := OwnLL.append HRow.out HEl.out HU.out hown3 hgrow3
            have hb6 : Below w.heap.size w w3 := (hb5.alloc hb5.size _).grown hgrow3 (by have := hb5.size; simp; omega) (fun r e => (World.ownsRow.lt HRow.out r e).1)
            clear hown3 hgrow3
            go_wp2
            go_roundg (gk - 1)
            case measure => omega
            case rel => exact ⟨k + 1, k + 1, _, by omega, by omega, by simp; omega, by go_num, by go_num, HO3, hb6, by unfold Aside; rw [← HE.out, M.cut_at hfk (by rw [HL.out]; exact hlt) HA.out x y HXY.out (by rw [← HEn.out, HL.out]; simp; omega), show k - fr + 1 = k + 1 - fr by omega]; simp, by simp [Aside, M.len], fun h => by omega⟩
          · have h6i : ((k : Int) - (fr : Int) + 1 == 6) = false := by simp; omega
            have hli : ((k : Int) == (n : Int) - 1) = false := by simp; omega
            go_wp2_with (go_at_call 84; refine (endsOf_any x y level _).mono ?_; rintro e w1 ⟨rfl, hb1⟩; rw [← HEn.out])
            have hb2 := hbel.trans (hb1.mono hsz)
            have HO2 : Aside (OwnLL w1 w.heap.size _ LL) := HO.out.kept (grown_none hb1) (fun r e => by cases e)
            go_roundg (gk - 1)
            case measure => omega
            case rel => exact ⟨k + 1, fr, LL, by omega, by omega, by omega, by go_num, rfl, HO2, hb2, HE, M.cut_on hfk (by rw [HL.out]; exact hlt) HA.out x y HXY.out (by rw [← HEn.out]; simp; omega), fun h => by omega⟩
    · obtain rfl : k = n := by omega
      have hfr : fr = k := HF.out rfl
      have E : Aside (LL = M.cut level l) := by
        have h := HE.out
        rw [hfr, List.drop_eq_nil_of_le (by rw [HL.out]; omega), M.cut_nil, List.append_nil] at h
        exact h
      clear hfr
      go_wp2
      go_ret
      exact ⟨_, rfl, by rw [← E.out]; exact HO.out, hbel⟩
theorem rcut_any (a : Option Addr) (n cap : Nat) (l : List (Int × Int)) (level : Int) (w : World) (h : Sl w a n cap l) (h0 : M.chk l = 0) :
    Calls Try.prog 61 #[.slice a n cap, .int .i64 level] w fun e w' => ∃ v, e = .returned v ∧ OwnLL w' w.heap.size v (M.cut level l) ∧ Below w.heap.size w w' := by
  rcases h.1.cases with ⟨rfl, rfl⟩ | ⟨b, off, rfl, hn, hl, hB, hc⟩
  · refine (rcut_none a cap level w).mono ?_
    rintro e w' ⟨rfl, rfl⟩
    exact ⟨_, rfl, OwnLL.nil _ _, Below.refl _ _⟩
  · exact rcut_some b off n cap l level w (by rw [← hl]; exact ((M.chk_zero l).1 h0).1) h.2.1 h.2.2.1 h.1 hB hc

end Go.Proofs.Ytcgpgflnihjpiac
