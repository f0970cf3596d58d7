/- tree.Root; OwnTree. -/
import Derived.Test.YtcgpgflnihjpiabTCheck
namespace Go.Proofs.Ytcgpgflnihjpiab
open Go.RowKit

theorem root_none (a : Option Addr) (cap : Nat) (w : World) (hT : TvS w a 0 cap []) :
    Calls Try.prog 14 #[.slice a 0 cap] w fun e w' => e = .returned (.tuple #[.int .i64 1, .int .i64 0]) ∧ Below w.heap.size w w' := by
  have HC := tcheck_any a 0 cap [] w hT (by intro c hc; simp [ground] at hc)
  rw [show treeE [] = 0 by rfl] at HC
  have HC1 : Aside (Calls Try.prog 18 #[.slice a 0 cap] w fun e w' => e = .returned (.int .i64 0) ∧ Below w.heap.size w w') := HC
  clear HC hT
  go_enter Try.func14, Try.ntmps14
  go_wp2_with fail
  refine HC1.out.mono ?_
  rintro e w1 ⟨rfl, b1⟩
  go_wp2_with fail
  refine (sum_none none 0 w1).mono ?_
  rintro e w2 ⟨rfl, b2⟩
  go_wp2
  go_ret2
  exact ⟨rfl, below2 b1 b2⟩
def top (T : List (List (List (Int × Int)))) : List (Int × Int) := (T.getD (T.length - 1) []).getD 0 []
set_option maxHeartbeats 2000000 in
theorem root_some (a : Option Addr) (n cap : Nat) (T : List (List (List (Int × Int)))) (w : World) (hT : TvS w a n cap T) (hbig : Big T) (hE : treeE T = 0) (hn : 0 < n) (hn2 : n ≤ 1000) (hl : 0 < (T.getD (n - 1) []).length) :
    Calls Try.prog 14 #[.slice a n cap] w fun e w' => e = .returned (.tuple #[.int .i64 (M.sumV (top T)), .int .i64 (M.chk (top T))]) ∧ Below w.heap.size w w' := by
  have HC := tcheck_any a n cap T w hT hbig
  rw [hE] at HC
  have HC1 : Aside (Calls Try.prog 18 #[.slice a n cap] w fun e w' => e = .returned (.int .i64 0) ∧ Below w.heap.size w w') := HC
  obtain ⟨b, off, rfl, hB, hc⟩ := hT.1.at hn
  obtain ⟨m, rfl⟩ : ∃ m, n = m + 1 := ⟨n - 1, by omega⟩
  rw [Nat.add_sub_cancel] at hl
  obtain ⟨a1, n1, c1, q1, s1⟩ := hc m (by omega)
  rw [s1.1.1] at hl
  obtain ⟨b1, o1, rfl⟩ : ∃ b1 o1, a1 = some ⟨b1, o1, none⟩ := by
    rcases s1.1.2 with e | ⟨b', o', e, _⟩
    · omega
    · exact ⟨b', o', e⟩
  obtain ⟨hB1, hc1⟩ := s1.1.at hl
  obtain ⟨xa, xn, xc, q2, s2⟩ := hc1 0 hl
  obtain ⟨x, hx⟩ : ∃ x, x = top T := ⟨_, rfl⟩
  have ex : (T.getD m []).getD 0 [] = x := by rw [hx, top, hT.1.1, Nat.add_sub_cancel]
  rw [ex] at s2
  rw [← hx]
  have HQ : Aside (∀ W, Below w.heap.size w W → W.cell? ⟨b, off + m, none⟩ = some (.slice (some ⟨b1, o1, none⟩) n1 c1) ∧ W.cell? ⟨b1, o1, none⟩ = some (.slice xa xn xc)) := fun W hW => ⟨(hW.cell (p := ⟨b, off + m, none⟩) hB).trans q1, (hW.cell (p := ⟨b1, o1, none⟩) hB1).trans q2⟩
  have HS : Aside (Sl w xa xn xc x) := s2
  have hn1 := s1.len
  have hmw : IntKind.i64.wrap (m : Int) = (m : Int) := by rw [IntKind.wrap_i64]; omega
  clear HC hT hbig hE q1 q2 s1 s2 hc hc1 hx ex
  go_enter Try.func14, Try.ntmps14
  go_wp2_with fail
  refine HC1.out.mono ?_
  rintro e w1 ⟨rfl, b1'⟩
  obtain ⟨q1, q2⟩ := HQ.out w1 b1'
  go_wp2_with fail
  refine (sum_any xa xn xc x w1 (HS.out.below b1').1 HS.out.len).mono ?_
  rintro e w2 ⟨rfl, b2⟩
  go_wp2
  go_ret2
  exact ⟨rfl, below2 b1' b2⟩

def Small (T : List (List (List (Int × Int)))) : Prop := ∀ L ∈ T, L.length ≤ 1000 ∧ ∀ c ∈ L, c.length ≤ 1000
theorem ownTree_none (a : Option Addr) (cap : Nat) (w : World) :
    Calls Try.prog 34 #[.slice a 0 cap] w fun e w' => e = .returned (.slice none 0 0) ∧ w' = w := by
  go_enter Try.func34, Try.ntmps34
  go_wp2
  refine wp_loop_rounds 1 ?_
  rw [rounds_succ]
  go_wp2
  go_ret
  exact ⟨rfl, rfl⟩

set_option maxHeartbeats 8000000 in
theorem ownTree_some (b0 off0 n cap : Nat) (T : List (List (List (Int × Int)))) (w : World) (hn : 0 < n) (hn2 : n ≤ 1000) (hT : TvS w (some ⟨b0, off0, none⟩) n cap T) (hS : Small T) :
    Calls Try.prog 34 #[.slice (some ⟨b0, off0, none⟩) n cap] w fun e w' => ∃ v, e = .returned v ∧ OwnT w' w.heap.size v T ∧ Below w.heap.size w w' := by
  obtain ⟨i0, hi, hz0, hz1, hz2⟩ := info_parts infoRows
  obtain ⟨j0, hj, hy0, hy1, hy2⟩ := info_parts infoLevels
  have HT : Aside (TvS w (some ⟨b0, off0, none⟩) n cap T) := hT
  have HL : Aside (T.length = n) := hT.1.1
  have HS : Aside (Small T) := hS
  have hB0 : b0 < w.heap.size := by
    obtain ⟨b', o', e, hB, _⟩ := hT.1.at hn
    obtain ⟨rfl, rfl⟩ : b0 = b' ∧ off0 = o' := by simpa using e
    exact hB
  clear hT hS
  go_enter Try.func34, Try.ntmps34
  go_wp2
  go_loopg [3, 4] n (fun g v ix wr => ∃ i : Nat, i + g = n ∧ ix = .int .i64 i ∧ Aside (OwnT wr w.heap.size v (T.take i)) ∧ Below w.heap.size w wr)
  case atStart => exact ⟨0, by omega, rfl, OwnT.nil _ _, Below.refl _ _⟩
  case round =>
    obtain ⟨i, hig, rfl, HO, hbel⟩ := hrel
    have hsz := hbel.size
    by_cases hlt : i < n
    · obtain ⟨b', o', e, _, hc⟩ := HT.out.1.at hn
      obtain ⟨rfl, rfl⟩ : b0 = b' ∧ off0 = o' := by simpa using e
      obtain ⟨a1, n1, c1, q1, s1⟩ := hc i hlt
      obtain ⟨LL, hLL⟩ : ∃ LL, LL = T.getD i [] := ⟨_, rfl⟩
      rw [← hLL] at s1
      have hmem : LL ∈ T := by rw [hLL]; exact getD_memT T [] i (by rw [HL.out]; exact hlt)
      have hsm := HS.out LL hmem
      rw [s1.1.1] at hsm
      obtain ⟨hn1, hsm2⟩ := hsm
      have HSm : Aside (∀ c ∈ LL, c.length ≤ 1000) := hsm2
      have HLv : Aside (LvS w a1 n1 c1 LL) := s1
      have HLn : Aside (LL.length = n1) := s1.1.1
      have ETk : Aside (T.take (i + 1) = T.take i ++ [LL]) := by unfold Aside; rw [hLL]; exact take_snoc T [] i (by rw [HL.out]; exact hlt)
      have HQ : Aside (∀ W, Below w.heap.size w W → W.cell? ⟨b0, off0 + i, none⟩ = some (.slice a1 n1 c1)) := fun W hW => (hW.cell (p := ⟨b0, off0 + i, none⟩) hB0).trans q1
      have hi1 : (i : Int) < (n : Int) := by omega
      obtain ⟨ta, tn, tc, htv, htS⟩ := HO.out.tv
      subst htv
      have hqr := HQ.out wr hbel
      clear hc q1 s1 hLL hmem hsm2 e htS
      obtain ⟨wo, rfl⟩ : ∃ wo, wo = wr := ⟨_, rfl⟩
      go_wp2
      go_loopg [5, 6] n1 (fun g v ix wr' => ∃ k : Nat, k + g = n1 ∧ ix = .int .i64 k ∧ Aside (OwnLL wr' wo.heap.size v (LL.take k)) ∧ Below wo.heap.size wo wr')
      case atStart => exact ⟨0, by omega, rfl, OwnLL.nil _ _, Below.refl _ _⟩
      case round =>
        obtain ⟨k, hkg, rfl, HI, hin⟩ := hrel
        have hsz2 := hin.size
        have hbw : Below w.heap.size w wr := hbel.trans (hin.mono hsz)
        have hq1 := HQ.out wr hbw
        by_cases hk : k < n1
        · obtain ⟨b1, o1, rfl⟩ : ∃ b1 o1, a1 = some ⟨b1, o1, none⟩ := by
            rcases HLv.out.1.2 with e | ⟨b', o', e, _⟩
            · omega
            · exact ⟨b', o', e⟩
          obtain ⟨hB1, hc1⟩ := HLv.out.1.at (by omega)
          obtain ⟨xa, xn, xc, q2, s2⟩ := hc1 k hk
          obtain ⟨x, hx⟩ : ∃ x, x = LL.getD k [] := ⟨_, rfl⟩
          rw [← hx] at s2
          have hxm := HSm.out x (by rw [hx]; exact getD_memT LL [] k (by rw [HLn.out]; exact hk))
          rw [s2.1.1] at hxm
          have ETk2 : Aside (LL.take (k + 1) = LL.take k ++ [x]) := by unfold Aside; rw [hx]; exact take_snoc LL [] k (by rw [HLn.out]; exact hk)
          have hba : Below w.heap.size w (wr.alloc (.cells #[] 43)) := hbw.alloc hbw.size _
          have r1 : (wr.alloc (.cells #[] 43)).cell? ⟨b0, off0 + i, none⟩ = some (.slice (some ⟨b1, o1, none⟩) n1 c1) := HQ.out _ hba
          have r2 : (wr.alloc (.cells #[] 43)).cell? ⟨b1, o1 + k, none⟩ = some (.slice xa xn xc) := (hba.cell (p := ⟨b1, o1 + k, none⟩) hB1).trans q2
          have HEm : Hid (Own (wr.alloc (.cells #[] 43)) wr.heap.size (.slice (some ⟨wr.heap.size, 0, none⟩) 0 0) []) := own_empty0 wr
          have HRd : Hid (Sl (wr.alloc (.cells #[] 43)) xa xn xc x) := s2.below hba
          have hki : (k : Int) < (n1 : Int) := by omega
          have HLk : Aside ((LL.take k).length = k) := by unfold Aside; rw [List.length_take, HLn.out]; omega
          clear hc1 q2 s2 hx
          go_wp2_with (first | (at_builtin; refine append_rd rfl (.tmp 23) (.tmp 30) rfl wr.heap.size _ [] rfl HEm.out xa xn xc x rfl HRd.out.1 HRd.out.2.2.2 (by simp; omega) (by simp) ?_; intro u w2 ho2 hb3; have hb4 : Below wr.heap.size wr w2 := ((Below.refl _ _).alloc (Nat.le_refl _) _).trans hb3; obtain ⟨ua, un, uc, rfl⟩ := own_shape ho2; have HU : Hid (Own w2 wo.heap.size (.slice ua un uc) x) := Own.mono ho2 hsz2; obtain ⟨vals, hrow, hel⟩ := HI.out.kept (grown_none hb4) (fun r e => by cases e); have HRow : Hid (w2.ownsRow wo.heap.size 22 1 u5 (LL.take k).length vals) := hrow; have HEl : Hid (∀ i u, vals[i]? = some u → Own w2 wo.heap.size u ((LL.take k).getD i [])) := hel; have hb5 : Below wo.heap.size wo w2 := hin.trans (hb4.mono hsz2); clear hrow hel ho2 hb3) | (at_builtin; refine wpList_append_own _ rfl (.tmp 22) (.tmp 32) 39 rfl wo.heap.size 22 i0 (.slice none 0 0) 1 24 Try.underlying39 hi hz0 hz1 hz2 rfl (by decide) _ (LL.take k).length vals rfl (World.ownsRow.alloc HRow.out _) ⟨w2.heap.size, 0, none⟩ 1 1 [.slice ua un uc] rfl rfl (cell_one_new _ _ _) (by simp [Value.oneCell']) (by rw [HLk.out]; simp [maxLen]; omega) (by rw [HLk.out]; omega) (by have := hb5.size; simp; omega) ?_; intro v3 w3 hown3 hgrow3 _))
          have HO3 : Aside (OwnLL w3 wo.heap.size v3 (LL.take (k + 1))) := by unfold Aside; rw [ETk2.out]; exact OwnLL.append HRow.out HEl.out HU.out hown3 hgrow3
          have hb6 : Below wo.heap.size wo w3 := (hb5.alloc hb5.size _).grown hgrow3 (by have := hb5.size; simp; omega) (fun r e => (World.ownsRow.lt HRow.out r e).1)
          clear hown3 hgrow3 HRow HEl HU r1 r2 HEm HRd
          go_wp2
          go_roundg (gk - 1)
          case measure => omega
          case rel => exact ⟨k + 1, by omega, by go_num, HO3, hb6⟩
        · obtain rfl : k = n1 := by omega
          have HI1 : Aside (OwnLL wr wo.heap.size u5 LL) := by
            have h5 := HI.out
            rw [List.take_of_length_le (by rw [HLn.out]; omega)] at h5
            exact h5
          obtain ⟨la, ln, lc, rfl, hlv⟩ := HI1.out.lv
          have HOLL : Aside (OwnLL wr w.heap.size (.slice la ln lc) LL) := HI1.out.mono hsz
          obtain ⟨vals, hrow, hel⟩ := HO.out.kept (grown_none hin) (fun r e => by cases e)
          have HRow : Aside (wr.ownsRow w.heap.size 39 1 (.slice ta tn tc) (T.take i).length vals) := hrow
          have HEl : Aside (∀ j u, vals[j]? = some u → OwnLL wr w.heap.size u ((T.take i).getD j [])) := hel
          have HLi : Aside ((T.take i).length = i) := by unfold Aside; rw [List.length_take, HL.out]; omega
          clear hlv hrow hel HI HI1 hk hkg
          go_wp2_with (at_builtin; refine wpList_append_own _ rfl _ _ 23 rfl w.heap.size 39 j0 (.slice none 0 0) 1 24 Try.underlying23 hj hy0 hy1 hy2 rfl (by decide) _ (T.take i).length vals rfl (World.ownsRow.alloc HRow.out _) ⟨wr.heap.size, 0, none⟩ 1 1 [.slice la ln lc] rfl rfl (cell_one_new _ _ _) (by simp [Value.oneCell']) (by rw [HLi.out]; simp [maxLen]; omega) (by rw [HLi.out]; omega) (by have := hbw.size; simp; omega) ?_; intro v3 w3 hown3 hgrow3 _; obtain ⟨hot3, _⟩ := OwnT.append HRow.out HEl.out HOLL.out hown3 hgrow3)
          have HOT3 : Aside (OwnT w3 w.heap.size v3 (T.take (i + 1))) := by unfold Aside; rw [ETk.out]; exact hot3
          have hb3 : Below w.heap.size w w3 := (hbw.alloc hbw.size _).grown hgrow3 (by have := hbw.size; simp; omega) (fun r e => (World.ownsRow.lt HRow.out r e).1)
          clear hown3 hgrow3 hot3
          go_wp2
          go_roundg (n - (i + 1))
          case measure => omega
          case rel => exact ⟨i + 1, by omega, by go_num, HOT3, hb3⟩
    · obtain rfl : i = n := by omega
      have HI1 : Aside (OwnT wr w.heap.size u3 T) := by
        have h5 := HO.out
        rw [List.take_of_length_le (by rw [HL.out]; omega)] at h5
        exact h5
      go_wp2
      go_ret
      exact ⟨_, rfl, HI1.out, hbel⟩
end Go.Proofs.Ytcgpgflnihjpiab
