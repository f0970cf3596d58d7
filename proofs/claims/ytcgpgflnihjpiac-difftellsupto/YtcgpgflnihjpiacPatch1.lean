/- diff.right, diff.checkOld. -/
import Derived.Test.YtcgpgflnihjpiacCh1
import Derived.Test.YtcgpgflnihjpiacFindA
import Derived.Test.YtcgpgflnihjpiacPut
namespace Go.Proofs.Ytcgpgflnihjpiac
open Go.RowKit

theorem valueRight_any (v : Int) (w : World) : Calls Try.prog 79 #[.int .i64 v] w fun e w' => e = .returned (.bool (decide (-1 ≤ v ∧ v ≤ 996))) ∧ w' = w := by
  by_cases h1 : -1 ≤ v
  · by_cases h2 : v ≤ 996
    · rw [decide_eq_true ⟨h1, h2⟩]
      go_enter Try.func79, Try.ntmps79
      go_wp2
      go_ret
      exact ⟨rfl, rfl⟩
    · rw [decide_eq_false (fun h => h2 h.2)]
      have hd : decide (v ≤ 996) = false := by simp; omega
      go_enter Try.func79, Try.ntmps79
      go_wp2
      go_ret
      exact ⟨rfl, rfl⟩
  · rw [decide_eq_false (fun h => h1 h.1)]
    have hd : decide (-1 ≤ v) = false := by simp; omega
    go_enter Try.func79, Try.ntmps79
    go_wp2
    go_ret
    exact ⟨rfl, rfl⟩

theorem dright_none (a : Option Addr) (cap : Nat) (w : World) :
    Calls Try.prog 49 #[.slice a 0 cap] w fun e w' => e = .returned (.bool true) ∧ w' = w := by
  go_enter Try.func49, Try.ntmps49
  go_wp2
  refine wp_loop_rounds 1 ?_
  rw [rounds_succ]
  go_wp2
  go_ret
  exact ⟨rfl, rfl⟩

set_option maxHeartbeats 8000000 in
theorem dright_some (b off n cap : Nat) (l : List M.Chg) (w : World) (hm : n ≤ 9223372036854775807) (hl : l.length = n) (hB : b < w.heap.size)
    (hc : ∀ i, i < n → w.cell? ⟨b, off + i * 3, none⟩ = some (.int .i64 (l.getD i (0, 0, 0)).1) ∧ w.cell? ⟨b, off + i * 3 + 1, none⟩ = some (.int .i64 (l.getD i (0, 0, 0)).2.1) ∧ w.cell? ⟨b, off + i * 3 + 2, none⟩ = some (.int .i64 (l.getD i (0, 0, 0)).2.2)) :
    Calls Try.prog 49 #[.slice (some ⟨b, off, none⟩) n cap] w fun e w' => e = .returned (.bool (M.fine l)) ∧ Below w.heap.size w w' := by
  have HC : Aside (∀ i, i < n → w.cell? ⟨b, off + i * 3, none⟩ = some (.int .i64 (l.getD i (0, 0, 0)).1) ∧ w.cell? ⟨b, off + i * 3 + 1, none⟩ = some (.int .i64 (l.getD i (0, 0, 0)).2.1) ∧ w.cell? ⟨b, off + i * 3 + 2, none⟩ = some (.int .i64 (l.getD i (0, 0, 0)).2.2)) := hc
  have HL : Aside (l.length = n) := hl
  have HVR : Aside (∀ v W, Calls Try.prog 79 #[.int .i64 v] W fun e w' => e = .returned (.bool (decide (-1 ≤ v ∧ v ≤ 996))) ∧ w' = W) := valueRight_any
  clear hc hl
  go_enter Try.func49, Try.ntmps49
  go_wp2
  go_loopg [3, 8] n (fun g ah i wr => ∃ (k : Nat) (q : Int), k + g = n ∧ i = .int .i64 k ∧ ah = .int .i64 q ∧ Below w.heap.size w wr ∧ Aside (M.fineF q (l.drop k) = M.fine l))
  case atStart => exact ⟨0, -1, by omega, rfl, rfl, Below.refl _ _, by simp [Aside, M.fine]⟩
  case round =>
    obtain ⟨k, q, hk, rfl, rfl, hbel, A⟩ := hrel
    have hsz := hbel.size
    by_cases hlt : k < n
    · obtain ⟨x, y, z, hxyz⟩ : ∃ x y z, l.getD k (0, 0, 0) = (x, y, z) := ⟨_, _, _, rfl⟩
      obtain ⟨k1, k2, k3⟩ := HC.out k hlt
      rw [hxyz] at k1 k2 k3
      have c0 : wr.cell? ⟨b, off + k * 3, none⟩ = some (.int .i64 x) := (hbel.cell (p := ⟨b, off + k * 3, none⟩) hB).trans k1
      have c1 : wr.cell? ⟨b, off + k * 3 + 1, none⟩ = some (.int .i64 y) := (hbel.cell (p := ⟨b, off + k * 3 + 1, none⟩) hB).trans k2
      have c2 : wr.cell? ⟨b, off + k * 3 + 2, none⟩ = some (.int .i64 z) := (hbel.cell (p := ⟨b, off + k * 3 + 2, none⟩) hB).trans k3
      have HX : Aside (l.getD k (0, 0, 0) = (x, y, z)) := hxyz
      have hkl : Aside (k < l.length) := by unfold Aside; rw [HL.out]; exact hlt
      have hki : (k : Int) < (n : Int) := by omega
      clear hxyz k1 k2 k3
      have bad : (x ≤ q ∨ 99 < x ∨ y < -1 ∨ 996 < y ∨ z < -1 ∨ 996 < z ∨ y = z) → Aside (M.fine l = false) := fun h => A.out.symm.trans (M.fineF_bad q l k hkl.out x y z HX.out h)
      by_cases h1 : x ≤ q
      · have hd : decide (x ≤ q) = true := by simp [h1]
        have HF := bad (Or.inl h1)
        clear bad
        go_wp2
        go_ret
        exact ⟨ret_bool HF.out.symm, hbel.alloc hsz _⟩
      · have hd : decide (x ≤ q) = false := by simp; omega
        by_cases h2 : 99 < x
        · have hd2 : decide (99 < x) = true := by simp [h2]
          have HF := bad (Or.inr (Or.inl h2))
          clear bad
          go_wp2
          go_ret
          exact ⟨ret_bool HF.out.symm, hbel.alloc hsz _⟩
        · have hd2 : decide (99 < x) = false := by simp; omega
          by_cases h3 : -1 ≤ y ∧ y ≤ 996
          · have hv3 : decide (-1 ≤ y ∧ y ≤ 996) = true := decide_eq_true h3
            have C3 : Hid (∀ W, Calls Try.prog 79 #[.int .i64 y] W fun e w' => e = .returned (.bool true) ∧ w' = W) := fun W => by have := HVR.out y W; rwa [hv3] at this
            by_cases h4 : -1 ≤ z ∧ z ≤ 996
            · have hv4 : decide (-1 ≤ z ∧ z ≤ 996) = true := decide_eq_true h4
              have C4 : Hid (∀ W, Calls Try.prog 79 #[.int .i64 z] W fun e w' => e = .returned (.bool true) ∧ w' = W) := fun W => by have := HVR.out z W; rwa [hv4] at this
              by_cases h5 : y = z
              · have hd5 : (y == z) = true := by simp [h5]
                have HF := bad (by omega)
                clear bad hv3 hv4 h5 h3 h4
                go_wp2_with fail
                refine (C3.out _).mono ?_
                rintro e w1 ⟨rfl, hw⟩
                subst hw
                go_wp2_with fail
                refine (C4.out _).mono ?_
                rintro e w1 ⟨rfl, hw⟩
                subst hw
                go_wp2
                go_ret
                exact ⟨ret_bool HF.out.symm, hbel.alloc hsz _⟩
              · have hd5 : (y == z) = false := by simp [h5]
                have A2 : Aside (M.fineF x (l.drop (k + 1)) = M.fine l) := by unfold Aside; rw [← A.out, M.fineF_good q l k hkl.out x y z HX.out (by omega)]
                clear bad hv3 hv4 h5 h3 h4
                go_wp2_with fail
                refine (C3.out _).mono ?_
                rintro e w1 ⟨rfl, hw⟩
                subst hw
                go_wp2_with fail
                refine (C4.out _).mono ?_
                rintro e w1 ⟨rfl, hw⟩
                subst hw
                go_wp2
                go_roundg (gk - 1)
                case measure => omega
                case rel => exact ⟨k + 1, x, by omega, by go_num, rfl, hbel.alloc hsz _, A2⟩
            · have hv4 : decide (-1 ≤ z ∧ z ≤ 996) = false := decide_eq_false h4
              have C4 : Hid (∀ W, Calls Try.prog 79 #[.int .i64 z] W fun e w' => e = .returned (.bool false) ∧ w' = W) := fun W => by have := HVR.out z W; rwa [hv4] at this
              have HF := bad (by omega)
              clear bad hv3 hv4 h3 h4
              go_wp2_with fail
              refine (C3.out _).mono ?_
              rintro e w1 ⟨rfl, hw⟩
              subst hw
              go_wp2_with fail
              refine (C4.out _).mono ?_
              rintro e w1 ⟨rfl, hw⟩
              subst hw
              go_wp2
              go_ret
              exact ⟨ret_bool HF.out.symm, hbel.alloc hsz _⟩
          · have hv3 : decide (-1 ≤ y ∧ y ≤ 996) = false := decide_eq_false h3
            have C3 : Hid (∀ W, Calls Try.prog 79 #[.int .i64 y] W fun e w' => e = .returned (.bool false) ∧ w' = W) := fun W => by have := HVR.out y W; rwa [hv3] at this
            have HF := bad (by omega)
            clear bad hv3 h3
            go_wp2_with fail
            refine (C3.out _).mono ?_
            rintro e w1 ⟨rfl, hw⟩
            subst hw
            go_wp2
            go_ret
            exact ⟨ret_bool HF.out.symm, hbel.alloc hsz _⟩
    · go_wp2
      go_ret
      exact ⟨ret_bool (A.out.symm.trans (M.fineF_end q l k (by rw [HL.out]; omega))).symm, hbel⟩
theorem dright_any (a : Option Addr) (n cap : Nat) (l : List M.Chg) (w : World) (h : Rc w a n l) (hm : n ≤ 9223372036854775807) :
    Calls Try.prog 49 #[.slice a n cap] w fun e w' => e = .returned (.bool (M.fine l)) ∧ Below w.heap.size w w' := by
  rcases h.cases with ⟨rfl, rfl⟩ | ⟨b, off, rfl, hn, hl, hB, hc⟩
  · refine (dright_none a cap w).mono ?_
    rintro e w' ⟨rfl, rfl⟩
    exact ⟨rfl, Below.refl _ _⟩
  · exact dright_some b off n cap l w hm hl hB hc

/-! ### checkOld, of right rows and changes -/
theorem checkOld_none (v : Value) (a : Option Addr) (cap : Nat) (w : World) :
    Calls Try.prog 50 #[v, .slice a 0 cap] w fun e w' => e = .returned (.int .i64 0) ∧ w' = w := by
  go_enter Try.func50, Try.ntmps50
  go_wp2
  refine wp_loop_rounds 1 ?_
  rw [rounds_succ]
  go_wp2
  go_ret
  exact ⟨rfl, rfl⟩
set_option maxHeartbeats 4000000 in
theorem checkOld_some (a : Option Addr) (n cap : Nat) (l : List (Int × Int)) (b off m mcap : Nat) (d : List M.Chg) (w : World) (h : Rd w a n l) (hz : M.chk l = 0) (hf : M.Fine (-1) d) (hl : d.length = m) (hB : b < w.heap.size)
    (hc : ∀ i, i < m → w.cell? ⟨b, off + i * 3, none⟩ = some (.int .i64 (d.getD i (0, 0, 0)).1) ∧ w.cell? ⟨b, off + i * 3 + 1, none⟩ = some (.int .i64 (d.getD i (0, 0, 0)).2.1) ∧ w.cell? ⟨b, off + i * 3 + 2, none⟩ = some (.int .i64 (d.getD i (0, 0, 0)).2.2)) :
    Calls Try.prog 50 #[.slice a n cap, .slice (some ⟨b, off, none⟩) m mcap] w fun e w' => e = .returned (.int .i64 (if M.clashF l d = true then 7 else 0)) ∧ Below w.heap.size w w' := by
  have hn : n ≤ 40 := by rw [← h.1]; exact ((M.chk_zero l).1 hz).1
  have hm100 : m ≤ 100 := by have := hf.len (by omega); omega
  have HC : Aside (∀ i, i < m → w.cell? ⟨b, off + i * 3, none⟩ = some (.int .i64 (d.getD i (0, 0, 0)).1) ∧ w.cell? ⟨b, off + i * 3 + 1, none⟩ = some (.int .i64 (d.getD i (0, 0, 0)).2.1) ∧ w.cell? ⟨b, off + i * 3 + 2, none⟩ = some (.int .i64 (d.getD i (0, 0, 0)).2.2)) := hc
  have HL : Aside (d.length = m) := hl
  have HFi : Aside (M.Fine (-1) d) := hf
  have F1 : Aside (∀ W (x : Int), Below w.heap.size w W → 0 ≤ x → x ≤ 99 → Calls Try.prog 18 #[.slice a n cap, .int .i64 x] W fun e w' => e = .returned (.tuple #[.int .i64 (M.find x l), .int .i64 0]) ∧ Below W.heap.size W w') := fun W x hW h0 h1 => by
    have H := find_any a n cap l x W (h.below hW (Nat.le_refl _)) (by omega)
    have e := M.asked_ok hz (key := x) h0 h1
    rw [M.findV_ok e, e] at H
    exact H
  obtain ⟨r, hr⟩ : ∃ r, r = (if M.clashF l d = true then (7 : Int) else 0) := ⟨_, rfl⟩
  rw [← hr]
  have HRr : Aside (r = (if M.clashF l d = true then (7 : Int) else 0)) := hr
  clear hc hl h hz hf hr
  go_enter Try.func50, Try.ntmps50
  go_wp2
  go_loopg [11] m (fun g i wr => ∃ (k : Nat), k + g = m ∧ i = .int .i64 k ∧ Below w.heap.size w wr ∧ Aside (M.clashF l (d.drop k) = M.clashF l d))
  case atStart => exact ⟨0, by omega, rfl, Below.refl _ _, by simp [Aside]⟩
  case round =>
    obtain ⟨k, hk, rfl, hbel, A⟩ := hrel
    have hsz := hbel.size
    by_cases hlt : k < m
    · obtain ⟨x, y, z, hxyz⟩ : ∃ x y z, d.getD k (0, 0, 0) = (x, y, z) := ⟨_, _, _, rfl⟩
      obtain ⟨k1, k2, k3⟩ := HC.out k hlt
      rw [hxyz] at k1 k2 k3
      have c0 : wr.cell? ⟨b, off + k * 3, none⟩ = some (.int .i64 x) := (hbel.cell (p := ⟨b, off + k * 3, none⟩) hB).trans k1
      have c1 : wr.cell? ⟨b, off + k * 3 + 1, none⟩ = some (.int .i64 y) := (hbel.cell (p := ⟨b, off + k * 3 + 1, none⟩) hB).trans k2
      have c2 : wr.cell? ⟨b, off + k * 3 + 2, none⟩ = some (.int .i64 z) := (hbel.cell (p := ⟨b, off + k * 3 + 2, none⟩) hB).trans k3
      have hfx := HFi.out.1 _ (M.gmem d k (by rw [HL.out]; exact hlt))
      rw [hxyz] at hfx
      have hx0 : 0 ≤ x := by have := hfx.1; show 0 ≤ x; have e : (-1 : Int) < x := this; omega
      have hx1 : x ≤ 99 := hfx.2.1
      have hA := A.out
      rw [M.gdrop d k (by rw [HL.out]; exact hlt), hxyz] at hA
      have hA2 : (decide (M.find x l ≠ y) || M.clashF l (d.drop (k + 1))) = M.clashF l d := hA
      have hki : (k : Int) < (m : Int) := by omega
      obtain ⟨Wa, hWa⟩ : ∃ Wa, Wa = wr.alloc (.cells #[.int .i64 x, .int .i64 y, .int .i64 z] 50) := ⟨_, rfl⟩
      have hba : Below w.heap.size w Wa := by rw [hWa]; exact hbel.alloc hsz _
      have q1 : Wa.cell? ⟨wr.heap.size, 1, none⟩ = some (.int .i64 y) := by rw [hWa]; simp [go_sem]
      have hWs : wr.heap.size < Wa.heap.size := by rw [hWa]; simp
      obtain ⟨v, hv⟩ : ∃ v, v = M.find x l := ⟨_, rfl⟩
      rw [← hv] at hA2
      have K1 := F1.out Wa x hba hx0 hx1
      rw [← hv] at K1
      have KK : Hid (Calls Try.prog 18 #[.slice a n cap, .int .i64 x] Wa fun e w' => e = .returned (.tuple #[.int .i64 v, .int .i64 0]) ∧ Below Wa.heap.size Wa w') := K1
      have HA2 : Aside ((decide (v ≠ y) || M.clashF l (d.drop (k + 1))) = M.clashF l d) := hA2
      have HWa : Hid (Wa = wr.alloc (.cells #[.int .i64 x, .int .i64 y, .int .i64 z] 50)) := hWa
      have HQ1 : Hid (Wa.cell? ⟨wr.heap.size, 1, none⟩ = some (.int .i64 y)) := q1
      clear K1 hv hA hA2 hfx hxyz k1 k2 k3 hWa q1 A
      go_wp2_with fail
      rw [← HWa.out]
      refine KK.out.mono ?_
      rintro e w1 ⟨rfl, hb1⟩
      have c4 : w1.cell? ⟨wr.heap.size, 1, none⟩ = some (.int .i64 y) := (hb1.cell (p := ⟨wr.heap.size, 1, none⟩) hWs).trans HQ1.out
      have hb2 := hba.trans (hb1.mono hba.size)
      clear hb1 KK
      by_cases hvy : v = y
      · have hb : (v != y) = false := by simp [hvy]
        have A2 : Aside (M.clashF l (d.drop (k + 1)) = M.clashF l d) := by unfold Aside; rw [← HA2.out]; simp [hvy]
        clear hvy
        go_wp2
        go_roundg (gk - 1)
        case measure => omega
        case rel => exact ⟨k + 1, by omega, by go_num, hb2, A2⟩
      · have hb : (v != y) = true := by simp [hvy]
        have A2 : Aside (r = 7) := by unfold Aside; rw [HRr.out, ← HA2.out]; simp [hvy]
        clear hvy
        go_wp2
        go_ret
        exact ⟨ret_int A2.out.symm, hb2⟩
    · have A2 : Aside (r = 0) := by unfold Aside; rw [HRr.out, ← A.out, List.drop_eq_nil_of_le (by rw [HL.out]; omega)]; rfl
      go_wp2
      go_ret
      exact ⟨ret_int A2.out.symm, hbel⟩
end Go.Proofs.Ytcgpgflnihjpiac
