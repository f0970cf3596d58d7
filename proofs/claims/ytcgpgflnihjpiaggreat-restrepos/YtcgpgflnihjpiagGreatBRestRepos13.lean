/- RMerge. -/
import Derived.Test.YtcgpgflnihjpiagGreatBRestRepos08
import Derived.Test.YtcgpgflnihjpiagGreatBRestRepos07
import Derived.Test.YtcgpgflnihjpiagGreatBRestRepos11
namespace Go.Proofs.YtcgpgflnihjpiagGreat
open Go.RowKit
theorem all_onem (cs : Array Value) (f : Nat → Int) (h : cs.size = 100) (hc : ∀ i : Nat, i < 100 → cs[i]? = some (.int .i64 (f i))) : cs.all (·.oneCell') = true := by
  refine Array.all_eq_true_iff_forall_mem.2 fun v hv => ?_
  obtain ⟨j, hj, e⟩ := Array.mem_iff_getElem.1 hv
  have h2 := hc j (by rw [← h]; exact hj)
  rw [Array.getElem?_eq_getElem hj, e] at h2
  cases h2
  rfl
set_option maxRecDepth 100000 in
set_option maxHeartbeats 16000000 in
theorem mergeOf_good (a1 a2 a3 : Option Addr) (n1 n2 n3 c1 c2 c3 : Nat) (b l m : List (Int × Int)) (w : World) (h1 : Rd w a1 n1 b) (h2 : Rd w a2 n2 l) (h3 : Rd w a3 n3 m) (z1 : M.chk b = 0) (z2 : M.chk l = 0) (z3 : M.chk m = 0) :
    Calls Tryz.prog 102 #[.slice a1 n1 c1, .slice a2 n2 c2, .slice a3 n3 c3] w fun e w' => Hands3O w w' (M.mergeV b l m) (M.mergeK b l m) (M.mergeE b l m) e := by
  obtain ⟨Z, hZ, hz⟩ := zeroTable
  have k1 : n1 ≤ 40 := by rw [← h1.1]; exact ((M.chk_zero b).1 z1).1
  have k2 : n2 ≤ 40 := by rw [← h2.1]; exact ((M.chk_zero l).1 z2).1
  have k3 : n3 ≤ 40 := by rw [← h3.1]; exact ((M.chk_zero m).1 z3).1
  have H1 : Hid (Rd w a1 n1 b) := h1
  have H2 : Hid (Rd w a2 n2 l) := h2
  have H3 : Hid (Rd w a3 n3 m) := h3
  have e0 : M.mergeE b l m = if 40 < (M.mrows b l m).length then 2 else 0 := by unfold M.mergeE; rw [z1, z2, z3]; simp
  have HE0 : Hid (M.mergeE b l m = if 40 < (M.mrows b l m).length then 2 else 0) := e0
  have E1 : Hid (∀ W, Below w.heap.size w W → Calls Tryz.prog 16 #[.slice a1 n1 c1] W fun e w' => e = .returned (.int .i64 0) ∧ Below W.heap.size W w') := fun W hW => by have := error_any a1 n1 c1 b W (h1.below hW (Nat.le_refl _)) (by omega); rwa [z1] at this
  have E2 : Hid (∀ W, Below w.heap.size w W → Calls Tryz.prog 16 #[.slice a2 n2 c2] W fun e w' => e = .returned (.int .i64 0) ∧ Below W.heap.size W w') := fun W hW => by have := error_any a2 n2 c2 l W (h2.below hW (Nat.le_refl _)) (by omega); rwa [z2] at this
  have E3 : Hid (∀ W, Below w.heap.size w W → Calls Tryz.prog 16 #[.slice a3 n3 c3] W fun e w' => e = .returned (.int .i64 0) ∧ Below W.heap.size W w') := fun W hW => by have := error_any a3 n3 c3 m W (h3.below hW (Nat.le_refl _)) (by omega); rwa [z3] at this
  obtain ⟨Wa, hWa⟩ : ∃ Wa, Wa = w.alloc (.cells #[.slice a1 n1 c1, .slice a2 n2 c2, .slice a3 n3 c3] 47) := ⟨_, rfl⟩
  have ba : Below w.heap.size w Wa := by rw [hWa]; exact (Below.refl _ _).alloc (Nat.le_refl _) _
  have hWs : w.heap.size < Wa.heap.size := by rw [hWa]; simp
  have q0 : Wa.cell? ⟨w.heap.size, 0, none⟩ = some (.slice a1 n1 c1) := by rw [hWa]; simp [go_sem]
  have q1 : Wa.cell? ⟨w.heap.size, 1, none⟩ = some (.slice a2 n2 c2) := by rw [hWa]; simp [go_sem]
  have q2 : Wa.cell? ⟨w.heap.size, 2, none⟩ = some (.slice a3 n3 c3) := by rw [hWa]; simp [go_sem]
  have HWa : Hid (Wa = w.alloc (.cells #[.slice a1 n1 c1, .slice a2 n2 c2, .slice a3 n3 c3] 47)) := hWa
  clear h1 h2 h3 z1 z2 z3 e0 hWa
  go_enter Tryz.func102, Tryz.ntmps102
  go_wp2
  rw [← HWa.out]
  refine wp_loop_rounds 4 ?_
  rw [rounds_succ]
  go_wp2_with fail
  refine (E1.out _ ba).mono ?_
  rintro e w1 ⟨rfl, hb1⟩
  have b1 := ba.trans (hb1.mono ba.size)
  have p1 : w1.cell? ⟨w.heap.size, 1, none⟩ = some (.slice a2 n2 c2) := (hb1.cell (p := ⟨w.heap.size, 1, none⟩) hWs).trans q1
  have p2 : w1.cell? ⟨w.heap.size, 2, none⟩ = some (.slice a3 n3 c3) := (hb1.cell (p := ⟨w.heap.size, 2, none⟩) hWs).trans q2
  have hs1 : w.heap.size < w1.heap.size := Nat.lt_of_lt_of_le hWs hb1.size
  clear q0 q1 q2 hb1 hWs ba HWa
  go_wp2
  rw [rounds_succ]
  go_wp2_with fail
  refine (E2.out _ b1).mono ?_
  rintro e w2 ⟨rfl, hb2⟩
  have b2 := b1.trans (hb2.mono b1.size)
  have r2 : w2.cell? ⟨w.heap.size, 2, none⟩ = some (.slice a3 n3 c3) := (hb2.cell (p := ⟨w.heap.size, 2, none⟩) hs1).trans p2
  clear p1 p2 hb2 b1 hs1
  go_wp2
  rw [rounds_succ]
  go_wp2_with fail
  refine (E3.out _ b2).mono ?_
  rintro e w3 ⟨rfl, hb3⟩
  have b3 := b2.trans (hb3.mono b2.size)
  clear r2 hb3 b2
  go_wp2
  rw [rounds_succ]
  go_wp2_with fail
  refine (spread_any a1 n1 c1 b _ (H1.out.below b3 (Nat.le_refl _)) k1).mono ?_
  rintro e w4 ⟨cx, rfl, hcx, hfx, hb4⟩
  have b4 := b3.trans (hb4.mono b3.size)
  have HCX : Aside (cx.size = 100) := hcx
  have HFX : Aside (∀ i : Nat, i < 100 → cx[i]? = some (.int .i64 (M.find i b))) := hfx
  clear hcx hfx hb4 b3
  go_wp2_with fail
  refine (spread_any a2 n2 c2 l _ (H2.out.below b4 (Nat.le_refl _)) k2).mono ?_
  rintro e w5 ⟨cy, rfl, hcy, hfy, hb5⟩
  have b5 := b4.trans (hb5.mono b4.size)
  have HCY : Aside (cy.size = 100) := hcy
  have HFY : Aside (∀ i : Nat, i < 100 → cy[i]? = some (.int .i64 (M.find i l))) := hfy
  clear hcy hfy hb5 b4
  go_wp2_with fail
  refine (spread_any a3 n3 c3 m _ (H3.out.below b5 (Nat.le_refl _)) k3).mono ?_
  rintro e w6 ⟨cz, rfl, hcz, hfz, hb6⟩
  have b6 := b5.trans (hb6.mono b5.size)
  have HCZ : Aside (cz.size = 100) := hcz
  have HFZ : Aside (∀ i : Nat, i < 100 → cz[i]? = some (.int .i64 (M.find i m))) := hfz
  clear hcz hfz hb6 b5 E1 E2 E3 H1 H2 H3
  obtain ⟨S, hS⟩ : ∃ S, S = w6.heap.size := ⟨_, rfl⟩
  obtain ⟨V3, hV3⟩ : ∃ V3, V3 = ((w6.alloc (.cells Z 170)).alloc (.cells Z 170)).alloc (.cells Z 170) := ⟨_, rfl⟩
  have g0 : V3.heap[S]? = some (.cells Z 170 (0, 0)) := by rw [hV3, hS]; exact (Below.heap_alloc _ _ _ (by simp; omega)).trans ((Below.heap_alloc _ _ _ (by simp)).trans (heap_alloc_new w6 _))
  have g1 : V3.heap[S + 1]? = some (.cells Z 170 (0, 0)) := by rw [hV3, hS]; exact (Below.heap_alloc _ _ _ (by simp)).trans (by rw [show w6.heap.size + 1 = (w6.alloc (.cells Z 170)).heap.size by simp]; exact heap_alloc_new _ _)
  have g2 : V3.heap[S + 1 + 1]? = some (.cells Z 170 (0, 0)) := by rw [hV3, hS, show w6.heap.size + 1 + 1 = ((w6.alloc (.cells Z 170)).alloc (.cells Z 170)).heap.size by simp]; exact heap_alloc_new _ _
  have bV3 : Below w6.heap.size w6 V3 := by rw [hV3]; exact (((Below.refl _ _).alloc (Nat.le_refl _) _).alloc (by simp) _).alloc (by simp; omega) _
  obtain ⟨V4, hV4⟩ : ∃ V4, V4 = V3.setRow S cx := ⟨_, rfl⟩
  obtain ⟨V5, hV5⟩ : ∃ V5, V5 = V4.setRow (S + 1) cy := ⟨_, rfl⟩
  obtain ⟨V6, hV6⟩ : ∃ V6, V6 = V5.setRow (S + 1 + 1) cz := ⟨_, rfl⟩
  have g4 : V4.heap[S + 1]? = some (.cells Z 170 (0, 0)) := by rw [hV4]; exact (setRow_other _ _ _ _ (by omega)).trans g1
  have g5 : V5.heap[S + 1 + 1]? = some (.cells Z 170 (0, 0)) := by rw [hV5, setRow_other _ _ _ _ (by omega), hV4]; exact (setRow_other _ _ _ _ (by omega)).trans g2
  have GX : Aside (V6.heap[S]? = some (.cells cx 170 (0, 0))) := by unfold Aside; rw [hV6, setRow_other _ _ _ _ (by omega), hV5, setRow_other _ _ _ _ (by omega), hV4]; exact setRow_heap _ _ Z cx _ _ g0
  have GY : Aside (V6.heap[S + 1]? = some (.cells cy 170 (0, 0))) := by unfold Aside; rw [hV6, setRow_other _ _ _ _ (by omega), hV5]; exact setRow_heap _ _ Z cy _ _ g4
  have GZ : Aside (V6.heap[S + 1 + 1]? = some (.cells cz 170 (0, 0))) := by unfold Aside; rw [hV6]; exact setRow_heap _ _ Z cz _ _ g5
  have hV6s : V6.heap.size = S + 1 + 1 + 1 := by rw [hV6, hV5, hV4, hV3, hS]; simp
  have bV6 : Below w6.heap.size w6 V6 := by rw [hV6, hV5, hV4]; exact below_setRow (below_setRow (below_setRow bV3 (by omega) _) (by omega) _) (by omega) _
  have b7 : Below w.heap.size w V6 := b6.trans (bV6.mono b6.size)
  have hwS : w.heap.size ≤ S := by rw [hS]; exact b6.size
  have G0 : Hid (V3.heap[S]? = some (.cells Z 170 (0, 0))) := g0
  have G4 : Hid (V4.heap[S + 1]? = some (.cells Z 170 (0, 0))) := g4
  have G5 : Hid (V5.heap[S + 1 + 1]? = some (.cells Z 170 (0, 0))) := g5
  have HV3 : Hid (V3 = ((w6.alloc (.cells Z 170)).alloc (.cells Z 170)).alloc (.cells Z 170)) := hV3
  have HV4 : Hid (V4 = V3.setRow S cx) := hV4
  have HV5 : Hid (V5 = V4.setRow (S + 1) cy) := hV5
  have HV6 : Hid (V6 = V5.setRow (S + 1 + 1) cz) := hV6
  have HS : Hid (S = w6.heap.size) := hS
  have HZs : Hid (Z.size = 100) := hZ
  have HVs : Aside (V6.heap.size = S + 1 + 1 + 1) := hV6s
  clear hV3 hV4 hV5 hV6 g0 g1 g2 g4 g5 hS hZ bV3 bV6 b6 hV6s
  have OX := all_onem cx _ HCX.out HFX.out
  have OY := all_onem cy _ HCY.out HFY.out
  have OZ := all_onem cz _ HCZ.out HFZ.out
  have HOX : Hid (cx.all (·.oneCell') = true) := OX
  have HOY : Hid (cy.all (·.oneCell') = true) := OY
  have HOZ : Hid (cz.all (·.oneCell') = true) := OZ
  clear OX OY OZ
  go_wp2_with (first
    | (refine wpList_store_row rfl 170 _ _ rfl w6.heap.size cx rfl rfl 170 Z (by rw [← HV3.out, ← HS.out]; exact G0.out) (by rw [HCX.out]; exact infoTable) (by rw [HCX.out]; exact HZs.out) HOX.out ?_; rw [← HV3.out, ← HS.out, ← HV4.out])
    | (refine wpList_store_row rfl 170 _ _ rfl (S + 1) cy rfl rfl 170 Z G4.out (by rw [HCY.out]; exact infoTable) (by rw [HCY.out]; exact HZs.out) HOY.out ?_; rw [← HV5.out])
    | (refine wpList_store_row rfl 170 _ _ rfl (S + 1 + 1) cz rfl rfl 170 Z G5.out (by rw [HCZ.out]; exact infoTable) (by rw [HCZ.out]; exact HZs.out) HOZ.out ?_; rw [← HV6.out]))
  go_loopg [15, 16] 100 (fun g v ix wr => ∃ (k : Nat) (ys : Array Value), k + g = 100 ∧ ix = .int .i64 k ∧ Aside (OwnI wr V6.heap.size v (M.sel (fun k => M.mclash (M.find k b) (M.find k l) (M.find k m)) k)) ∧ Aside (wr.heap[S]? = some (.cells cx 170 (0, 0))) ∧ Aside (wr.heap[S + 1]? = some (.cells ys 170 (0, 0))) ∧ Aside (wr.heap[S + 1 + 1]? = some (.cells cz 170 (0, 0))) ∧ Aside (ys.size = 100) ∧ Aside (∀ i : Nat, i < 100 → ys[i]? = some (.int .i64 (if i < k then M.mtab b l m i else M.find i l))) ∧ Aside (V6.heap.size ≤ wr.heap.size) ∧ Below w.heap.size w wr)
  case atStart => exact ⟨0, cy, by omega, rfl, OwnI.nil _ _, GX, GY, GZ, HCY, fun i hi => by rw [if_neg (by omega)]; exact HFY.out i hi, Nat.le_refl _, b7⟩
  case round =>
    obtain ⟨k, ys, hk, rfl, HO, RX, RY, RZ, HYs, HYf, HSz, hbel⟩ := hrel
    by_cases hlt : k < 100
    · have hki : (k : Int) ≤ 99 := by omega
      obtain ⟨x, hx⟩ : ∃ x, x = M.find (k : Int) b := ⟨_, rfl⟩
      obtain ⟨y, hy⟩ : ∃ y, y = M.find (k : Int) l := ⟨_, rfl⟩
      obtain ⟨z, hzz⟩ : ∃ z, z = M.find (k : Int) m := ⟨_, rfl⟩
      have cX : wr.cell? ⟨S, k, none⟩ = some (.int .i64 x) := by rw [cell_of_row wr _ k cx _ _ RX.out, HFX.out k hlt, hx]
      have cY : wr.cell? ⟨S + 1, k, none⟩ = some (.int .i64 y) := by rw [cell_of_row wr _ k ys _ _ RY.out, HYf.out k hlt, if_neg (by omega), hy]
      have cZ : wr.cell? ⟨S + 1 + 1, k, none⟩ = some (.int .i64 z) := by rw [cell_of_row wr _ k cz _ _ RZ.out, HFZ.out k hlt, hzz]
      have fY : wr.frozen? ⟨S + 1, k, none⟩ = false := frozen_of_row wr _ k ys _ RY.out
      have hmt : M.mtab b l m (k : Int) = M.mval x y z := by unfold M.mtab; rw [← hx, ← hy, ← hzz]
      have hmc : M.sel (fun k => M.mclash (M.find k b) (M.find k l) (M.find k m)) (k + 1) = if M.mclash x y z = true then M.sel (fun k => M.mclash (M.find k b) (M.find k l) (M.find k m)) k ++ [(k : Int)] else M.sel (fun k => M.mclash (M.find k b) (M.find k l) (M.find k m)) k := by rw [M.sel, ← hx, ← hy, ← hzz]
      have HY0 : Aside (y = M.find (k : Int) l) := hy
      have keepF : M.mval x y z = y → Aside (∀ i : Nat, i < 100 → ys[i]? = some (.int .i64 (if i < k + 1 then M.mtab b l m i else M.find i l))) := fun he i hi => by
        rw [HYf.out i hi]
        by_cases e : i = k
        · subst e; rw [if_neg (by omega), if_pos (by omega), hmt, he, HY0.out]
        · by_cases e2 : i < k
          · rw [if_pos e2, if_pos (by omega)]
          · rw [if_neg e2, if_neg (by omega)]
      clear hx hy hzz
      by_cases hyz : y = z
      · have hb1 : (y == z) = true := by simp [hyz]
        have HYf' := keepF (by unfold M.mval; rw [if_pos hyz])
        have HO' : Aside (OwnI wr V6.heap.size u15 (M.sel (fun k => M.mclash (M.find k b) (M.find k l) (M.find k m)) (k + 1))) := by unfold Aside; rw [hmc, if_neg (by unfold M.mclash; simp [hyz])]; exact HO.out
        clear hyz keepF hmt hmc
        go_wp2_with fail
        go_quiet (fail)
        go_wp2
        go_roundg (gk - 1)
        case measure => omega
        case rel => exact ⟨k + 1, ys, by omega, by go_num, HO', RX, RY, RZ, HYs, HYf', HSz, below_drewN hbel _⟩
      · have hb1 : (y == z) = false := by simp [hyz]
        by_cases hyx : y = x
        · have hb2 : (y == x) = true := by simp [hyx]
          have HO' : Aside (OwnI wr V6.heap.size u15 (M.sel (fun k => M.mclash (M.find k b) (M.find k l) (M.find k m)) (k + 1))) := by unfold Aside; rw [hmc, if_neg (by unfold M.mclash; simp [hyx])]; exact HO.out
          have hmz : M.mval x y z = z := by unfold M.mval; rw [if_neg hyz, if_pos hyx]
          have HYf' : Aside (∀ i : Nat, i < 100 → (ys.setIfInBounds k (.int .i64 z))[i]? = some (.int .i64 (if i < k + 1 then M.mtab b l m i else M.find i l))) := fun i hi => by
            rw [set_get ys k i _ (by rw [HYs.out]; exact hlt)]
            by_cases e : k = i
            · subst e; rw [if_pos rfl, if_pos (by omega), hmt, hmz]
            · rw [if_neg e, HYf.out i hi]
              by_cases e2 : i < k
              · rw [if_pos e2, if_pos (by omega)]
              · rw [if_neg e2, if_neg (by omega)]
          have HYs' : Aside ((ys.setIfInBounds k (.int .i64 z)).size = 100) := by simpa [Aside] using HYs.out
          have hne15 : ∀ q, u15.ownBlock = some q → q ≠ S + 1 := fun q hq e => by
            have := (World.ownsRow.lt HO.out q hq).1
            have h2 := HVs.out
            omega
          have HO2 : ∀ W : World, W.heap = wr.heap → Aside (OwnI (W.setCell ⟨S + 1, k, none⟩ (.int .i64 z)) V6.heap.size u15 (M.sel (fun k => M.mclash (M.find k b) (M.find k l) (M.find k m)) (k + 1))) := fun W hW => keep_row HO'.out (fun q _ e => by rw [heap_setCell_other W ⟨S + 1, k, none⟩ q _ (hne15 q e), hW])
          have RX2 : ∀ W : World, W.heap = wr.heap → Aside ((W.setCell ⟨S + 1, k, none⟩ (.int .i64 z)).heap[S]? = some (.cells cx 170 (0, 0))) := fun W hW => (heap_setCell_other W ⟨S + 1, k, none⟩ S _ (by show S ≠ S + 1; omega)).trans (by rw [hW]; exact RX.out)
          have RY2 : ∀ W : World, W.heap = wr.heap → Aside ((W.setCell ⟨S + 1, k, none⟩ (.int .i64 z)).heap[S + 1]? = some (.cells (ys.setIfInBounds k (.int .i64 z)) 170 (0, 0))) := fun W hW => heap_setCell_same W _ k ys _ _ (by rw [hW]; exact RY.out)
          have RZ2 : ∀ W : World, W.heap = wr.heap → Aside ((W.setCell ⟨S + 1, k, none⟩ (.int .i64 z)).heap[S + 1 + 1]? = some (.cells cz 170 (0, 0))) := fun W hW => (heap_setCell_other W ⟨S + 1, k, none⟩ (S + 1 + 1) _ (by show S + 1 + 1 ≠ S + 1; omega)).trans (by rw [hW]; exact RZ.out)
          clear hyz hyx keepF hmt hmc hmz
          go_wp2_with fail
          go_quiet (fail)
          go_wp2_with fail
          go_quiet (fail)
          go_wp2
          go_roundg (gk - 1)
          case measure => omega
          case rel => exact ⟨k + 1, ys.setIfInBounds k (.int .i64 z), by omega, by go_num, HO2 _ rfl, RX2 _ rfl, RY2 _ rfl, RZ2 _ rfl, HYs', HYf', by unfold Aside; simpa [World.setCell] using HSz.out, (below_drewN hbel _).setCell (p := ⟨S + 1, k, none⟩) (by show w.heap.size ≤ S + 1; omega) _⟩
        · have hb2 : (y == x) = false := by simp [hyx]
          have HYf' := keepF (by unfold M.mval; rw [if_neg hyz, if_neg hyx])
          by_cases hzx : z = x
          · have hb3 : (z == x) = true := by simp [hzx]
            have HO' : Aside (OwnI wr V6.heap.size u15 (M.sel (fun k => M.mclash (M.find k b) (M.find k l) (M.find k m)) (k + 1))) := by unfold Aside; rw [hmc, if_neg (by unfold M.mclash; simp [hzx])]; exact HO.out
            clear hyz hyx hzx keepF hmt hmc
            go_wp2_with fail
            go_quiet (fail)
            go_wp2_with fail
            go_quiet (fail)
            go_wp2_with fail
            go_quiet (fail)
            go_wp2
            go_roundg (gk - 1)
            case measure => omega
            case rel => exact ⟨k + 1, ys, by omega, by go_num, HO', RX, RY, RZ, HYs, HYf', HSz, below_drewN hbel _⟩
          · have hb3 : (z == x) = false := by simp [hzx]
            have HSl : Aside (M.sel (fun k => M.mclash (M.find k b) (M.find k l) (M.find k m)) (k + 1) = M.sel (fun k => M.mclash (M.find k b) (M.find k l) (M.find k m)) k ++ [(k : Int)]) := by unfold Aside; rw [hmc, if_pos (by unfold M.mclash; simp [hyz, hyx, hzx])]
            have HLe : Aside ((M.sel (fun k => M.mclash (M.find k b) (M.find k l) (M.find k m)) k).length + 1 ≤ 1000000) := by have := M.sel_len (fun k => M.mclash (M.find k b) (M.find k l) (M.find k m)) k; unfold Aside; omega
            clear hyz hyx hzx keepF hmt hmc
            go_wp2_with fail
            go_quiet (fail)
            go_wp2_with fail
            go_quiet (fail)
            go_wp2_with fail
            go_quiet (fail)
            obtain ⟨Wd, hWd⟩ : ∃ Wd : World, Wd.heap = wr.heap ∧ Wd.os = wr.os ∧ Wd.tape = wr.tape ∧ Wd.output = wr.output := ⟨wr, rfl, rfl, rfl, rfl⟩
            clear hWd Wd
            have HOd : ∀ W : World, W.heap = wr.heap → OwnI (W.alloc (.cells #[.int .i64 (k : Int)] 3)) V6.heap.size u15 (M.sel (fun k => M.mclash (M.find k b) (M.find k l) (M.find k m)) k) := fun W hW => World.ownsRow.alloc (show W.ownsRow _ _ _ _ _ _ from keep_row HO.out (fun q _ _ => by rw [hW])) _
            have HOD : Hid (∀ W : World, W.heap = wr.heap → OwnI (W.alloc (.cells #[.int .i64 (k : Int)] 3)) V6.heap.size u15 (M.sel (fun k => M.mclash (M.find k b) (M.find k l) (M.find k m)) k)) := HOd
            clear HOd
            go_wp2_with (at_builtin; refine append_ri rfl _ _ rfl V6.heap.size _ (M.sel (fun k => M.mclash (M.find k b) (M.find k l) (M.find k m)) k) rfl (HOD.out _ rfl) wr.heap.size 1 1 [(k : Int)] rfl rfl (ri_one (wr.drewN _) _) HLe.out (by have := HSz.out; simp; omega) ?_)
            intro v' w' ho' hb4 hkeep
            have HO' : Aside (OwnI w' V6.heap.size v' (M.sel (fun k => M.mclash (M.find k b) (M.find k l) (M.find k m)) (k + 1))) := by unfold Aside; rw [HSl.out]; exact ho'
            have hSl := (Array.getElem?_eq_some_iff.1 RZ.out).1
            have same : ∀ q, q ≤ S + 1 + 1 → w'.heap[q]? = wr.heap[q]? := fun q hq => by
              have h2 := HVs.out
              exact (hb4.block q (by omega)).trans (Below.heap_alloc _ _ q (show q < wr.heap.size by omega))
            have RX2 : Aside (w'.heap[S]? = some (.cells cx 170 (0, 0))) := (same S (by omega)).trans RX.out
            have RY2 : Aside (w'.heap[S + 1]? = some (.cells ys 170 (0, 0))) := (same (S + 1) (by omega)).trans RY.out
            have RZ2 : Aside (w'.heap[S + 1 + 1]? = some (.cells cz 170 (0, 0))) := (same (S + 1 + 1) (by omega)).trans RZ.out
            have HSz2 : Aside (V6.heap.size ≤ w'.heap.size) := by have h1 := hb4.size; have h2 := HSz.out; simp at h1; unfold Aside; omega
            have hb5 : Below w.heap.size w w' := ((below_drewN hbel _).alloc hbel.size _).trans (hb4.mono (by rw [HVs.out]; omega))
            clear ho' hb4 hkeep HOD same
            go_wp2
            go_roundg (gk - 1)
            case measure => omega
            case rel => exact ⟨k + 1, ys, by omega, by go_num, HO', RX2, RY2, RZ2, HYs, HYf', HSz2, hb5⟩
    · obtain rfl : k = 100 := by omega
      have HYf2 : ∀ i : Nat, i < 100 → ys[i]? = some (.int .i64 (M.mtab b l m i)) := fun i hi => by rw [HYf.out i hi, if_pos hi]
      have HFo := folded_any ys (fun i => M.mtab b l m i) wr HYf2
      have HFF : Hid (Calls Tryz.prog 127 #[.agg ys] wr fun e w' => ∃ v, e = .returned v ∧ Own w' (wr.heap.size + 1) v (M.mrows b l m) ∧ Below wr.heap.size wr w') := HFo
      obtain ⟨ua, uc, hue, hur, hul, hum⟩ := OwnI.ri HO.out
      have HUr : Hid (Ri wr ua (M.mkeys b l m).length (M.mkeys b l m)) := hur
      have hue2 : u15 = .slice ua (M.mkeys b l m).length uc := hue
      obtain ⟨un, hun⟩ : ∃ un, un = (M.mkeys b l m).length := ⟨_, rfl⟩
      have hul2 : un ≤ uc := by rw [hun]; exact hul
      rw [← hun] at hue2 HUr
      subst hue2
      clear hue hur hul hun HYf2 HFo HO
      have hki : decide ((100 : Int) ≤ 99) = false := by decide
      go_wp2_with (refine wpList_load_row rfl 170 _ rfl (S + 1) rfl 170 ys _ _ RY.out Tryz.underlying170 rfl (by rw [HYs.out]; exact infoTable) ?_)
      refine HFF.out.mono ?_
      rintro e w8 ⟨v, rfl, ho8, hb8⟩
      obtain ⟨ra, rc, rfl, hr8, hn8, hc8, hz8⟩ := ho8.rd
      obtain ⟨rn, hrn⟩ : ∃ rn, rn = (M.mrows b l m).length := ⟨_, rfl⟩
      rw [← hrn] at hr8 hn8 hz8 ⊢
      have HR8 : Hid (Rd w8 ra rn (M.mrows b l m)) := hr8
      have HZ8 : Hid (ra = none → rn = 0 ∧ rc = 0) := hz8
      have HOw : Hid (Own w8 w.heap.size (.slice ra rn rc) (M.mrows b l m)) := by unfold Hid; rw [hrn]; exact Own.lower ho8 (by have := hbel.size; omega)
      have HU8 : Hid (Ri w8 ua un (M.mkeys b l m)) := HUr.out.below hb8 (Nat.le_refl _)
      have b8 : Below w.heap.size w w8 := hbel.trans (hb8.mono hbel.size)
      have HRN : Hid (rn = (M.mrows b l m).length) := hrn
      clear hr8 hz8 hb8 ho8 hrn HFF HUr
      have hrm : rn ≤ 9223372036854775807 := by unfold maxLen at hc8; omega
      by_cases h40 : 40 < rn
      · have e0 : M.mergeE b l m = 2 := by rw [HE0.out, if_pos (by rw [← HRN.out]; exact h40)]
        have F : Hid (Hands3O w w8 (M.mergeV b l m) (M.mergeK b l m) (M.mergeE b l m) (.returned (.tuple #[.slice none 0 0, .slice none 0 0, .int .i64 2]))) := by
          unfold M.mergeV M.mergeK
          rw [e0, if_neg (by omega), if_neg (by omega)]
          exact Hands3O.err 2 b8
        clear e0
        go_wp2
        go_ret3
        exact F.out
      · have e0 : M.mergeE b l m = 0 := by rw [HE0.out, if_neg (by rw [← HRN.out]; exact h40)]
        have F : Hid (Hands3O w w8 (M.mergeV b l m) (M.mergeK b l m) (M.mergeE b l m) (.returned (.tuple #[.slice ra rn rc, .slice ua un uc, .int .i64 0]))) := by
          unfold M.mergeV M.mergeK
          rw [e0, if_pos rfl, if_pos rfl]
          exact ⟨ra, rn, rc, ua, un, uc, rfl, HR8.out, hn8, hc8, ⟨HZ8.out, HOw.out⟩, HU8.out, hul2, hum, b8⟩
        clear e0
        go_wp2
        go_ret3
        exact F.out
set_option maxRecDepth 100000 in
set_option maxHeartbeats 4000000 in
theorem mergeOf_own (a1 a2 a3 : Option Addr) (n1 n2 n3 c1 c2 c3 : Nat) (b l m : List (Int × Int)) (w : World) (h1 : Rd w a1 n1 b) (h2 : Rd w a2 n2 l) (h3 : Rd w a3 n3 m)
    (k1 : n1 ≤ 9223372036854775807) (k2 : n2 ≤ 9223372036854775807) (k3 : n3 ≤ 9223372036854775807) :
    Calls Tryz.prog 102 #[.slice a1 n1 c1, .slice a2 n2 c2, .slice a3 n3 c3] w fun e w' => Hands3O w w' (M.mergeV b l m) (M.mergeK b l m) (M.mergeE b l m) e := by
  by_cases hall : M.chk b = 0 ∧ M.chk l = 0 ∧ M.chk m = 0
  · exact mergeOf_good a1 a2 a3 n1 n2 n3 c1 c2 c3 b l m w h1 h2 h3 hall.1 hall.2.1 hall.2.2
  · have E1 : Hid (∀ W, Below w.heap.size w W → Calls Tryz.prog 16 #[.slice a1 n1 c1] W fun e w' => e = .returned (.int .i64 (M.chk b)) ∧ Below W.heap.size W w') := fun W hW => error_any a1 n1 c1 b W (h1.below hW (Nat.le_refl _)) k1
    have E2 : Hid (∀ W, Below w.heap.size w W → Calls Tryz.prog 16 #[.slice a2 n2 c2] W fun e w' => e = .returned (.int .i64 (M.chk l)) ∧ Below W.heap.size W w') := fun W hW => error_any a2 n2 c2 l W (h2.below hW (Nat.le_refl _)) k2
    have E3 : Hid (∀ W, Below w.heap.size w W → Calls Tryz.prog 16 #[.slice a3 n3 c3] W fun e w' => e = .returned (.int .i64 (M.chk m)) ∧ Below W.heap.size W w') := fun W hW => error_any a3 n3 c3 m W (h3.below hW (Nat.le_refl _)) k3
    have e0 : M.mergeE b l m = if M.chk b ≠ 0 then M.chk b else if M.chk l ≠ 0 then M.chk l else M.chk m := by
      unfold M.mergeE
      by_cases z1 : M.chk b = 0
      · by_cases z2 : M.chk l = 0
        · have z3 : M.chk m ≠ 0 := fun z3 => hall ⟨z1, z2, z3⟩
          simp [z1, z2, z3]
        · simp [z1, z2]
      · simp [z1]
    have hne : M.mergeE b l m ≠ 0 := by
      rw [e0]
      by_cases z1 : M.chk b = 0
      · by_cases z2 : M.chk l = 0
        · have z3 : M.chk m ≠ 0 := fun z3 => hall ⟨z1, z2, z3⟩
          simp [z1, z2, z3]
        · simp [z1, z2]
      · simp [z1]
    have e1 : M.mergeV b l m = [] := by unfold M.mergeV; rw [if_neg hne]
    have e2 : M.mergeK b l m = [] := by unfold M.mergeK; rw [if_neg hne]
    rw [e1, e2]
    obtain ⟨E, hE⟩ : ∃ E, E = M.mergeE b l m := ⟨_, rfl⟩
    rw [← hE] at e0 hne ⊢
    obtain ⟨x, hx⟩ : ∃ x, x = M.chk b := ⟨_, rfl⟩
    obtain ⟨y, hy⟩ : ∃ y, y = M.chk l := ⟨_, rfl⟩
    obtain ⟨z, hz⟩ : ∃ z, z = M.chk m := ⟨_, rfl⟩
    rw [← hx, ← hy, ← hz] at e0
    rw [← hx] at E1
    rw [← hy] at E2
    rw [← hz] at E3
    obtain ⟨Wa, hWa⟩ : ∃ Wa, Wa = w.alloc (.cells #[.slice a1 n1 c1, .slice a2 n2 c2, .slice a3 n3 c3] 47) := ⟨_, rfl⟩
    have ba : Below w.heap.size w Wa := by rw [hWa]; exact (Below.refl _ _).alloc (Nat.le_refl _) _
    have hWs : w.heap.size < Wa.heap.size := by rw [hWa]; simp
    have q0 : Wa.cell? ⟨w.heap.size, 0, none⟩ = some (.slice a1 n1 c1) := by rw [hWa]; simp [go_sem]
    have q1 : Wa.cell? ⟨w.heap.size, 1, none⟩ = some (.slice a2 n2 c2) := by rw [hWa]; simp [go_sem]
    have q2 : Wa.cell? ⟨w.heap.size, 2, none⟩ = some (.slice a3 n3 c3) := by rw [hWa]; simp [go_sem]
    have HWa : Hid (Wa = w.alloc (.cells #[.slice a1 n1 c1, .slice a2 n2 c2, .slice a3 n3 c3] 47)) := hWa
    have HE : Hid (E = if x ≠ 0 then x else if y ≠ 0 then y else z) := e0
    have HNE : Hid (E ≠ 0) := hne
    clear h1 h2 h3 e0 e1 e2 hE hx hy hz hWa hall hne
    go_enter Tryz.func102, Tryz.ntmps102
    go_wp2
    rw [← HWa.out]
    refine wp_loop_rounds 4 ?_
    rw [rounds_succ]
    go_wp2_with fail
    refine (E1.out _ ba).mono ?_
    rintro e w1 ⟨rfl, hb1⟩
    have b1 := ba.trans (hb1.mono ba.size)
    have p1 : w1.cell? ⟨w.heap.size, 1, none⟩ = some (.slice a2 n2 c2) := (hb1.cell (p := ⟨w.heap.size, 1, none⟩) hWs).trans q1
    have p2 : w1.cell? ⟨w.heap.size, 2, none⟩ = some (.slice a3 n3 c3) := (hb1.cell (p := ⟨w.heap.size, 2, none⟩) hWs).trans q2
    have hs1 : w.heap.size < w1.heap.size := Nat.lt_of_lt_of_le hWs hb1.size
    clear q0 q1 q2 hb1 hWs ba HWa
    by_cases hx : x = 0
    · have hxb : (x != 0) = false := by simp [hx]
      have HX : Hid (x = 0) := hx
      clear hx
      go_wp2
      rw [rounds_succ]
      go_wp2_with fail
      refine (E2.out _ b1).mono ?_
      rintro e w2 ⟨rfl, hb2⟩
      have b2 := b1.trans (hb2.mono b1.size)
      have r2 : w2.cell? ⟨w.heap.size, 2, none⟩ = some (.slice a3 n3 c3) := (hb2.cell (p := ⟨w.heap.size, 2, none⟩) hs1).trans p2
      clear p1 p2 hb2 b1 hs1
      by_cases hy : y = 0
      · have hyb : (y != 0) = false := by simp [hy]
        have HZ : Hid (E = z) := by have h := HE.out; rw [HX.out, hy] at h; simpa [Hid] using h
        have hzb : (z != 0) = true := by have h := HNE.out; rw [HZ.out] at h; simp [h]
        clear hy
        go_wp2
        rw [rounds_succ]
        go_wp2_with fail
        refine (E3.out _ b2).mono ?_
        rintro e w3 ⟨rfl, hb3⟩
        have b3 := b2.trans (hb3.mono b2.size)
        clear r2 hb3 b2
        go_wp2
        go_ret3
        rw [HZ.out]
        exact Hands3O.err z b3
      · have hyb : (y != 0) = true := by simp [hy]
        have HZ : Hid (E = y) := by have h := HE.out; rw [HX.out] at h; simp [hy] at h; exact h
        clear hy
        go_wp2
        go_ret3
        rw [HZ.out]
        exact Hands3O.err y b2
    · have hxb : (x != 0) = true := by simp [hx]
      have HZ : Hid (E = x) := by have h := HE.out; rw [if_pos hx] at h; exact h
      clear hx
      go_wp2
      go_ret3
      rw [HZ.out]
      exact Hands3O.err x b1
end Go.Proofs.YtcgpgflnihjpiagGreat
namespace Go.Proofs.YtcgpgflnihjpiagGreat
namespace M
def isF (L : List Com) (a b k : Nat) : Nat → Bool
  | 0 => both L a b k
  | s + 1 => isF L a b k s && !(both L a b (k + 1 + s) && (above L (k + 1 + s)).getD k false)
theorem isF_iff (L : List Com) (a b k s : Nat) : isF L a b k s = true ↔ both L a b k = true ∧ ∀ i, k < i → i < k + 1 + s → both L a b i = true → (above L i).getD k false = false := by
  induction s with
  | zero =>
    rw [isF]
    constructor
    · intro h; exact ⟨h, fun i h1 h2 => by omega⟩
    · exact fun h => h.1
  | succ s ih =>
    rw [isF, Bool.and_eq_true, ih]
    constructor
    · rintro ⟨⟨h1, h2⟩, h3⟩
      refine ⟨h1, fun i g1 g2 g3 => ?_⟩
      by_cases e : i = k + 1 + s
      · subst e; rw [g3] at h3; simpa using h3
      · exact h2 i g1 (by omega) g3
    · rintro ⟨h1, h2⟩
      refine ⟨⟨h1, fun i g1 g2 g3 => h2 i g1 (by omega) g3⟩, ?_⟩
      have := h2 (k + 1 + s) (by omega) (by omega)
      cases h : both L a b (k + 1 + s)
      · rfl
      · rw [this h]; rfl
theorem isF_base {L : List Com} (R : Right L) {a b : Nat} (ha : a < L.length) (hb : b < L.length) (k : Nat) (hk : k < L.length) : isF L a b k (L.length - (k + 1)) = isBase L a b k := by
  rw [Bool.eq_iff_iff, isF_iff, isBase_iff R ha hb]
  refine and_congr_right fun _ => ?_
  constructor
  · intro h i h1 h2; exact h i h1 (by omega)
  · intro h i h1 h2; exact h i h1 (by omega)
theorem mark_more (m : List Bool) (ps : List Int) (h : ∀ p ∈ ps, p.toNat < m.length) (j : Nat) (hj : m.getD j false = true) : (mark m ps).getD j false = true := (mark_get m ps h j).2 (Or.inl hj)
end M
open Go.RowKit
set_option maxHeartbeats 8000000 in
theorem aboveOf_some (b off n cap : Nat) (L : List M.Com) (c : Nat) (w : World) (hn : n ≤ 14) (hcn : c < n) (hl : L.length = n) (hR : M.Right L) (hB : b < w.heap.size)
    (hc : ∀ i, i < n → ∃ a1 n1 c1 a2 n2 c2, w.cell? ⟨b, off + i * 2, none⟩ = some (.slice a1 n1 c1) ∧ w.cell? ⟨b, off + i * 2 + 1, none⟩ = some (.slice a2 n2 c2) ∧ Rd w a1 n1 (L.getD i ([], [])).1 ∧ Ri w a2 n2 (L.getD i ([], [])).2 ∧ n1 ≤ 9223372036854775807 ∧ n2 ≤ 9223372036854775807) :
    Calls Tryz.prog 100 #[.slice (some ⟨b, off, none⟩) n cap, .int .i64 c] w fun e w' => e = .returned (.slice (some ⟨w.heap.size, 0, none⟩) n n) ∧ Bo w' w.heap.size (M.above L c) ∧ Below w.heap.size w w' := by
  have HC : Aside (∀ i, i < n → ∃ a1 n1 c1 a2 n2 c2, w.cell? ⟨b, off + i * 2, none⟩ = some (.slice a1 n1 c1) ∧ w.cell? ⟨b, off + i * 2 + 1, none⟩ = some (.slice a2 n2 c2) ∧ Rd w a1 n1 (L.getD i ([], [])).1 ∧ Ri w a2 n2 (L.getD i ([], [])).2 ∧ n1 ≤ 9223372036854775807 ∧ n2 ≤ 9223372036854775807) := hc
  have HL : Aside (L.length = n) := hl
  have HRt : Aside (M.Right L) := hR
  have hmk := make_bool n (by omega)
  obtain ⟨Z, hZ⟩ : ∃ Z, Z = ((List.replicate n false).map Value.bool).toArray := ⟨_, rfl⟩
  have hZc : Z[c]? = some (.bool false) := by rw [hZ]; simp [hcn]
  rw [← hZ] at hmk
  have B0 : Bo (w.alloc (.cells Z 4)) w.heap.size (List.replicate n false) := by unfold Bo; rw [heap_alloc_new, hZ]
  have B1 : Aside (Bo (w.alloc (.cells (Z.setIfInBounds c (.bool true)) 4)) w.heap.size ((List.replicate n false).set c true)) := by unfold Aside Bo; rw [heap_alloc_new, hZ, List.setIfInBounds_toArray, List.map_set]
  have c1 : (w.alloc (.cells Z 4)).cell? ⟨w.heap.size, c, none⟩ = some (.bool false) := by rw [cell_of_row _ _ _ _ _ _ B0]; rw [← hZ]; exact hZc
  have f1 := B0.frozen c
  clear hc hl hR hZ B0
  go_enter Tryz.func100, Tryz.ntmps100
  go_wp2
  go_loopg [6] (c + 1) (fun gg i wr => ∃ (m : List Bool), ((gg = 0 ∧ i = .int .i64 (-1)) ∨ (∃ j : Nat, j + 1 = gg ∧ i = .int .i64 j)) ∧ gg ≤ c + 1 ∧ Aside (m.length = n) ∧ Aside (Bo wr w.heap.size m) ∧ Aside (M.aboveF L gg m = M.above L c) ∧ Below w.heap.size w wr)
  case atStart => exact ⟨(List.replicate n false).set c true, Or.inr ⟨c, rfl, rfl⟩, Nat.le_refl _, by simp [Aside], B1, by unfold Aside M.above; rw [HL.out], (Below.refl _ _).alloc (Nat.le_refl _) _⟩
  case round =>
    obtain ⟨m, hi, hle, HML, HB, HA, hbel⟩ := hrel
    rcases hi with ⟨rfl, rfl⟩ | ⟨j, rfl, rfl⟩
    · have HB' : Aside (Bo wr w.heap.size (M.above L c)) := by have h := HA.out; rw [M.aboveF] at h; rw [← h]; exact HB
      go_wp2
      go_ret
      exact ⟨rfl, HB'.out, hbel⟩
    · obtain ⟨a1, n1, k1, a2, n2, k2, q1, q2, r1, r2, m1, m2⟩ := HC.out j (by omega)
      have c0 : wr.cell? ⟨b, off + j * 2 + 1, none⟩ = some (.slice a2 n2 k2) := (hbel.cell (p := ⟨b, off + j * 2 + 1, none⟩) hB).trans q2
      have hjn : j < n := by omega
      have c1 := HB.out.cell (i := j) (by rw [HML.out]; exact hjn)
      have hRj := HRt.out j (by rw [HL.out]; exact hjn)
      obtain ⟨ps, hps⟩ : ∃ ps, (L.getD j ([], [])).2 = ps := ⟨_, rfl⟩
      rw [hps] at r2 hRj
      have hA := HA.out
      rw [M.aboveF, hps] at hA
      have HA2 : Aside (M.aboveF L j (if m.getD j false = true then M.mark m ps else m) = M.above L c) := hA
      have HR2 : Aside (Ri w a2 n2 ps) := r2
      have hn2 : n2 ≤ 2 := by rw [← r2.1]; exact hRj.2.1
      have HPr : Aside (∀ p ∈ ps, 0 ≤ p ∧ p < (j : Int)) := hRj.2.2
      have Q2 : Aside (w.cell? ⟨b, off + j * 2 + 1, none⟩ = some (.slice a2 n2 k2)) := q2
      obtain ⟨t, ht⟩ : ∃ t, m.getD j false = t := ⟨_, rfl⟩
      rw [ht] at c1
      have HT : Aside (m.getD j false = t) := ht
      clear ht hA q1 q2 r1 r2 hRj HA hps
      have HJ : Aside (∀ gg : Nat, gg = j → (gg = 0 ∧ Value.int .i64 ((j : Int) - 1) = .int .i64 (-1)) ∨ (∃ j' : Nat, j' + 1 = gg ∧ Value.int .i64 ((j : Int) - 1) = .int .i64 j')) := fun gg e => by
        subst e
        cases gg with
        | zero => exact Or.inl ⟨rfl, rfl⟩
        | succ j' => exact Or.inr ⟨j', rfl, by congr 1; omega⟩
      cases t with
      | true =>
        have HK0 : Aside (Bo wr w.heap.size (M.mark m (ps.take 0))) := HB
        go_wp2
        go_loopg [7] n2 (fun g2 i ws => ∃ (k : Nat), k + g2 = n2 ∧ i = .int .i64 k ∧ Aside (Bo ws w.heap.size (M.mark m (ps.take k))) ∧ Below w.heap.size w ws)
        case atStart => exact ⟨0, by omega, rfl, HK0, hbel⟩
        case round =>
          obtain ⟨k, hk, rfl, HBk, hbk⟩ := hrel
          have ck : wr.cell? ⟨b, off + j * 2 + 1, none⟩ = some (.slice a2 n2 k2) := (hbk.cell (p := ⟨b, off + j * 2 + 1, none⟩) hB).trans Q2.out
          have ml : (M.mark m (ps.take k)).length = n := by rw [M.mark_len]; exact HML.out
          have hmj : (M.mark m (ps.take k)).getD j false = true := M.mark_more m _ (fun p hp => by have := HPr.out p (List.mem_of_mem_take hp); rw [HML.out]; omega) j HT.out
          have cj := HBk.out.cell (i := j) (by rw [ml]; exact hjn)
          rw [hmj] at cj
          clear hmj
          by_cases hkl : k < n2
          · obtain ⟨pb, po, rfl, hpB, hpc⟩ : ∃ pb po, a2 = some ⟨pb, po, none⟩ ∧ pb < w.heap.size ∧ ∀ i, i < n2 → w.cell? ⟨pb, po + i, none⟩ = some (.int .i64 (ps.getD i 0)) := by
              rcases HR2.out.cases with ⟨h0, _⟩ | ⟨pb, po, e, _, _, hpB, hpc⟩
              · omega
              · exact ⟨pb, po, e, hpB, hpc⟩
            have hmem : ps.getD k 0 ∈ ps := by have h2 := HR2.out.1; simp [List.getD, h2, hkl]
            have hr := HPr.out _ hmem
            obtain ⟨x, hx⟩ : ∃ x : Nat, ps.getD k 0 = (x : Int) := ⟨(ps.getD k 0).toNat, by omega⟩
            have cx : wr.cell? ⟨pb, po + k, none⟩ = some (.int .i64 x) := by rw [hbk.cell (p := ⟨pb, po + k, none⟩) hpB, hpc k hkl, hx]
            rw [hx] at hr
            have hxn : x < n := by omega
            have cs := HBk.out.cell (i := x) (by rw [ml]; exact hxn)
            obtain ⟨tt, htt⟩ : ∃ tt, (M.mark m (ps.take k)).getD x false = tt := ⟨_, rfl⟩
            rw [htt] at cs
            have fs := HBk.out.frozen x
            have HBk' : Aside (Bo (wr.setCell ⟨w.heap.size, x, none⟩ (.bool true)) w.heap.size (M.mark m (ps.take (k + 1)))) := by
              unfold Aside
              rw [M.mark_take m ps k (by rw [HR2.out.1]; exact hkl), hx]
              exact HBk.out.set x true
            have hbk' := hbk.setCell (p := ⟨w.heap.size, x, none⟩) (Nat.le_refl _) (.bool true)
            have hki : (k : Int) < (n2 : Int) := by omega
            clear hx htt ml hmem hr hpc
            go_wp2
            go_roundg (gk - 1)
            case measure => omega
            case rel => exact ⟨k + 1, by omega, by go_num, HBk', hbk'⟩
          · have e : ps.take k = ps := List.take_of_length_le (by rw [HR2.out.1]; omega)
            have HB' : Aside (Bo wr w.heap.size (M.mark m ps)) := by have := HBk.out; rw [e] at this; exact this
            have hki : decide ((k : Int) < (n2 : Int)) = false := by simp; omega
            clear e ml
            go_wp2
            go_roundg j
            case measure => omega
            case rel => exact ⟨M.mark m ps, HJ.out _ rfl, by omega, by unfold Aside; rw [M.mark_len]; exact HML.out, HB', by have h := HA2.out; rw [HT.out, if_pos rfl] at h; exact h, hbk⟩
      | false =>
        go_wp2
        refine wp_loop_rounds 1 ?_
        rw [rounds_succ]
        by_cases h0 : n2 = 0
        · subst h0
          go_wp2
          go_roundg j
          case measure => omega
          case rel => exact ⟨m, HJ.out _ rfl, by omega, HML, HB, by have h := HA2.out; rw [HT.out, if_neg (by simp)] at h; exact h, hbel⟩
        · have hpos : (0 : Int) < (n2 : Int) := by omega
          go_wp2
          go_roundg j
          case measure => omega
          case rel => exact ⟨m, HJ.out _ rfl, by omega, HML, HB, by have h := HA2.out; rw [HT.out, if_neg (by simp)] at h; exact h, hbel⟩
theorem aboveOf_any (a : Option Addr) (n cap : Nat) (L : List M.Com) (c : Nat) (w : World) (h : Cm w a n L) (hz : M.dchk L = 0) (hcn : c < n) :
    Calls Tryz.prog 100 #[.slice a n cap, .int .i64 c] w fun e w' => e = .returned (.slice (some ⟨w.heap.size, 0, none⟩) n n) ∧ Bo w' w.heap.size (M.above L c) ∧ Below w.heap.size w w' := by
  have hR := M.dchk_zero hz
  rcases h.cases with ⟨rfl, rfl⟩ | ⟨b, off, rfl, hn, hl, hB, hc⟩
  · omega
  · exact aboveOf_some b off n cap L c w (by rw [← hl]; exact hR.1) hcn hl hR.2 hB hc
end Go.Proofs.YtcgpgflnihjpiagGreat
namespace Go.Proofs.YtcgpgflnihjpiagGreat
open Go.RowKit
set_option maxHeartbeats 16000000 in
theorem basesOf_any (a : Option Addr) (n cap : Nat) (L : List M.Com) (x y : Nat) (w : World) (h : Cm w a n L) (hz : M.dchk L = 0) (hx : x < n) (hy : y < n) :
    Calls Tryz.prog 101 #[.slice a n cap, .int .i64 x, .int .i64 y] w fun e w' => ∃ v, e = .returned v ∧ OwnI w' w.heap.size v (M.bases L x y) ∧ Below w.heap.size w w' := by
  have hR := M.dchk_zero hz
  have hn : n ≤ 14 := by rw [← h.1]; exact hR.1
  have HCm : Aside (Cm w a n L) := h
  have HL : Aside (L.length = n) := h.1
  have HA : Aside (∀ W c, Below w.heap.size w W → c < n → Calls Tryz.prog 100 #[.slice a n cap, .int .i64 ((c : Nat) : Int)] W fun e w' => e = .returned (.slice (some ⟨W.heap.size, 0, none⟩) n n) ∧ Bo w' W.heap.size (M.above L c) ∧ Below W.heap.size W w') := fun W c hW hc => aboveOf_any a n cap L c W (h.below hW (Nat.le_refl _)) hz hc
  have HBa : Aside (∀ k, k < n → M.isF L x y k (n - (k + 1)) = M.isBase L x y k) := fun k hk => by
    have e := h.1
    have := M.isF_base hR.2 (a := x) (b := y) (by omega) (by omega) k (by omega)
    rw [e] at this; exact this
  clear h hz hR
  go_enter Tryz.func101, Tryz.ntmps101
  go_wp2_with fail
  refine (HA.out w x (Below.refl _ _) hx).mono ?_
  rintro e w1 ⟨rfl, bx, hb1⟩
  go_wp2_with fail
  refine (HA.out w1 y hb1 hy).mono ?_
  rintro e w2 ⟨rfl, by', hb2⟩
  obtain ⟨X, hX⟩ : ∃ X, X = w.heap.size := ⟨_, rfl⟩
  obtain ⟨Y, hY⟩ : ∃ Y, Y = w1.heap.size := ⟨_, rfl⟩
  have hXl := bx.lt
  have hYl := by'.lt
  have HX : Aside (Bo w2 X (M.above L x)) := by rw [hX]; exact bx.below hb2 hXl
  have HY : Aside (Bo w2 Y (M.above L y)) := by rw [hY]; exact by'
  have hXB := HX.out.lt
  have hYB := HY.out.lt
  have hbw2 : Below w.heap.size w w2 := hb1.trans (hb2.mono hb1.size)
  have HXE : Aside (X = w.heap.size) := hX
  have HYE : Aside (Y = w1.heap.size) := hY
  have hs2 := hbw2.size
  clear bx by' hb2 hX hY hXl hYl
  rw [← HXE.out, ← HYE.out]
  go_wp2
  go_loopg [9, 10] n (fun g v i wr => ∃ k : Nat, k + g = n ∧ i = .int .i64 k ∧ Aside (OwnI wr w2.heap.size v (M.sel (M.isBase L x y) k)) ∧ Below w2.heap.size w2 wr)
  case atStart => exact ⟨0, by omega, rfl, OwnI.nil _ _, Below.refl _ _⟩
  case round =>
    obtain ⟨k, hk, rfl, HO, hbel⟩ := hrel
    by_cases hlt : k < n
    · have hki : (k : Int) < (n : Int) := by omega
      have cx := (HX.out.below hbel hXB).cell (i := k) (by rw [M.above_len, HL.out]; exact hlt)
      have cy := (HY.out.below hbel hYB).cell (i := k) (by rw [M.above_len, HL.out]; exact hlt)
      obtain ⟨t1, ht1⟩ : ∃ t, (M.above L x).getD k false = t := ⟨_, rfl⟩
      obtain ⟨t2, ht2⟩ : ∃ t, (M.above L y).getD k false = t := ⟨_, rfl⟩
      rw [ht1] at cx
      rw [ht2] at cy
      have HB0 : Aside (M.both L x y k = (t1 && t2)) := by unfold Aside M.both; rw [ht1, ht2]
      obtain ⟨uo, huo⟩ : ∃ uo, uo = u9 := ⟨_, rfl⟩
      have HUO : Aside (uo = u9) := huo
      have HO9 : Aside (OwnI wr w2.heap.size u9 (M.sel (M.isBase L x y) k)) := HO
      have hbel0 := hbel
      clear ht1 ht2 huo HO
      cases t1 <;> cases t2
      all_goals (
        go_wp2
        go_loopg [11, 12] (n - (k + 1)) (fun g2 vis vi ws => ∃ (s i : Nat), Aside (i = k + 1 + s) ∧ Aside (s + g2 = n - (k + 1)) ∧ vis = .bool (M.isF L x y k s) ∧ vi = .int .i64 i ∧ Aside (OwnI ws w2.heap.size u9 (M.sel (M.isBase L x y) k)) ∧ Below w2.heap.size w2 ws)
        case atStart => exact ⟨0, k + 1, rfl, by unfold Aside; omega, by rw [M.isF, HB0.out]; rfl, by go_num, HO9, hbel0⟩
        case round =>
          obtain ⟨s, i, HI, HS, rfl, rfl, HOs, hbs⟩ := hrel
          obtain ⟨q, hq⟩ : ∃ q, M.isF L x y k s = q := ⟨_, rfl⟩
          rw [hq]
          have HQ : Aside (M.isF L x y k s = q) := hq
          have h1 := HI.out
          have h2 := HS.out
          by_cases hil : i < n
          · have hii : (i : Int) < (n : Int) := by omega
            have hgk : 0 < gk := by omega
            have ei := (HX.out.below hbs hXB).cell (i := i) (by rw [M.above_len, HL.out]; exact hil)
            have ej := (HY.out.below hbs hYB).cell (i := i) (by rw [M.above_len, HL.out]; exact hil)
            obtain ⟨t3, ht3⟩ : ∃ t, (M.above L x).getD i false = t := ⟨_, rfl⟩
            obtain ⟨t4, ht4⟩ : ∃ t, (M.above L y).getD i false = t := ⟨_, rfl⟩
            rw [ht3] at ei
            rw [ht4] at ej
            obtain ⟨t5, ht5⟩ : ∃ t, (M.above L i).getD k false = t := ⟨_, rfl⟩
            have HNx : Aside (M.isF L x y k (s + 1) = (q && !((t3 && t4) && t5))) := by
              unfold Aside
              rw [M.isF, HQ.out, ← HI.out, ht5]
              unfold M.both
              rw [ht3, ht4]
            have HT5 : Aside ((M.above L i).getD k false = t5) := ht5
            have hinc : Aside (i + 1 = k + 1 + (s + 1)) := by unfold Aside; omega
            have hdec : Aside (s + 1 + (gk - 1) = n - (k + 1)) := by unfold Aside; omega
            have HCall := HA.out wr i (hbw2.trans (hbs.mono hs2)) hil
            have HCC : Hid (Calls Tryz.prog 100 #[.slice a n cap, .int .i64 ((i : Nat) : Int)] wr fun e w' => e = .returned (.slice (some ⟨wr.heap.size, 0, none⟩) n n) ∧ Bo w' wr.heap.size (M.above L i) ∧ Below wr.heap.size wr w') := HCall
            clear HCall ht3 ht4 ht5 hq h1 h2
            cases t3 with
            | false =>
              go_wp2
              go_roundg (gk - 1)
              case measure => omega
              case rel => exact ⟨s + 1, i + 1, hinc, hdec, by rw [HNx.out]; simp, by go_num, HOs, hbs⟩
            | true =>
              cases t4 with
              | false =>
                go_wp2
                go_roundg (gk - 1)
                case measure => omega
                case rel => exact ⟨s + 1, i + 1, hinc, hdec, by rw [HNx.out]; simp, by go_num, HOs, hbs⟩
              | true =>
                go_wp2_with fail
                refine HCC.out.mono ?_
                rintro e w5 ⟨rfl, b5, hb5⟩
                have c5 := b5.cell (i := k) (by rw [M.above_len, HL.out]; exact hlt)
                rw [HT5.out] at c5
                have HOs5 : Aside (OwnI w5 w2.heap.size u9 (M.sel (M.isBase L x y) k)) := HOs.out.below hb5
                have hbs5 : Below w2.heap.size w2 w5 := hbs.trans (hb5.mono hbs.size)
                clear b5 hb5 HCC
                cases t5 with
                | true =>
                  go_wp2
                  go_roundg (gk - 1)
                  case measure => omega
                  case rel => exact ⟨s + 1, i + 1, hinc, hdec, by rw [HNx.out]; simp, by go_num, HOs5, hbs5⟩
                | false =>
                  go_wp2
                  go_roundg (gk - 1)
                  case measure => omega
                  case rel => exact ⟨s + 1, i + 1, hinc, hdec, by rw [HNx.out]; simp, by go_num, HOs5, hbs5⟩
          · have hse : s = n - (k + 1) := by omega
            have hid : decide ((i : Int) < (n : Int)) = false := by simp; omega
            have HQ2 : Aside (M.isBase L x y k = q) := by unfold Aside; rw [← HBa.out k hlt, ← hse]; exact HQ.out
            have hsz := hbs.size
            clear hse hq h1 h2
            cases q with
            | true =>
              have HSl : Aside (M.sel (M.isBase L x y) (k + 1) = M.sel (M.isBase L x y) k ++ [(k : Int)]) := by unfold Aside; rw [M.sel, if_pos HQ2.out]
              have HO1 : Aside (OwnI (wr.alloc (.cells #[.int .i64 (k : Int)] 3)) w2.heap.size u9 (M.sel (M.isBase L x y) k)) := World.ownsRow.alloc HOs.out _
              have HLe : Aside ((M.sel (M.isBase L x y) k).length + 1 ≤ 1000000) := by have := M.sel_len (M.isBase L x y) k; unfold Aside; omega
              go_wp2_with (at_builtin; refine append_ri rfl _ _ rfl w2.heap.size _ (M.sel (M.isBase L x y) k) rfl HO1.out wr.heap.size 1 1 [(k : Int)] rfl rfl (ri_one wr _) HLe.out (by simp; omega) ?_)
              intro v' w' ho' hb4 _
              have HO' : Aside (OwnI w' w2.heap.size v' (M.sel (M.isBase L x y) (k + 1))) := by unfold Aside; rw [HSl.out]; exact ho'
              have hb5 : Below w2.heap.size w2 w' := (hbs.alloc hbs.size _).trans hb4
              clear ho' hb4 HO1
              go_wp2
              go_roundg (n - (k + 1))
              case measure => omega
              case rel => exact ⟨k + 1, by omega, by go_num, HO', hb5⟩
            | false =>
              have HO' : Aside (OwnI wr w2.heap.size u9 (M.sel (M.isBase L x y) (k + 1))) := by unfold Aside; rw [M.sel, if_neg (by rw [HQ2.out]; simp)]; exact HOs.out
              go_wp2
              go_roundg (n - (k + 1))
              case measure => omega
              case rel => exact ⟨k + 1, by omega, by go_num, HO', hbs⟩)
    · obtain rfl : k = n := by omega
      have HO' : Aside (OwnI wr w2.heap.size u9 (M.bases L x y)) := by unfold Aside M.bases; rw [HL.out]; exact HO.out
      go_wp2
      go_ret
      rw [HXE.out]
      exact ⟨_, rfl, HO'.out.mono hs2, hbw2.trans (hbel.mono hs2)⟩
end Go.Proofs.YtcgpgflnihjpiagGreat
