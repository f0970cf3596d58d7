/- The reference's MergeOf. -/
import Derived.Test.YtcgpgflnihjpiadThree3
namespace Go.Proofs.Ytcgpgflnihjpiad
open Go.RowKit

theorem all_onem (cs : Array Value) (f : Nat → Int) (h : cs.size = 100) (hc : ∀ i : Nat, i < 100 → cs[i]? = some (.int .i64 (f i))) : cs.all (·.oneCell') = true := by
  refine Array.all_eq_true_iff_forall_mem.2 fun v hv => ?_
  obtain ⟨j, hj, e⟩ := Array.mem_iff_getElem.1 hv
  have h2 := hc j (by rw [← h]; exact hj)
  rw [Array.getElem?_eq_getElem hj, e] at h2
  cases h2
  rfl

set_option maxRecDepth 100000 in
set_option maxHeartbeats 16000000 in
theorem mergeOf_good (a1 a2 a3 : Option Addr) (n1 n2 n3 c1 c2 c3 : Nat) (b l m : List (Int × Int)) (w : World) (h1 : Rd w a1 n1 b) (h2 : Rd w a2 n2 l) (h3 : Rd w a3 n3 m) (z1 : M.chk b = 0) (z2 : M.chk l = 0) (z3 : M.chk m = 0) :
    Calls Try.prog 20 #[.slice a1 n1 c1, .slice a2 n2 c2, .slice a3 n3 c3] w fun e w' => Hands3O w w' (M.mergeV b l m) (M.mergeK b l m) (M.mergeE b l m) e := by
  obtain ⟨Z, hZ, hz⟩ := zeroTable
  have k1 : n1 ≤ 40 := by rw [← h1.1]; exact ((M.chk_zero b).1 z1).1
  have k2 : n2 ≤ 40 := by rw [← h2.1]; exact ((M.chk_zero l).1 z2).1
  have k3 : n3 ≤ 40 := by rw [← h3.1]; exact ((M.chk_zero m).1 z3).1
  have H1 : Hid (Rd w a1 n1 b) := h1
  have H2 : Hid (Rd w a2 n2 l) := h2
  have H3 : Hid (Rd w a3 n3 m) := h3
  have e0 : M.mergeE b l m = if 40 < (M.mrows b l m).length then 2 else 0 := by unfold M.mergeE; rw [z1, z2, z3]; simp
  have HE0 : Hid (M.mergeE b l m = if 40 < (M.mrows b l m).length then 2 else 0) := e0
  have E1 : Hid (∀ W, Below w.heap.size w W → Calls Try.prog 46 #[.slice a1 n1 c1] W fun e w' => e = .returned (.int .i64 0) ∧ Below W.heap.size W w') := fun W hW => by have := error_any a1 n1 c1 b W (h1.below hW (Nat.le_refl _)) (by omega); rwa [z1] at this
  have E2 : Hid (∀ W, Below w.heap.size w W → Calls Try.prog 46 #[.slice a2 n2 c2] W fun e w' => e = .returned (.int .i64 0) ∧ Below W.heap.size W w') := fun W hW => by have := error_any a2 n2 c2 l W (h2.below hW (Nat.le_refl _)) (by omega); rwa [z2] at this
  have E3 : Hid (∀ W, Below w.heap.size w W → Calls Try.prog 46 #[.slice a3 n3 c3] W fun e w' => e = .returned (.int .i64 0) ∧ Below W.heap.size W w') := fun W hW => by have := error_any a3 n3 c3 m W (h3.below hW (Nat.le_refl _)) (by omega); rwa [z3] at this
  obtain ⟨Wa, hWa⟩ : ∃ Wa, Wa = w.alloc (.cells #[.slice a1 n1 c1, .slice a2 n2 c2, .slice a3 n3 c3] 22) := ⟨_, rfl⟩
  have ba : Below w.heap.size w Wa := by rw [hWa]; exact (Below.refl _ _).alloc (Nat.le_refl _) _
  have hWs : w.heap.size < Wa.heap.size := by rw [hWa]; simp
  have q0 : Wa.cell? ⟨w.heap.size, 0, none⟩ = some (.slice a1 n1 c1) := by rw [hWa]; simp [go_sem]
  have q1 : Wa.cell? ⟨w.heap.size, 1, none⟩ = some (.slice a2 n2 c2) := by rw [hWa]; simp [go_sem]
  have q2 : Wa.cell? ⟨w.heap.size, 2, none⟩ = some (.slice a3 n3 c3) := by rw [hWa]; simp [go_sem]
  have HWa : Hid (Wa = w.alloc (.cells #[.slice a1 n1 c1, .slice a2 n2 c2, .slice a3 n3 c3] 22)) := hWa
  clear h1 h2 h3 z1 z2 z3 e0 hWa
  go_enter Try.func20, Try.ntmps20
  go_wp2
  rw [← HWa.out]
  refine wp_loop_rounds 4 ?_
  rw [rounds_succ]
  go_wp2_with fail
  refine (E1.out _ ba).mono ?_
  rintro e w1 ⟨rfl, hb1⟩
  have b1 := ba.trans (hb1.mono ba.size)
  have p1 : w1.cell? ⟨w.heap.size, 1, none⟩ = some (.slice a2 n2 c2) := (hb1.cell (p := ⟨w.heap.size, 1, none⟩) hWs).trans q1
  have p2 : w1.cell? ⟨w.heap.size, 2, none⟩ = some (.slice a3 n3 c3) := (hb1.cell (p := ⟨w.heap.size, 2, none⟩) hWs).trans q2
  have hs1 : w.heap.size < w1.heap.size := Nat.lt_of_lt_of_le hWs hb1.size
  clear q0 q1 q2 hb1 hWs ba HWa
  go_wp2
  rw [rounds_succ]
  go_wp2_with fail
  refine (E2.out _ b1).mono ?_
  rintro e w2 ⟨rfl, hb2⟩
  have b2 := b1.trans (hb2.mono b1.size)
  have r2 : w2.cell? ⟨w.heap.size, 2, none⟩ = some (.slice a3 n3 c3) := (hb2.cell (p := ⟨w.heap.size, 2, none⟩) hs1).trans p2
  clear p1 p2 hb2 b1 hs1
  go_wp2
  rw [rounds_succ]
  go_wp2_with fail
  refine (E3.out _ b2).mono ?_
  rintro e w3 ⟨rfl, hb3⟩
  have b3 := b2.trans (hb3.mono b2.size)
  clear r2 hb3 b2
  go_wp2
  rw [rounds_succ]
  go_wp2_with fail
  refine (spread_any a1 n1 c1 b _ (H1.out.below b3 (Nat.le_refl _)) k1).mono ?_
  rintro e w4 ⟨cx, rfl, hcx, hfx, hb4⟩
  have b4 := b3.trans (hb4.mono b3.size)
  have HCX : Aside (cx.size = 100) := hcx
  have HFX : Aside (∀ i : Nat, i < 100 → cx[i]? = some (.int .i64 (M.find i b))) := hfx
  clear hcx hfx hb4 b3
  go_wp2_with fail
  refine (spread_any a2 n2 c2 l _ (H2.out.below b4 (Nat.le_refl _)) k2).mono ?_
  rintro e w5 ⟨cy, rfl, hcy, hfy, hb5⟩
  have b5 := b4.trans (hb5.mono b4.size)
  have HCY : Aside (cy.size = 100) := hcy
  have HFY : Aside (∀ i : Nat, i < 100 → cy[i]? = some (.int .i64 (M.find i l))) := hfy
  clear hcy hfy hb5 b4
  go_wp2_with fail
  refine (spread_any a3 n3 c3 m _ (H3.out.below b5 (Nat.le_refl _)) k3).mono ?_
  rintro e w6 ⟨cz, rfl, hcz, hfz, hb6⟩
  have b6 := b5.trans (hb6.mono b5.size)
  have HCZ : Aside (cz.size = 100) := hcz
  have HFZ : Aside (∀ i : Nat, i < 100 → cz[i]? = some (.int .i64 (M.find i m))) := hfz
  clear hcz hfz hb6 b5 E1 E2 E3 H1 H2 H3
  obtain ⟨S, hS⟩ : ∃ S, S = w6.heap.size := ⟨_, rfl⟩
  obtain ⟨V3, hV3⟩ : ∃ V3, V3 = ((w6.alloc (.cells Z 84)).alloc (.cells Z 84)).alloc (.cells Z 84) := ⟨_, rfl⟩
  have g0 : V3.heap[S]? = some (.cells Z 84 (0, 0)) := by rw [hV3, hS]; exact (Below.heap_alloc _ _ _ (by simp; omega)).trans ((Below.heap_alloc _ _ _ (by simp)).trans (heap_alloc_new w6 _))
  have g1 : V3.heap[S + 1]? = some (.cells Z 84 (0, 0)) := by rw [hV3, hS]; exact (Below.heap_alloc _ _ _ (by simp)).trans (by rw [show w6.heap.size + 1 = (w6.alloc (.cells Z 84)).heap.size by simp]; exact heap_alloc_new _ _)
  have g2 : V3.heap[S + 1 + 1]? = some (.cells Z 84 (0, 0)) := by rw [hV3, hS, show w6.heap.size + 1 + 1 = ((w6.alloc (.cells Z 84)).alloc (.cells Z 84)).heap.size by simp]; exact heap_alloc_new _ _
  have bV3 : Below w6.heap.size w6 V3 := by rw [hV3]; exact (((Below.refl _ _).alloc (Nat.le_refl _) _).alloc (by simp) _).alloc (by simp; omega) _
  obtain ⟨V4, hV4⟩ : ∃ V4, V4 = V3.setRow S cx := ⟨_, rfl⟩
  obtain ⟨V5, hV5⟩ : ∃ V5, V5 = V4.setRow (S + 1) cy := ⟨_, rfl⟩
  obtain ⟨V6, hV6⟩ : ∃ V6, V6 = V5.setRow (S + 1 + 1) cz := ⟨_, rfl⟩
  have g4 : V4.heap[S + 1]? = some (.cells Z 84 (0, 0)) := by rw [hV4]; exact (setRow_other _ _ _ _ (by omega)).trans g1
  have g5 : V5.heap[S + 1 + 1]? = some (.cells Z 84 (0, 0)) := by rw [hV5, setRow_other _ _ _ _ (by omega), hV4]; exact (setRow_other _ _ _ _ (by omega)).trans g2
  have GX : Aside (V6.heap[S]? = some (.cells cx 84 (0, 0))) := by unfold Aside; rw [hV6, setRow_other _ _ _ _ (by omega), hV5, setRow_other _ _ _ _ (by omega), hV4]; exact setRow_heap _ _ Z cx _ _ g0
  have GY : Aside (V6.heap[S + 1]? = some (.cells cy 84 (0, 0))) := by unfold Aside; rw [hV6, setRow_other _ _ _ _ (by omega), hV5]; exact setRow_heap _ _ Z cy _ _ g4
  have GZ : Aside (V6.heap[S + 1 + 1]? = some (.cells cz 84 (0, 0))) := by unfold Aside; rw [hV6]; exact setRow_heap _ _ Z cz _ _ g5
  have hV6s : V6.heap.size = S + 1 + 1 + 1 := by rw [hV6, hV5, hV4, hV3, hS]; simp
  have bV6 : Below w6.heap.size w6 V6 := by rw [hV6, hV5, hV4]; exact below_setRow (below_setRow (below_setRow bV3 (by omega) _) (by omega) _) (by omega) _
  have b7 : Below w.heap.size w V6 := b6.trans (bV6.mono b6.size)
  have hwS : w.heap.size ≤ S := by rw [hS]; exact b6.size
  have G0 : Hid (V3.heap[S]? = some (.cells Z 84 (0, 0))) := g0
  have G4 : Hid (V4.heap[S + 1]? = some (.cells Z 84 (0, 0))) := g4
  have G5 : Hid (V5.heap[S + 1 + 1]? = some (.cells Z 84 (0, 0))) := g5
  have HV3 : Hid (V3 = ((w6.alloc (.cells Z 84)).alloc (.cells Z 84)).alloc (.cells Z 84)) := hV3
  have HV4 : Hid (V4 = V3.setRow S cx) := hV4
  have HV5 : Hid (V5 = V4.setRow (S + 1) cy) := hV5
  have HV6 : Hid (V6 = V5.setRow (S + 1 + 1) cz) := hV6
  have HS : Hid (S = w6.heap.size) := hS
  have HZs : Hid (Z.size = 100) := hZ
  have HVs : Aside (V6.heap.size = S + 1 + 1 + 1) := hV6s
  clear hV3 hV4 hV5 hV6 g0 g1 g2 g4 g5 hS hZ bV3 bV6 b6 hV6s
  have OX := all_onem cx _ HCX.out HFX.out
  have OY := all_onem cy _ HCY.out HFY.out
  have OZ := all_onem cz _ HCZ.out HFZ.out
  have HOX : Hid (cx.all (·.oneCell') = true) := OX
  have HOY : Hid (cy.all (·.oneCell') = true) := OY
  have HOZ : Hid (cz.all (·.oneCell') = true) := OZ
  clear OX OY OZ
  go_wp2_with (first
    | (refine wpList_store_row rfl 84 _ _ rfl w6.heap.size cx rfl rfl 84 Z (by rw [← HV3.out, ← HS.out]; exact G0.out) (by rw [HCX.out]; exact infoTable) (by rw [HCX.out]; exact HZs.out) HOX.out ?_; rw [← HV3.out, ← HS.out, ← HV4.out])
    | (refine wpList_store_row rfl 84 _ _ rfl (S + 1) cy rfl rfl 84 Z G4.out (by rw [HCY.out]; exact infoTable) (by rw [HCY.out]; exact HZs.out) HOY.out ?_; rw [← HV5.out])
    | (refine wpList_store_row rfl 84 _ _ rfl (S + 1 + 1) cz rfl rfl 84 Z G5.out (by rw [HCZ.out]; exact infoTable) (by rw [HCZ.out]; exact HZs.out) HOZ.out ?_; rw [← HV6.out]))
  go_loopg [15, 16] 100 (fun g v ix wr => ∃ (k : Nat) (ys : Array Value), k + g = 100 ∧ ix = .int .i64 k ∧ Aside (OwnI wr V6.heap.size v (M.sel (fun k => M.mclash (M.find k b) (M.find k l) (M.find k m)) k)) ∧ Aside (wr.heap[S]? = some (.cells cx 84 (0, 0))) ∧ Aside (wr.heap[S + 1]? = some (.cells ys 84 (0, 0))) ∧ Aside (wr.heap[S + 1 + 1]? = some (.cells cz 84 (0, 0))) ∧ Aside (ys.size = 100) ∧ Aside (∀ i : Nat, i < 100 → ys[i]? = some (.int .i64 (if i < k then M.mtab b l m i else M.find i l))) ∧ Aside (V6.heap.size ≤ wr.heap.size) ∧ Below w.heap.size w wr)
  case atStart => exact ⟨0, cy, by omega, rfl, OwnI.nil _ _, GX, GY, GZ, HCY, fun i hi => by rw [if_neg (by omega)]; exact HFY.out i hi, Nat.le_refl _, b7⟩
  case round =>
    obtain ⟨k, ys, hk, rfl, HO, RX, RY, RZ, HYs, HYf, HSz, hbel⟩ := hrel
    by_cases hlt : k < 100
    · have hki : (k : Int) ≤ 99 := by omega
      obtain ⟨x, hx⟩ : ∃ x, x = M.find (k : Int) b := ⟨_, rfl⟩
      obtain ⟨y, hy⟩ : ∃ y, y = M.find (k : Int) l := ⟨_, rfl⟩
      obtain ⟨z, hzz⟩ : ∃ z, z = M.find (k : Int) m := ⟨_, rfl⟩
      have cX : wr.cell? ⟨S, k, none⟩ = some (.int .i64 x) := by rw [cell_of_row wr _ k cx _ _ RX.out, HFX.out k hlt, hx]
      have cY : wr.cell? ⟨S + 1, k, none⟩ = some (.int .i64 y) := by rw [cell_of_row wr _ k ys _ _ RY.out, HYf.out k hlt, if_neg (by omega), hy]
      have cZ : wr.cell? ⟨S + 1 + 1, k, none⟩ = some (.int .i64 z) := by rw [cell_of_row wr _ k cz _ _ RZ.out, HFZ.out k hlt, hzz]
      have fY : wr.frozen? ⟨S + 1, k, none⟩ = false := frozen_of_row wr _ k ys _ RY.out
      have hmt : M.mtab b l m (k : Int) = M.mval x y z := by unfold M.mtab; rw [← hx, ← hy, ← hzz]
      have hmc : M.sel (fun k => M.mclash (M.find k b) (M.find k l) (M.find k m)) (k + 1) = if M.mclash x y z = true then M.sel (fun k => M.mclash (M.find k b) (M.find k l) (M.find k m)) k ++ [(k : Int)] else M.sel (fun k => M.mclash (M.find k b) (M.find k l) (M.find k m)) k := by rw [M.sel, ← hx, ← hy, ← hzz]
      have HY0 : Aside (y = M.find (k : Int) l) := hy
      have keepF : M.mval x y z = y → Aside (∀ i : Nat, i < 100 → ys[i]? = some (.int .i64 (if i < k + 1 then M.mtab b l m i else M.find i l))) := fun he i hi => by
        rw [HYf.out i hi]
        by_cases e : i = k
        · subst e; rw [if_neg (by omega), if_pos (by omega), hmt, he, HY0.out]
        · by_cases e2 : i < k
          · rw [if_pos e2, if_pos (by omega)]
          · rw [if_neg e2, if_neg (by omega)]
      clear hx hy hzz
      by_cases hyz : y = z
      · have hb1 : (y == z) = true := by simp [hyz]
        have HYf' := keepF (by unfold M.mval; rw [if_pos hyz])
        have HO' : Aside (OwnI wr V6.heap.size u15 (M.sel (fun k => M.mclash (M.find k b) (M.find k l) (M.find k m)) (k + 1))) := by unfold Aside; rw [hmc, if_neg (by unfold M.mclash; simp [hyz])]; exact HO.out
        clear hyz keepF hmt hmc
        go_wp2_with fail
        go_quiet (fail)
        go_wp2
        go_roundg (gk - 1)
        case measure => omega
        case rel => exact ⟨k + 1, ys, by omega, by go_num, HO', RX, RY, RZ, HYs, HYf', HSz, below_drewN hbel _⟩
      · have hb1 : (y == z) = false := by simp [hyz]
        by_cases hyx : y = x
        · have hb2 : (y == x) = true := by simp [hyx]
          have HO' : Aside (OwnI wr V6.heap.size u15 (M.sel (fun k => M.mclash (M.find k b) (M.find k l) (M.find k m)) (k + 1))) := by unfold Aside; rw [hmc, if_neg (by unfold M.mclash; simp [hyx])]; exact HO.out
          have hmz : M.mval x y z = z := by unfold M.mval; rw [if_neg hyz, if_pos hyx]
          have HYf' : Aside (∀ i : Nat, i < 100 → (ys.setIfInBounds k (.int .i64 z))[i]? = some (.int .i64 (if i < k + 1 then M.mtab b l m i else M.find i l))) := fun i hi => by
            rw [set_get ys k i _ (by rw [HYs.out]; exact hlt)]
            by_cases e : k = i
            · subst e; rw [if_pos rfl, if_pos (by omega), hmt, hmz]
            · rw [if_neg e, HYf.out i hi]
              by_cases e2 : i < k
              · rw [if_pos e2, if_pos (by omega)]
              · rw [if_neg e2, if_neg (by omega)]
          have HYs' : Aside ((ys.setIfInBounds k (.int .i64 z)).size = 100) := by simpa [Aside] using HYs.out
          have hne15 : ∀ q, u15.ownBlock = some q → q ≠ S + 1 := fun q hq e => by
            have := (World.ownsRow.lt HO.out q hq).1
            have h2 := HVs.out
            omega
          have HO2 : ∀ W : World, W.heap = wr.heap → Aside (OwnI (W.setCell ⟨S + 1, k, none⟩ (.int .i64 z)) V6.heap.size u15 (M.sel (fun k => M.mclash (M.find k b) (M.find k l) (M.find k m)) (k + 1))) := fun W hW => keep_row HO'.out (fun q _ e => by rw [heap_setCell_other W ⟨S + 1, k, none⟩ q _ (hne15 q e), hW])
          have RX2 : ∀ W : World, W.heap = wr.heap → Aside ((W.setCell ⟨S + 1, k, none⟩ (.int .i64 z)).heap[S]? = some (.cells cx 84 (0, 0))) := fun W hW => (heap_setCell_other W ⟨S + 1, k, none⟩ S _ (by show S ≠ S + 1; omega)).trans (by rw [hW]; exact RX.out)
          have RY2 : ∀ W : World, W.heap = wr.heap → Aside ((W.setCell ⟨S + 1, k, none⟩ (.int .i64 z)).heap[S + 1]? = some (.cells (ys.setIfInBounds k (.int .i64 z)) 84 (0, 0))) := fun W hW => heap_setCell_same W _ k ys _ _ (by rw [hW]; exact RY.out)
          have RZ2 : ∀ W : World, W.heap = wr.heap → Aside ((W.setCell ⟨S + 1, k, none⟩ (.int .i64 z)).heap[S + 1 + 1]? = some (.cells cz 84 (0, 0))) := fun W hW => (heap_setCell_other W ⟨S + 1, k, none⟩ (S + 1 + 1) _ (by show S + 1 + 1 ≠ S + 1; omega)).trans (by rw [hW]; exact RZ.out)
          clear hyz hyx keepF hmt hmc hmz
          go_wp2_with fail
          go_quiet (fail)
          go_wp2_with fail
          go_quiet (fail)
          go_wp2
          go_roundg (gk - 1)
          case measure => omega
          case rel => exact ⟨k + 1, ys.setIfInBounds k (.int .i64 z), by omega, by go_num, HO2 _ rfl, RX2 _ rfl, RY2 _ rfl, RZ2 _ rfl, HYs', HYf', by unfold Aside; simpa [World.setCell] using HSz.out, (below_drewN hbel _).setCell (p := ⟨S + 1, k, none⟩) (by show w.heap.size ≤ S + 1; omega) _⟩
        · have hb2 : (y == x) = false := by simp [hyx]
          have HYf' := keepF (by unfold M.mval; rw [if_neg hyz, if_neg hyx])
          by_cases hzx : z = x
          · have hb3 : (z == x) = true := by simp [hzx]
            have HO' : Aside (OwnI wr V6.heap.size u15 (M.sel (fun k => M.mclash (M.find k b) (M.find k l) (M.find k m)) (k + 1))) := by unfold Aside; rw [hmc, if_neg (by unfold M.mclash; simp [hzx])]; exact HO.out
            clear hyz hyx hzx keepF hmt hmc
            go_wp2_with fail
            go_quiet (fail)
            go_wp2_with fail
            go_quiet (fail)
            go_wp2_with fail
            go_quiet (fail)
            go_wp2
            go_roundg (gk - 1)
            case measure => omega
            case rel => exact ⟨k + 1, ys, by omega, by go_num, HO', RX, RY, RZ, HYs, HYf', HSz, below_drewN hbel _⟩
          · have hb3 : (z == x) = false := by simp [hzx]
            have HSl : Aside (M.sel (fun k => M.mclash (M.find k b) (M.find k l) (M.find k m)) (k + 1) = M.sel (fun k => M.mclash (M.find k b) (M.find k l) (M.find k m)) k ++ [(k : Int)]) := by unfold Aside; rw [hmc, if_pos (by unfold M.mclash; simp [hyz, hyx, hzx])]
            have HLe : Aside ((M.sel (fun k => M.mclash (M.find k b) (M.find k l) (M.find k m)) k).length + 1 ≤ 1000000) := by have := M.sel_len (fun k => M.mclash (M.find k b) (M.find k l) (M.find k m)) k; unfold Aside; omega
            clear hyz hyx hzx keepF hmt hmc
            go_wp2_with fail
            go_quiet (fail)
            go_wp2_with fail
            go_quiet (fail)
            go_wp2_with fail
            go_quiet (fail)
            obtain ⟨Wd, hWd⟩ : ∃ Wd : World, Wd.heap = wr.heap ∧ Wd.os = wr.os ∧ Wd.tape = wr.tape ∧ Wd.output = wr.output := ⟨wr, rfl, rfl, rfl, rfl⟩
            clear hWd Wd
            have HOd : ∀ W : World, W.heap = wr.heap → OwnI (W.alloc (.cells #[.int .i64 (k : Int)] 3)) V6.heap.size u15 (M.sel (fun k => M.mclash (M.find k b) (M.find k l) (M.find k m)) k) := fun W hW => World.ownsRow.alloc (show W.ownsRow _ _ _ _ _ _ from keep_row HO.out (fun q _ _ => by rw [hW])) _
            have HOD : Hid (∀ W : World, W.heap = wr.heap → OwnI (W.alloc (.cells #[.int .i64 (k : Int)] 3)) V6.heap.size u15 (M.sel (fun k => M.mclash (M.find k b) (M.find k l) (M.find k m)) k)) := HOd
            clear HOd
            go_wp2_with (at_builtin; refine append_ri rfl _ _ rfl V6.heap.size _ (M.sel (fun k => M.mclash (M.find k b) (M.find k l) (M.find k m)) k) rfl (HOD.out _ rfl) wr.heap.size 1 1 [(k : Int)] rfl rfl (ri_one (wr.drewN _) _) HLe.out (by have := HSz.out; simp; omega) ?_)
            intro v' w' ho' hb4 hkeep
            have HO' : Aside (OwnI w' V6.heap.size v' (M.sel (fun k => M.mclash (M.find k b) (M.find k l) (M.find k m)) (k + 1))) := by unfold Aside; rw [HSl.out]; exact ho'
            have hSl := (Array.getElem?_eq_some_iff.1 RZ.out).1
            have same : ∀ q, q ≤ S + 1 + 1 → w'.heap[q]? = wr.heap[q]? := fun q hq => by
              have h2 := HVs.out
              exact (hb4.block q (by omega)).trans (Below.heap_alloc _ _ q (show q < wr.heap.size by omega))
            have RX2 : Aside (w'.heap[S]? = some (.cells cx 84 (0, 0))) := (same S (by omega)).trans RX.out
            have RY2 : Aside (w'.heap[S + 1]? = some (.cells ys 84 (0, 0))) := (same (S + 1) (by omega)).trans RY.out
            have RZ2 : Aside (w'.heap[S + 1 + 1]? = some (.cells cz 84 (0, 0))) := (same (S + 1 + 1) (by omega)).trans RZ.out
            have HSz2 : Aside (V6.heap.size ≤ w'.heap.size) := by have h1 := hb4.size; have h2 := HSz.out; simp at h1; unfold Aside; omega
            have hb5 : Below w.heap.size w w' := ((below_drewN hbel _).alloc hbel.size _).trans (hb4.mono (by rw [HVs.out]; omega))
            clear ho' hb4 hkeep HOD same
            go_wp2
            go_roundg (gk - 1)
            case measure => omega
            case rel => exact ⟨k + 1, ys, by omega, by go_num, HO', RX2, RY2, RZ2, HYs, HYf', HSz2, hb5⟩
    · obtain rfl : k = 100 := by omega
      have HYf2 : ∀ i : Nat, i < 100 → ys[i]? = some (.int .i64 (M.mtab b l m i)) := fun i hi => by rw [HYf.out i hi, if_pos hi]
      have HFo := folded_any ys (fun i => M.mtab b l m i) wr HYf2
      have HFF : Hid (Calls Try.prog 48 #[.agg ys] wr fun e w' => ∃ v, e = .returned v ∧ Own w' (wr.heap.size + 1) v (M.mrows b l m) ∧ Below wr.heap.size wr w') := HFo
      obtain ⟨ua, uc, hue, hur, hul, hum⟩ := OwnI.ri HO.out
      have HUr : Hid (Ri wr ua (M.mkeys b l m).length (M.mkeys b l m)) := hur
      have hue2 : u15 = .slice ua (M.mkeys b l m).length uc := hue
      obtain ⟨un, hun⟩ : ∃ un, un = (M.mkeys b l m).length := ⟨_, rfl⟩
      have hul2 : un ≤ uc := by rw [hun]; exact hul
      rw [← hun] at hue2 HUr
      subst hue2
      clear hue hur hul hun HYf2 HFo HO
      have hki : decide ((100 : Int) ≤ 99) = false := by decide
      go_wp2_with (refine wpList_load_row rfl 84 _ rfl (S + 1) rfl 84 ys _ _ RY.out Try.underlying84 rfl (by rw [HYs.out]; exact infoTable) ?_)
      refine HFF.out.mono ?_
      rintro e w8 ⟨v, rfl, ho8, hb8⟩
      obtain ⟨ra, rc, rfl, hr8, hn8, hc8, hz8⟩ := ho8.rd
      obtain ⟨rn, hrn⟩ : ∃ rn, rn = (M.mrows b l m).length := ⟨_, rfl⟩
      rw [← hrn] at hr8 hn8 hz8 ⊢
      have HR8 : Hid (Rd w8 ra rn (M.mrows b l m)) := hr8
      have HZ8 : Hid (ra = none → rn = 0 ∧ rc = 0) := hz8
      have HOw : Hid (Own w8 w.heap.size (.slice ra rn rc) (M.mrows b l m)) := by unfold Hid; rw [hrn]; exact Own.lower ho8 (by have := hbel.size; omega)
      have HU8 : Hid (Ri w8 ua un (M.mkeys b l m)) := HUr.out.below hb8 (Nat.le_refl _)
      have b8 : Below w.heap.size w w8 := hbel.trans (hb8.mono hbel.size)
      have HRN : Hid (rn = (M.mrows b l m).length) := hrn
      clear hr8 hz8 hb8 ho8 hrn HFF HUr
      have hrm : rn ≤ 9223372036854775807 := by unfold maxLen at hc8; omega
      by_cases h40 : 40 < rn
      · have e0 : M.mergeE b l m = 2 := by rw [HE0.out, if_pos (by rw [← HRN.out]; exact h40)]
        have F : Hid (Hands3O w w8 (M.mergeV b l m) (M.mergeK b l m) (M.mergeE b l m) (.returned (.tuple #[.slice none 0 0, .slice none 0 0, .int .i64 2]))) := by
          unfold M.mergeV M.mergeK
          rw [e0, if_neg (by omega), if_neg (by omega)]
          exact Hands3O.err 2 b8
        clear e0
        go_wp2
        go_ret3
        exact F.out
      · have e0 : M.mergeE b l m = 0 := by rw [HE0.out, if_neg (by rw [← HRN.out]; exact h40)]
        have F : Hid (Hands3O w w8 (M.mergeV b l m) (M.mergeK b l m) (M.mergeE b l m) (.returned (.tuple #[.slice ra rn rc, .slice ua un uc, .int .i64 0]))) := by
          unfold M.mergeV M.mergeK
          rw [e0, if_pos rfl, if_pos rfl]
          exact ⟨ra, rn, rc, ua, un, uc, rfl, HR8.out, hn8, hc8, ⟨HZ8.out, HOw.out⟩, HU8.out, hul2, hum, b8⟩
        clear e0
        go_wp2
        go_ret3
        exact F.out
end Go.Proofs.Ytcgpgflnihjpiad
