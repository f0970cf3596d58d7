/- The reference's differ, DiffOf. -/
import Derived.Test.YtoeipmoonmgajacRPatch
import Derived.Test.YtoeipmoonmgajacRTree
import Derived.Test.YtoeipmoonmgajacDif4
namespace Go.Proofs.Ytoeipmoonmgajac
open Go.RowKit

set_option maxRecDepth 100000 in
set_option maxHeartbeats 16000000 in
theorem differ_any (a1 a2 : Option Addr) (n1 n2 c1 c2 : Nat) (l m : List (Int × Int)) (w : World) (h1 : Rd w a1 n1 l) (h2 : Rd w a2 n2 m) (z1 : M.chk l = 0) (z2 : M.chk m = 0) :
    Calls Try.prog 47 #[.slice a1 n1 c1, .slice a2 n2 c2] w fun e w' => ∃ va vn vc, e = .returned (.slice va vn vc) ∧ Rc w' va vn (M.dif l m) ∧ vn ≤ vc ∧ vc ≤ maxLen ∧ Below w.heap.size w w' := by
  obtain ⟨Z, hZ, hz⟩ := zeroTable
  have k1 : n1 ≤ 40 := by rw [← h1.1]; exact ((M.chk_zero l).1 z1).1
  have k2 : n2 ≤ 40 := by rw [← h2.1]; exact ((M.chk_zero m).1 z2).1
  have H2 : Hid (Rd w a2 n2 m) := h2
  have SP1 := spread_any a1 n1 c1 l w h1 k1
  clear h1 h2 z1 z2
  go_enter Try.func47, Try.ntmps47
  go_wp2_with fail
  refine SP1.mono ?_
  rintro e w4 ⟨cx, rfl, hcx, hfx, b4⟩
  have HCX : Aside (cx.size = 100) := hcx
  have HFX : Aside (∀ i : Nat, i < 100 → cx[i]? = some (.int .i64 (M.find i l))) := hfx
  clear hcx hfx SP1
  go_wp2_with fail
  refine (spread_any a2 n2 c2 m _ (H2.out.below b4 (Nat.le_refl _)) k2).mono ?_
  rintro e w5 ⟨cy, rfl, hcy, hfy, hb5⟩
  have b5 := below2 b4 hb5
  have HCY : Aside (cy.size = 100) := hcy
  have HFY : Aside (∀ i : Nat, i < 100 → cy[i]? = some (.int .i64 (M.find i m))) := hfy
  clear hcy hfy hb5 b4 H2
  obtain ⟨S, hS⟩ : ∃ S, S = w5.heap.size := ⟨_, rfl⟩
  obtain ⟨V3, hV3⟩ : ∃ V3, V3 = (w5.alloc (.cells Z 80)).alloc (.cells Z 80) := ⟨_, rfl⟩
  have g0 : V3.heap[S]? = some (.cells Z 80 (0, 0)) := by rw [hV3, hS]; exact (Below.heap_alloc _ _ _ (by simp)).trans (heap_alloc_new w5 _)
  have g1 : V3.heap[S + 1]? = some (.cells Z 80 (0, 0)) := by rw [hV3, hS, show w5.heap.size + 1 = (w5.alloc (.cells Z 80)).heap.size by simp]; exact heap_alloc_new _ _
  have bV3 : Below w5.heap.size w5 V3 := by rw [hV3]; exact ((Below.refl _ _).alloc (Nat.le_refl _) _).alloc (by simp) _
  obtain ⟨V4, hV4⟩ : ∃ V4, V4 = V3.setRow S cx := ⟨_, rfl⟩
  obtain ⟨V5, hV5⟩ : ∃ V5, V5 = V4.setRow (S + 1) cy := ⟨_, rfl⟩
  have g4 : V4.heap[S + 1]? = some (.cells Z 80 (0, 0)) := by rw [hV4]; exact (setRow_other _ _ _ _ (by omega)).trans g1
  have GX : Aside (V5.heap[S]? = some (.cells cx 80 (0, 0))) := by unfold Aside; rw [hV5, setRow_other _ _ _ _ (by omega), hV4]; exact setRow_heap _ _ Z cx _ _ g0
  have GY : Aside (V5.heap[S + 1]? = some (.cells cy 80 (0, 0))) := by unfold Aside; rw [hV5]; exact setRow_heap _ _ Z cy _ _ g4
  have hV5s : V5.heap.size = S + 1 + 1 := by rw [hV5, hV4, hV3, hS]; simp
  have bV5 : Below w5.heap.size w5 V5 := by rw [hV5, hV4]; exact below_setRow (below_setRow bV3 (by omega) _) (by omega) _
  have b7 : Below w.heap.size w V5 := b5.trans (bV5.mono b5.size)
  have hwS : w.heap.size ≤ S := by rw [hS]; exact b5.size
  have G0 : Hid (V3.heap[S]? = some (.cells Z 80 (0, 0))) := g0
  have G4 : Hid (V4.heap[S + 1]? = some (.cells Z 80 (0, 0))) := g4
  have HV3 : Hid (V3 = (w5.alloc (.cells Z 80)).alloc (.cells Z 80)) := hV3
  have HV4 : Hid (V4 = V3.setRow S cx) := hV4
  have HV5 : Hid (V5 = V4.setRow (S + 1) cy) := hV5
  have HS : Hid (S = w5.heap.size) := hS
  have HZs : Hid (Z.size = 100) := hZ
  have HVs : Aside (V5.heap.size = S + 1 + 1) := hV5s
  clear hV3 hV4 hV5 g0 g1 g4 hS hZ bV3 bV5 b5 hV5s
  have HOX : Hid (cx.all (·.oneCell') = true) := all_one cx _ HCX.out HFX.out
  have HOY : Hid (cy.all (·.oneCell') = true) := all_one cy _ HCY.out HFY.out
  have HCells : Hid (∀ W, Below V5.heap.size V5 W → ∀ k : Nat, k < 100 → W.cell? ⟨S, k, none⟩ = some (.int .i64 (M.find k l)) ∧ W.cell? ⟨S + 1, k, none⟩ = some (.int .i64 (M.find k m))) := fun W hW k hk => by
    have hs := HVs.out
    refine ⟨?_, ?_⟩
    · rw [hW.cell (p := ⟨S, k, none⟩) (by show S < _; omega), cell_of_row V5 _ k cx _ _ GX.out]; exact HFX.out k hk
    · rw [hW.cell (p := ⟨S + 1, k, none⟩) (by show S + 1 < _; omega), cell_of_row V5 _ k cy _ _ GY.out]; exact HFY.out k hk
  go_wp2_with (first
    | (refine wpList_store_row rfl 80 _ _ rfl w5.heap.size cx rfl rfl 80 Z (by rw [← HV3.out, ← HS.out]; exact G0.out) (by rw [HCX.out]; exact infoTable) (by rw [HCX.out]; exact HZs.out) HOX.out ?_; rw [← HV3.out, ← HS.out, ← HV4.out])
    | (refine wpList_store_row rfl 80 _ _ rfl (S + 1) cy rfl rfl 80 Z G4.out (by rw [HCY.out]; exact infoTable) (by rw [HCY.out]; exact HZs.out) HOY.out ?_; rw [← HV5.out]))
  go_loopg [7, 8] 100 (fun g v ix wr => ∃ k : Nat, k + g = 100 ∧ ix = .int .i64 k ∧ Aside (OwnC wr V5.heap.size v (M.difF l m k)) ∧ Below V5.heap.size V5 wr)
  case atStart => exact ⟨0, by omega, rfl, OwnC.nil _ _, Below.refl _ _⟩
  case round =>
    obtain ⟨k, hk, rfl, HO, hbel⟩ := hrel
    have hsz := hbel.size
    by_cases hlt : k < 100
    · have hki : (k : Int) ≤ 99 := by omega
      have hki2 : (k : Int) < 100 := by omega
      obtain ⟨cX, cY⟩ := HCells.out wr hbel k hlt
      have HK : Hid (∀ W, Below V5.heap.size wr W → W.cell? ⟨S, k, none⟩ = some (.int .i64 (M.find k l)) ∧ W.cell? ⟨S + 1, k, none⟩ = some (.int .i64 (M.find k m))) := fun W hW => HCells.out W (hbel.trans hW) k hlt
      have HStep : Hid (M.difF l m (k + 1) = if M.find (k : Int) l ≠ M.find (k : Int) m then M.difF l m k ++ [((k : Int), M.find k l, M.find k m)] else M.difF l m k) := rfl
      obtain ⟨x, hx⟩ : ∃ x, x = M.find (k : Int) l := ⟨_, rfl⟩
      obtain ⟨y, hy⟩ : ∃ y, y = M.find (k : Int) m := ⟨_, rfl⟩
      rw [← hx] at cX HK HStep
      rw [← hy] at cY HK HStep
      have HLe : Hid ((M.difF l m k).length + 1 ≤ 1000000) := by have := M.difF_len l m k; unfold Hid; omega
      clear hx hy
      by_cases hxy : x = y
      · have hb : (x != y) = false := by simp [hxy]
        have HO2 : Aside (OwnC wr V5.heap.size u7 (M.difF l m (k + 1))) := by unfold Aside; rw [HStep.out, if_neg (by simp [hxy])]; exact HO.out
        clear hxy HO HStep
        go_wp2_with fail
        go_quiet (fail)
        go_wp2
        go_roundg (gk - 1)
        case measure => omega
        case rel => exact ⟨k + 1, by omega, by go_num, keep_row HO2.out (fun _ _ _ => rfl), below_drewN hbel _⟩
      · have hb : (x != y) = true := by simp [hxy]
        have HS2 : Hid (M.difF l m (k + 1) = M.difF l m k ++ [((k : Int), x, y)]) := by unfold Hid; rw [HStep.out, if_pos hxy]
        have HOD : Hid (∀ W : World, W.heap = wr.heap → OwnC (W.alloc (.cells #[.int .i64 (k : Int), .int .i64 x, .int .i64 y] 50)) V5.heap.size u7 (M.difF l m k)) := fun W hW => HO.out.allocW hW _ _
        clear hxy HO HStep
        go_wp2_with fail
        go_quiet (fail)
        obtain ⟨Wq, hWq⟩ : ∃ Wq, Wq = wr.drewN nq := ⟨_, rfl⟩
        have hqb : Below V5.heap.size wr Wq := by rw [hWq]; exact below_drewN (Below.refl _ _) _
        have hqh : Wq.heap = wr.heap := by rw [hWq]; rfl
        have hqs : Wq.heap.size = wr.heap.size := by rw [hqh]
        obtain ⟨cX2, cY2⟩ := HK.out Wq hqb
        rw [← hWq]
        have HQH : Hid (Wq.heap = wr.heap) := hqh
        have HQB : Hid (Below V5.heap.size wr Wq) := hqb
        have hsq : V5.heap.size ≤ Wq.heap.size := by omega
        clear hWq hqb hqh hqs
        go_wp2_with fail
        go_region_held3 (fun W => W.cell? ⟨S, k, none⟩ = some (.int .i64 x) ∧ W.cell? ⟨S + 1, k, none⟩ = some (.int .i64 y)) (first | (simp [*]; done) | exact hA.out | go_keep) (first | (refine step_append_rc rfl _ _ rfl V5.heap.size _ (M.difF l m k) rfl (HOD.out _ HQH.out) Wq.heap.size (k : Int) x y rfl (rc_cells _ _ _ _) HLe.out (by simp; omega) ?_; intro v5 w6 ho5 hb5; have HB5 : Hid (Below V5.heap.size wr w6) := HQB.out.trans ((((Below.refl _ _).drew).alloc hsq _).trans hb5); have hA : Hid (w6.cell? ⟨S, k, none⟩ = some (.int .i64 x) ∧ w6.cell? ⟨S + 1, k, none⟩ = some (.int .i64 y)) := HK.out w6 HB5.out; obtain ⟨s0, s1⟩ := hA.out; have HO5 : Hid (OwnC w6 V5.heap.size v5 (M.difF l m k ++ [((k : Int), x, y)])) := ho5; clear ho5 hb5))
        have HO2 : Aside (OwnC w6 V5.heap.size v5 (M.difF l m (k + 1))) := by unfold Aside; rw [HS2.out]; exact HO5.out
        have hb4 : Below V5.heap.size V5 w6 := hbel.trans HB5.out
        clear HO5 hA
        go_wp2
        go_roundg (gk - 1)
        case measure => omega
        case rel => exact ⟨k + 1, by omega, by go_num, HO2, hb4⟩
    · obtain rfl : k = 100 := by omega
      obtain ⟨va, vc, hv, hr, hl, hm2⟩ := HO.out.rc
      have HV : Hid (u7 = .slice va (M.difF l m 100).length vc) := hv
      have HVr : Hid (Rc wr va (M.difF l m 100).length (M.difF l m 100)) := hr
      have hki : decide ((100 : Int) ≤ 99) = false := by decide
      clear hv hr
      go_wp2
      go_ret
      exact ⟨va, _, vc, HV.out ▸ rfl, HVr.out, hl, hm2, b7.trans (hbel.mono b7.size)⟩
end Go.Proofs.Ytoeipmoonmgajac
