/- The reference's RepoBytes. -/
import Derived.Test.YtcgpgflnihjpiagByts
import Derived.Test.YtcgpgflnihjpiagWWr
import Derived.Test.YtcgpgflnihjpiagTill
namespace Go.Proofs.Ytcgpgflnihjpiag
open Go.RowKit

set_option maxRecDepth 100000 in
set_option maxHeartbeats 16000000 in
theorem rbytes_any (a : Option Addr) (n cap : Nat) (C : List M.Com) (a2 : Option Addr) (n2 cap2 : Nat) (H : List M.Hd) (w : World) (hC : Cm w a n C) (hH : Hs w a2 n2 H) (hright : M.rchk C H = 0) :
    Calls Try.prog 7 #[.agg #[.slice a n cap, .slice a2 n2 cap2]] w fun e w' => e = .returned (.string (M.str (M.bytesR C H))) ∧ Below w.heap.size w w' := by
  obtain ⟨p, hp⟩ : ∃ p, p = w.heap.size := ⟨_, rfl⟩
  obtain ⟨W, hW⟩ : ∃ W, W = w.alloc (.cells #[.slice a n cap, .slice a2 n2 cap2] 25) := ⟨_, rfl⟩
  have hb : Below w.heap.size w W := by rw [hW]; exact (Below.refl _ _).alloc (Nat.le_refl _) _
  have hWs : W.heap.size = p + 1 := by rw [hW, hp]; simp
  have hW0 : W.heap[p]? = some (.cells #[.slice a n cap, .slice a2 n2 cap2] 25 (0, 0)) := by rw [hW, hp]; exact heap_alloc_new _ _
  have HCm : Hid (Cm W a n C) := hC.below hb (Nat.le_refl _)
  have HHs : Hid (Hs W a2 n2 H) := hH.below hb (Nat.le_refl _)
  have HNC : Aside (C.length = n) := hC.1
  have HNH : Aside (H.length = n2) := hH.1
  have hok := M.right_ok hright
  obtain ⟨a1', a2', _⟩ := M.rchk_zero hright
  have hc14 := (M.dchk_zero a1').1
  rw [hC.1] at hc14
  rw [hH.1] at a2'
  have HOk : Hid (M.okRe (C, H.map M.hdB)) := hok
  have HB1 : Hid (∀ V, Below (p + 1) W V → V.cell? ⟨p, 0, none⟩ = some (.slice a n cap) ∧ V.cell? ⟨p, 1, none⟩ = some (.slice a2 n2 cap2)) := fun V hV => by
    have h1 := (hV.block p (by omega)).trans hW0
    exact ⟨by rw [cell_of_row _ _ _ _ _ _ h1]; rfl, by rw [cell_of_row _ _ _ _ _ _ h1]; rfl⟩
  have HBw : Hid (∀ V, Below (p + 1) W V → Below w.heap.size w V) := fun V hV => hb.trans (hV.mono (by rw [← hp]; omega))
  obtain ⟨W1, hW1⟩ : ∃ W1, W1 = W.alloc (.cells #[.int .u8 (n : Int)] 5) := ⟨_, rfl⟩
  have hO1 : OwnB W1 (p + 1) (.slice (some ⟨p + 1, 0, none⟩) 1 1) [M.b1 (n : Int)] := by rw [hW1, ← hWs]; exact ownB_num W n (by omega)
  have bW1 : Below W.heap.size W W1 := by rw [hW1]; exact (Below.refl _ _).alloc (Nat.le_refl _) _
  rw [hWs] at bW1
  have HO1 : Aside (OwnB W1 (p + 1) (.slice (some ⟨p + 1, 0, none⟩) 1 1) ([M.b1 (n : Int)] ++ (C.take 0).flatMap M.pCo)) := by unfold Aside; simpa using hO1
  have HW1 : Hid (W1 = (w.alloc (.cells #[.slice a n cap, .slice a2 n2 cap2] 25)).alloc (.cells #[.int .u8 (n : Int)] 5)) := by rw [← hW]; exact hW1
  have HP : Aside (p = w.heap.size) := hp
  have HWs : Aside (W.heap.size = p + 1) := hWs
  obtain ⟨j0, _⟩ := HB1.out W (Below.refl _ _)
  rw [hW, hp] at j0
  obtain ⟨so, hso⟩ : ∃ so, so = M.str (M.bytesR C H) := ⟨_, rfl⟩
  rw [← hso]
  have HSo : Hid (so = M.str (M.bytesR C H)) := hso
  clear hW hp hW0 hC hH hright hok a1' hW1 hO1 hWs hso
  go_enter Try.func7, Try.ntmps7
  go_wp2_with fail
  rw [← HW1.out, ← HP.out]
  clear j0
  go_loopg [3, 4] n (fun g v i wr => ∃ k : Nat, k + g = n ∧ i = .int .i64 k ∧ Aside (OwnB wr (p + 1) v ([M.b1 (n : Int)] ++ (C.take k).flatMap M.pCo)) ∧ Below (p + 1) W wr)
  case atStart => exact ⟨0, by omega, rfl, HO1, bW1⟩
  case round =>
    obtain ⟨k, hk, rfl, HOk1, hbel⟩ := hrel
    obtain ⟨va, vl, vc, hv⟩ := ownB_slice HOk1.out
    subst hv
    have hpz : p + 1 ≤ wr.heap.size := by rw [← HWs.out]; rw [← HWs.out] at hbel; exact hbel.size
    obtain ⟨j0, j1⟩ := HB1.out wr hbel
    by_cases hkm : k < n
    · have hki : (k : Int) < (n : Int) := by omega
      have hkn : k < C.length := by rw [HNC.out]; exact hkm
      obtain ⟨cb, co, rfl, x1, m1, y1, x2, m2, y2, z1, z2, zr, zi, _⟩ := HCm.out.at hkm
      obtain ⟨_, h0 | ⟨cb', co', ecb, hcb, _⟩⟩ := HCm.out
      · omega
      cases ecb
      rw [HWs.out] at hcb
      have g1 : wr.cell? ⟨cb, co + k * 2, none⟩ = some (.slice x1 m1 y1) := (hbel.cell (p := ⟨cb, co + k * 2, none⟩) hcb).trans z1
      have g2 : wr.cell? ⟨cb, co + k * 2 + 1, none⟩ = some (.slice x2 m2 y2) := (hbel.cell (p := ⟨cb, co + k * 2 + 1, none⟩) hcb).trans z2
      have hcok := HOk.out.1.2 _ (getD_mem (d := ([], [])) hkn)
      have hst := M.fm_take M.pCo ([], []) C k hkn
      obtain ⟨c, hcc⟩ : ∃ c, c = C.getD k ([], []) := ⟨_, rfl⟩
      rw [← hcc] at zr zi hcok hst
      obtain ⟨lk, hlk⟩ : ∃ lk, lk = [M.b1 (n : Int)] ++ (C.take k).flatMap M.pCo := ⟨_, rfl⟩
      have hlk5 : lk.length ≤ 100000 := by
        have := M.pCs_len HOk.out.1.2 k
        simp only at this
        rw [HNC.out] at this
        rw [hlk, List.length_append]
        simp only [List.length_singleton]
        omega
      rw [← hlk] at HOk1
      have HSt1 : Hid (lk ++ M.pCo c = [M.b1 (n : Int)] ++ (C.take (k + 1)).flatMap M.pCo) := by unfold Hid; rw [hst, hlk, List.append_assoc]
      have hm1 : m1 < 256 := by rw [← zr.1]; exact hcok.1.1
      have hm2 : m2 < 256 := by rw [← zi.1]; exact hcok.2.1
      have HM1 : Aside (c.1.length = m1) := zr.1
      have HM2 : Aside (c.2.length = m2) := zi.1
      have HCok : Hid (M.okCo c) := hcok
      have HRd : Hid (∀ V, Below (p + 1) W V → Rd V x1 m1 c.1) := fun V hV => zr.below hV (by rw [HWs.out]; exact Nat.le_refl _)
      have HRi : Hid (∀ V, Below (p + 1) W V → Ri V x2 m2 c.2) := fun V hV => zi.below hV (by rw [HWs.out]; exact Nat.le_refl _)
      obtain ⟨q, hq⟩ : ∃ q, q = wr.heap.size := ⟨_, rfl⟩
      obtain ⟨X, hX⟩ : ∃ X, X = wr.alloc (.cells #[.slice x1 m1 y1, .slice x2 m2 y2] 46) := ⟨_, rfl⟩
      have bX : Below wr.heap.size wr X := by rw [hX]; exact (Below.refl _ _).alloc (Nat.le_refl _) _
      have hXs : X.heap.size = q + 1 := by rw [hX, hq]; simp
      have hX0 : X.heap[q]? = some (.cells #[.slice x1 m1 y1, .slice x2 m2 y2] 46 (0, 0)) := by rw [hX, hq]; exact heap_alloc_new _ _
      have HXc : Hid (∀ V, Kp X V → V.cell? ⟨q, 0, none⟩ = some (.slice x1 m1 y1) ∧ V.cell? ⟨q, 1, none⟩ = some (.slice x2 m2 y2)) := fun V hV => by
        have blk := hV _ _ _ (by decide) (by decide) hX0
        exact ⟨by rw [cell_of_row _ _ _ _ _ _ blk]; rfl, by rw [cell_of_row _ _ _ _ _ _ blk]; rfl⟩
      have hbX : Below (p + 1) W X := hbel.trans (bX.mono hpz)
      obtain ⟨X1, hX1⟩ : ∃ X1, X1 = X.alloc (.cells #[.int .u8 (m1 : Int)] 5) := ⟨_, rfl⟩
      have bX1 : Below X.heap.size X X1 := by rw [hX1]; exact (Below.refl _ _).alloc (Nat.le_refl _) _
      have hzX : p + 1 ≤ X.heap.size := Nat.le_trans hpz bX.size
      have HOX : Hid (OwnB X1 (p + 1) (.slice va vl vc) lk) := ownsRow_later (ownsRow_later HOk1.out bX) bX1
      have HSX : Hid (SrcB X1 (q + 1) [M.b1 (m1 : Int)]) := by rw [hX1, ← hXs]; exact srcB_num X m1 hm1
      have HZ1 : Hid (p + 1 ≤ X1.heap.size) := Nat.le_trans hzX bX1.size
      have HR1 : Hid (Below (p + 1) X X1 ∧ Kp X X1) := ⟨bX1.mono hzX, Kp.of bX1⟩
      have HX1 : Hid (X1 = (wr.alloc (.cells #[.slice x1 m1 y1, .slice x2 m2 y2] 46)).alloc (.cells #[.int .u8 (m1 : Int)] 5)) := by rw [← hX]; exact hX1
      have HQ : Aside (q = wr.heap.size) := hq
      have HBX : Hid (Below (p + 1) W X) := hbX
      clear hst hcc hcok zr zi z1 z2 hX hq bX hXs hX0 hX1 bX1 hlk hzX hbX
      go_wp2_with (at_builtin; rw [← HX1.out, ← HQ.out]; refine wpl_bys rfl _ _ rfl (p + 1) _ lk rfl HOX.out (q + 1) 1 1 [M.b1 (m1 : Int)] rfl rfl HSX.out (by omega) HZ1.out ?_)
      intro v2 w2 o2 gr2
      obtain ⟨gb2, gk2⟩ := ownB_grown HOX.out gr2 HZ1.out
      have r2 : Below (p + 1) X w2 := HR1.out.1.trans gb2
      have k2 : Kp X w2 := HR1.out.2.trans gk2
      obtain ⟨l2, hl2⟩ : ∃ l2, l2 = lk ++ [M.b1 (m1 : Int)] := ⟨_, rfl⟩
      rw [← hl2] at o2
      have hl25 : l2.length ≤ 100001 := by rw [hl2, List.length_append]; simp; omega
      have HL2 : Hid (l2 = lk ++ [M.b1 (m1 : Int)]) := hl2
      have HO2 : Aside (OwnB w2 (p + 1) v2 (l2 ++ (c.1.take 0).flatMap M.pR)) := by unfold Aside; simpa using o2
      clear o2 gr2 gb2 gk2 hl2 g1 g2 j0 j1 HOX HSX
      go_wp2_with fail
      go_loopg [3, 6] m1 (fun g v i wx => ∃ i' : Nat, i' + g = m1 ∧ i = .int .i64 i' ∧ Aside (OwnB wx (p + 1) v (l2 ++ (c.1.take i').flatMap M.pR)) ∧ Below (p + 1) X wx ∧ Kp X wx)
      case atStart => exact ⟨0, by omega, rfl, HO2, r2, k2⟩
      case round =>
        obtain ⟨i, hi, rfl, HOi, rx, kx⟩ := hrel
        obtain ⟨va, vl, vc, hv⟩ := ownB_slice HOi.out
        subst hv
        obtain ⟨j0, j1⟩ := HXc.out wr kx
        by_cases him : i < m1
        · have hii : (i : Int) < (m1 : Int) := by omega
          have hin : i < c.1.length := by rw [HM1.out]; exact him
          obtain ⟨ab, ao, rfl, hab, hcw⟩ : ∃ ab ao, x1 = some ⟨ab, ao, none⟩ ∧ ab < p + 1 ∧ (∀ V, Below (p + 1) W V → V.cell? ⟨ab, ao + i * 2, none⟩ = some (.int .i64 (c.1.getD i (0, 0)).1) ∧ V.cell? ⟨ab, ao + i * 2 + 1, none⟩ = some (.int .i64 (c.1.getD i (0, 0)).2)) := by
            rcases (HRd.out W (Below.refl _ _)).cases with ⟨h0, _⟩ | ⟨ab, ao, e, _, _, hB, hc⟩
            · omega
            · rw [HWs.out] at hB
              exact ⟨ab, ao, e, hB, fun V hV => ⟨(hV.cell (p := ⟨ab, ao + i * 2, none⟩) hB).trans (hc i him).1, (hV.cell (p := ⟨ab, ao + i * 2 + 1, none⟩) hB).trans (hc i him).2⟩⟩
          have hr := HCok.out.1.2 _ (getD_mem (d := (0, 0)) hin)
          have hst := M.fm_take M.pR (0, 0) c.1 i hin
          obtain ⟨r, hrr⟩ : ∃ r, r = c.1.getD i (0, 0) := ⟨_, rfl⟩
          rw [← hrr] at hcw hst hr
          obtain ⟨x0, x1⟩ := r
          obtain ⟨⟨hx0, hx1⟩, hx2, hx3⟩ := hr
          simp only at hcw hx0 hx1 hx2 hx3
          obtain ⟨kn, rfl⟩ : ∃ kn : Nat, x0 = (kn : Int) := ⟨x0.toNat, by omega⟩
          obtain ⟨vn, rfl⟩ : ∃ vn : Nat, x1 = (vn : Int) := ⟨x1.toNat, by omega⟩
          have hkn : kn < 256 := by omega
          have hvn : vn < 65536 := by omega
          have hw8 : IntKind.u8.wrap (kn : Int) = (kn : Int) := by rw [IntKind.wrap_u8]; omega
          obtain ⟨li, hli⟩ : ∃ li, li = l2 ++ (c.1.take i).flatMap M.pR := ⟨_, rfl⟩
          have hli5 : li.length ≤ 200000 := by rw [hli, List.length_append, M.pRs_len, List.length_take]; omega
          rw [← hli] at HOi
          have HSt : Hid ((li ++ [M.b1 (kn : Int)]) ++ M.b2 (vn : Int) = l2 ++ (c.1.take (i + 1)).flatMap M.pR) := by unfold Hid; rw [hst, hli]; simp [M.pR]
          obtain ⟨wx, hwx⟩ : ∃ wx, wx = wr := ⟨_, rfl⟩
          subst hwx
          have hzx : p + 1 ≤ wx.heap.size := by have := HBX.out.size; have := rx.size; rw [HWs.out] at *; omega
          have HSV : Hid (∀ V, (Below (p + 1) wx V ∧ Kp wx V) → V.cell? ⟨q, 0, none⟩ = some (.slice (some ⟨ab, ao, none⟩) m1 y1) ∧ V.cell? ⟨ab, ao + i * 2, none⟩ = some (.int .i64 (kn : Int)) ∧ V.cell? ⟨ab, ao + i * 2 + 1, none⟩ = some (.int .i64 (vn : Int))) := fun V hV => by
            obtain ⟨e0, _⟩ := HXc.out V (kx.trans hV.2)
            exact ⟨e0, hcw V (HBX.out.trans (rx.trans hV.1))⟩
          have HBd : Hid (Below (p + 1) wx wx.drew ∧ Kp wx wx.drew) := ⟨(Below.refl _ _).drew, Kp.of ((Below.refl _ _).drew)⟩
          have pbb : Below wx.heap.size wx (wx.alloc (.cells #[.int .u8 (kn : Int)] 5)).drew := ((Below.refl _ _).alloc (Nat.le_refl _) _).drew
          have pb9 : Hid (Below (p + 1) wx (wx.alloc (.cells #[.int .u8 (kn : Int)] 5)).drew ∧ Kp wx (wx.alloc (.cells #[.int .u8 (kn : Int)] 5)).drew) := ⟨pbb.mono hzx, Kp.of pbb⟩
          have HO9 : Hid (OwnB (wx.alloc (.cells #[.int .u8 (kn : Int)] 5)).drew (p + 1) (.slice va vl vc) li) := ownsRow_later HOi.out pbb
          have HS9 : Hid (SrcB (wx.alloc (.cells #[.int .u8 (kn : Int)] 5)).drew wx.heap.size [M.b1 (kn : Int)]) := (srcB_num wx kn hkn).later ((Below.refl _ _).drew)
          have HZ9 : Hid (p + 1 ≤ (wx.alloc (.cells #[.int .u8 (kn : Int)] 5)).drew.heap.size) := Nat.le_trans hzx pbb.size
          clear hst hrr hcw hli pbb hx0 hx1 hx2 hx3
          go_wp2_with fail
          refine wp_region_till 18 (fun V => V.cell? ⟨q, 0, none⟩ = some (.slice (some ⟨ab, ao, none⟩) m1 y1) ∧ V.cell? ⟨ab, ao + i * 2, none⟩ = some (.int .i64 (kn : Int)) ∧ V.cell? ⟨ab, ao + i * 2 + 1, none⟩ = some (.int .i64 (vn : Int))) (by kernel_rfl) (HSV.out _ HBd.out) (fun hHeld => ?_)
          refine till_go 0 (v := .slice va vl vc) rfl (by decide) (by kernel_rfl) (by kernel_rfl) (by kernel_rfl) (fun _ _ _ h => h) (Or.inl ⟨by rfl, fun V _ => (by go_simp)⟩) hHeld ?_
          try simp only [Act.put]
          refine till_go 1 (v := .pointer (some ⟨q, 0, none⟩)) rfl (by decide) (by kernel_rfl) (by kernel_rfl) (by kernel_rfl) (fun _ _ _ h => h) (Or.inl ⟨by rfl, fun V _ => (by go_simp)⟩) hHeld ?_
          try simp only [Act.put]
          refine till_take 2 (v := .slice (some ⟨ab, ao, none⟩) m1 y1) rfl (by decide) (by kernel_rfl) (by kernel_rfl) (by kernel_rfl) (by kernel_rfl) (by kernel_rfl) (fun _ _ _ h => h) (Or.inl ⟨by rfl, fun V hV => (by obtain ⟨v0, v1, v2⟩ := hV; go_simp)⟩) hHeld ?_
          try simp only [Act.put]
          refine till_go 3 (v := .int .i64 (i : Int)) rfl (by decide) (by kernel_rfl) (by kernel_rfl) (by kernel_rfl) (fun _ _ _ h => h) (Or.inl ⟨by rfl, fun V _ => (by go_simp)⟩) hHeld ?_
          try simp only [Act.put]
          refine till_go 4 (v := .pointer (some ⟨ab, ao + i * 2, none⟩)) rfl (by decide) (by kernel_rfl) (by kernel_rfl) (by kernel_rfl) (fun _ _ _ h => h) (Or.inl ⟨by rfl, fun V _ => (by go_simp)⟩) hHeld ?_
          try simp only [Act.put]
          refine till_go 5 (v := .pointer (some ⟨ab, ao + i * 2, none⟩)) rfl (by decide) (by kernel_rfl) (by kernel_rfl) (by kernel_rfl) (fun _ _ _ h => h) (Or.inl ⟨by rfl, fun V _ => (by go_simp)⟩) hHeld ?_
          try simp only [Act.put]
          refine till_take 6 (v := .int .i64 (kn : Int)) rfl (by decide) (by kernel_rfl) (by kernel_rfl) (by kernel_rfl) (by kernel_rfl) (by kernel_rfl) (fun _ _ _ h => h) (Or.inl ⟨by rfl, fun V hV => (by obtain ⟨v0, v1, v2⟩ := hV; go_simp)⟩) hHeld ?_
          try simp only [Act.put]
          refine till_go 7 (v := .int .u8 (kn : Int)) rfl (by decide) (by kernel_rfl) (by kernel_rfl) (by kernel_rfl) (fun _ _ _ h => h) (Or.inl ⟨by rfl, fun V _ => (by go_simp)⟩) hHeld ?_
          try simp only [Act.put]
          refine till_go 10 (v := .pointer (some ⟨q, 0, none⟩)) rfl (by decide) (by kernel_rfl) (by kernel_rfl) (by kernel_rfl) (fun _ _ _ h => h) (Or.inl ⟨by rfl, fun V _ => (by go_simp)⟩) hHeld ?_
          try simp only [Act.put]
          refine till_take 11 (v := .slice (some ⟨ab, ao, none⟩) m1 y1) rfl (by decide) (by kernel_rfl) (by kernel_rfl) (by kernel_rfl) (by kernel_rfl) (by kernel_rfl) (fun _ _ _ h => h) (Or.inl ⟨by rfl, fun V hV => (by obtain ⟨v0, v1, v2⟩ := hV; go_simp)⟩) hHeld ?_
          try simp only [Act.put]
          refine till_go 12 (v := .int .i64 (i : Int)) rfl (by decide) (by kernel_rfl) (by kernel_rfl) (by kernel_rfl) (fun _ _ _ h => h) (Or.inl ⟨by rfl, fun V _ => (by go_simp)⟩) hHeld ?_
          try simp only [Act.put]
          refine till_go 13 (v := .pointer (some ⟨ab, ao + i * 2, none⟩)) rfl (by decide) (by kernel_rfl) (by kernel_rfl) (by kernel_rfl) (fun _ _ _ h => h) (Or.inl ⟨by rfl, fun V _ => (by go_simp)⟩) hHeld ?_
          try simp only [Act.put]
          refine till_go 14 (v := .pointer (some ⟨ab, ao + i * 2 + 1, none⟩)) rfl (by decide) (by kernel_rfl) (by kernel_rfl) (by kernel_rfl) (fun _ _ _ h => h) (Or.inl ⟨by rfl, fun V _ => (by go_simp)⟩) hHeld ?_
          try simp only [Act.put]
          refine till_take 15 (v := .int .i64 (vn : Int)) rfl (by decide) (by kernel_rfl) (by kernel_rfl) (by kernel_rfl) (by kernel_rfl) (by kernel_rfl) (fun _ _ _ h => h) (Or.inl ⟨by rfl, fun V hV => (by obtain ⟨v0, v1, v2⟩ := hV; go_simp)⟩) hHeld ?_
          try simp only [Act.put]
          refine till_step 8 rfl (by decide) (by kernel_rfl) (fun K hK => ?_)
          go_simp
          refine hK.out _ _ (HSV.out _ pb9.out) (fun hHeld => ?_)
          clear hK K
          refine till_step 9 rfl (by decide) (by kernel_rfl) (fun K hK => ?_)
          refine step_bys rfl _ _ rfl (p + 1) _ li rfl HO9.out wx.heap.size 1 1 [M.b1 (kn : Int)] rfl rfl HS9.out (by simp; omega) HZ9.out ?_
          intro v8 w8 o8 g8
          obtain ⟨gb8, gk8⟩ := ownB_grown HO9.out g8 HZ9.out
          have R8 : Hid (Below (p + 1) wx w8 ∧ Kp wx w8) := ⟨pb9.out.1.trans gb8, pb9.out.2.trans gk8⟩
          have HO8 : Hid (OwnB w8 (p + 1) v8 (li ++ [M.b1 (kn : Int)])) := o8
          obtain ⟨qa, qn, qc, rfl⟩ := ownB_slice o8
          have hz8 : Hid (p + 1 ≤ w8.heap.size) := Nat.le_trans HZ9.out gb8.size
          refine hK.out _ _ (HSV.out _ R8.out) (fun hHeld => ?_)
          clear hK K o8 g8 gb8 gk8
          refine till_step 16 rfl (by decide) (by kernel_rfl) (fun K hK => ?_)
          go_simp
          refine (twoB_any vn w8 hvn).mono ?_
          rintro e w7 ⟨ta, tc, rfl, ts, _, tb⟩
          have R7 : Hid (Below (p + 1) wx w7 ∧ Kp wx w7) := ⟨R8.out.1.trans (tb.mono hz8.out), R8.out.2.trans (Kp.of tb)⟩
          have HO7 : Hid (OwnB w7 (p + 1) (.slice qa qn qc) (li ++ [M.b1 (kn : Int)])) := ownsRow_later HO8.out tb
          have HS7 : Hid (SrcB w7 ta (M.b2 (vn : Int))) := ts
          have hz7 : Hid (p + 1 ≤ w7.heap.size) := Nat.le_trans hz8.out tb.size
          refine hK.out _ _ (HSV.out _ R7.out) (fun hHeld => ?_)
          clear hK K ts tb
          refine till_step 17 rfl (by decide) (by kernel_rfl) (fun K hK => ?_)
          refine step_bys rfl _ _ rfl (p + 1) _ (li ++ [M.b1 (kn : Int)]) rfl HO7.out ta 2 tc (M.b2 (vn : Int)) rfl rfl HS7.out (by simp; omega) hz7.out ?_
          intro v6 w6 o6 g6
          obtain ⟨gb6, gk6⟩ := ownB_grown HO7.out g6 hz7.out
          have R6 : Hid (Below (p + 1) wx w6 ∧ Kp wx w6) := ⟨R7.out.1.trans gb6, R7.out.2.trans gk6⟩
          rw [HSt.out] at o6
          have HO6 : Aside (OwnB w6 (p + 1) v6 (l2 ++ (c.1.take (i + 1)).flatMap M.pR)) := o6
          refine hK.out _ _ (HSV.out _ R6.out) (fun hHeld => ?_)
          clear hK K o6 g6 gb6 gk6
          refine till_last rfl (by kernel_rfl) (by kernel_rfl) (fun K hK => ?_) _
          go_simp
          refine hK.out _ _ ?_
          clear hK K
          go_wp2
          go_roundg (gk - 1)
          case measure => omega
          case rel => exact ⟨i + 1, by omega, by go_num, HO6, rx.trans R6.out.1, kx.trans R6.out.2⟩
        · obtain rfl : i = m1 := by omega
          have hii : decide ((i : Int) < (i : Int)) = false := by simp
          have e1 : c.1.take i = c.1 := List.take_of_length_le (by rw [HM1.out]; exact Nat.le_refl _)
          rw [e1] at HOi
          obtain ⟨l3, hl3⟩ : ∃ l3, l3 = l2 ++ c.1.flatMap M.pR := ⟨_, rfl⟩
          have hl35 : l3.length ≤ 200000 := by rw [hl3, List.length_append, M.pRs_len, HM1.out]; omega
          rw [← hl3] at HOi
          have HL3 : Hid (l3 = l2 ++ c.1.flatMap M.pR) := hl3
          have hzr : p + 1 ≤ wr.heap.size := by have := HBX.out.size; have := rx.size; rw [HWs.out] at *; omega
          obtain ⟨X3, hX3⟩ : ∃ X3, X3 = wr.alloc (.cells #[.int .u8 (m2 : Int)] 5) := ⟨_, rfl⟩
          have bX3 : Below wr.heap.size wr X3 := by rw [hX3]; exact (Below.refl _ _).alloc (Nat.le_refl _) _
          have HOY : Hid (OwnB X3 (p + 1) (.slice va vl vc) l3) := ownsRow_later HOi.out bX3
          have HSY : Hid (SrcB X3 wr.heap.size [M.b1 (m2 : Int)]) := by rw [hX3]; exact srcB_num wr m2 hm2
          have HZ3 : Hid (p + 1 ≤ X3.heap.size) := Nat.le_trans hzr bX3.size
          have HX3 : Hid (X3 = wr.alloc (.cells #[.int .u8 (m2 : Int)] 5)) := hX3
          have HR3 : Hid (Below (p + 1) X X3 ∧ Kp X X3) := ⟨rx.trans (bX3.mono hzr), kx.trans (Kp.of bX3)⟩
          clear hX3 bX3 hl3 e1
          go_wp2_with (at_builtin; rw [← HX3.out]; refine wpl_bys rfl _ _ rfl (p + 1) _ l3 rfl HOY.out wr.heap.size 1 1 [M.b1 (m2 : Int)] rfl rfl HSY.out (by omega) HZ3.out ?_)
          intro v4 w4 o4 gr4
          obtain ⟨gb4, gk4⟩ := ownB_grown HOY.out gr4 HZ3.out
          have r4 : Below (p + 1) X w4 := HR3.out.1.trans gb4
          have k4 : Kp X w4 := HR3.out.2.trans gk4
          obtain ⟨l4, hl4⟩ : ∃ l4, l4 = l3 ++ [M.b1 (m2 : Int)] := ⟨_, rfl⟩
          rw [← hl4] at o4
          have hl45 : l4.length ≤ 200001 := by rw [hl4, List.length_append]; simp; omega
          have HL4 : Hid (l4 = l3 ++ [M.b1 (m2 : Int)]) := hl4
          have HO4 : Aside (OwnB w4 (p + 1) v4 (l4 ++ (c.2.take 0).flatMap (fun p => [M.b1 p]))) := by unfold Aside; simpa using o4
          clear o4 gr4 gb4 gk4 hl4 HOY HSY j0 j1
          go_wp2_with fail
          go_loopg [3, 7] m2 (fun g v i wy => ∃ i' : Nat, i' + g = m2 ∧ i = .int .i64 i' ∧ Aside (OwnB wy (p + 1) v (l4 ++ (c.2.take i').flatMap (fun p => [M.b1 p]))) ∧ Below (p + 1) X wy ∧ Kp X wy)
          case atStart => exact ⟨0, by omega, rfl, HO4, r4, k4⟩
          case round =>
            obtain ⟨e, he, rfl, HOe, ry, ky⟩ := hrel
            obtain ⟨va, vl, vc, hv⟩ := ownB_slice HOe.out
            subst hv
            obtain ⟨j0, j1⟩ := HXc.out wr ky
            have hzy : p + 1 ≤ wr.heap.size := by have := HBX.out.size; have := ry.size; rw [HWs.out] at *; omega
            by_cases hem : e < m2
            · have hei : (e : Int) < (m2 : Int) := by omega
              have hen : e < c.2.length := by rw [HM2.out]; exact hem
              obtain ⟨ab, ao, rfl, hab, hcw⟩ : ∃ ab ao, x2 = some ⟨ab, ao, none⟩ ∧ ab < wr.heap.size ∧ wr.cell? ⟨ab, ao + e, none⟩ = some (.int .i64 (c.2.getD e 0)) := by
                rcases (HRi.out wr (HBX.out.trans ry)).cases with ⟨h0, _⟩ | ⟨ab, ao, e1, _, _, hB, hc⟩
                · omega
                · exact ⟨ab, ao, e1, hB, hc e hem⟩
              have hr := HCok.out.2.2 _ (getD_mem (d := (0 : Int)) hen)
              have hst := M.fm_take (fun p => [M.b1 p]) (0 : Int) c.2 e hen
              obtain ⟨r, hrr⟩ : ∃ r, r = c.2.getD e 0 := ⟨_, rfl⟩
              rw [← hrr] at hcw hst hr
              obtain ⟨pn, rfl⟩ : ∃ pn : Nat, r = (pn : Int) := ⟨r.toNat, by have := hr.1; omega⟩
              have hpn : pn < 256 := by have := hr.2; omega
              obtain ⟨le, hle⟩ : ∃ le, le = l4 ++ (c.2.take e).flatMap (fun p => [M.b1 p]) := ⟨_, rfl⟩
              have hle5 : le.length ≤ 300000 := by
                rw [hle, List.length_append]
                have : ∀ l : List Int, (l.flatMap fun p => [M.b1 p]).length = l.length := by
                  intro l
                  induction l with
                  | nil => rfl
                  | cons a t ih => rw [List.flatMap_cons, List.length_append, ih]; simp; omega
                rw [this, List.length_take]
                omega
              rw [← hle] at HOe
              have HSt : Hid (le ++ [M.b1 (pn : Int)] = l4 ++ (c.2.take (e + 1)).flatMap (fun p => [M.b1 p])) := by unfold Hid; rw [hst, hle, List.append_assoc]
              obtain ⟨X5, hX5⟩ : ∃ X5, X5 = wr.alloc (.cells #[.int .u8 (pn : Int)] 5) := ⟨_, rfl⟩
              have bX5 : Below wr.heap.size wr X5 := by rw [hX5]; exact (Below.refl _ _).alloc (Nat.le_refl _) _
              have HOY : Hid (OwnB X5 (p + 1) (.slice va vl vc) le) := ownsRow_later HOe.out bX5
              have HSY : Hid (SrcB X5 wr.heap.size [M.b1 (pn : Int)]) := by rw [hX5]; exact srcB_num wr pn hpn
              have HZ5 : Hid (p + 1 ≤ X5.heap.size) := Nat.le_trans hzy bX5.size
              have HX5 : Hid (X5 = wr.alloc (.cells #[.int .u8 (pn : Int)] 5)) := hX5
              have HR5 : Hid (Below (p + 1) X X5 ∧ Kp X X5) := ⟨ry.trans (bX5.mono hzy), ky.trans (Kp.of bX5)⟩
              clear hX5 bX5 hle hst hrr hr
              go_wp2_with (at_builtin; rw [← HX5.out]; refine wpl_bys rfl _ _ rfl (p + 1) _ le rfl HOY.out wr.heap.size 1 1 [M.b1 (pn : Int)] rfl rfl HSY.out (by omega) HZ5.out ?_)
              intro v6 w6 o6 gr6
              obtain ⟨gb6, gk6⟩ := ownB_grown HOY.out gr6 HZ5.out
              have r6 : Below (p + 1) X w6 := HR5.out.1.trans gb6
              have k6 : Kp X w6 := HR5.out.2.trans gk6
              rw [HSt.out] at o6
              have HO6 : Aside (OwnB w6 (p + 1) v6 (l4 ++ (c.2.take (e + 1)).flatMap (fun p => [M.b1 p]))) := o6
              clear o6 gr6 gb6 gk6 HOY HSY j0 j1 hcw
              go_wp2
              go_roundg (gk - 1)
              case measure => omega
              case rel => exact ⟨e + 1, by omega, by go_num, HO6, r6, k6⟩
            · obtain rfl : e = m2 := by omega
              have hei : decide ((e : Int) < (e : Int)) = false := by simp
              have e2 : c.2.take e = c.2 := List.take_of_length_le (by rw [HM2.out]; exact Nat.le_refl _)
              have HOz : Aside (OwnB wr (p + 1) (.slice va vl vc) ([M.b1 (n : Int)] ++ (C.take (k + 1)).flatMap M.pCo)) := by
                unfold Aside
                rw [← HSt1.out]
                have h1 := HOe.out
                rw [e2, HL4.out, HL3.out, HL2.out] at h1
                have e3 : lk ++ [M.b1 (i : Int)] ++ c.1.flatMap M.pR ++ [M.b1 (e : Int)] ++ c.2.flatMap (fun p => [M.b1 p]) = lk ++ M.pCo c := by
                  unfold M.pCo M.pL
                  rw [HM1.out, HM2.out]
                  simp
                rw [e3] at h1
                exact h1
              have hbz : Below (p + 1) W wr := HBX.out.trans ry
              clear e2
              go_wp2
              go_roundg (n - k - 1)
              case measure => omega
              case rel => exact ⟨k + 1, by omega, by go_num, HOz, hbz⟩
    · obtain rfl : k = n := by omega
      have hkk : decide ((k : Int) < (k : Int)) = false := by simp
      have e1 : C.take k = C := List.take_of_length_le (by rw [HNC.out]; exact Nat.le_refl _)
      rw [e1] at HOk1
      obtain ⟨lc, hlc⟩ : ∃ lc, lc = [M.b1 (k : Int)] ++ C.flatMap M.pCo := ⟨_, rfl⟩
      have hlc5 : lc.length ≤ 100000 := by
        have := M.pCs_len HOk.out.1.2 k
        simp only at this
        rw [HNC.out] at this
        rw [e1] at this
        rw [hlc, List.length_append]
        simp only [List.length_singleton]
        omega
      rw [← hlc] at HOk1
      have HLc : Hid (lc = [M.b1 (k : Int)] ++ C.flatMap M.pCo) := hlc
      have hn2 : n2 < 256 := by omega
      obtain ⟨X3, hX3⟩ : ∃ X3, X3 = wr.alloc (.cells #[.int .u8 (n2 : Int)] 5) := ⟨_, rfl⟩
      have bX3 : Below wr.heap.size wr X3 := by rw [hX3]; exact (Below.refl _ _).alloc (Nat.le_refl _) _
      have HOY : Hid (OwnB X3 (p + 1) (.slice va vl vc) lc) := ownsRow_later HOk1.out bX3
      have HSY : Hid (SrcB X3 wr.heap.size [M.b1 (n2 : Int)]) := by rw [hX3]; exact srcB_num wr n2 hn2
      have HZ3 : Hid (p + 1 ≤ X3.heap.size) := Nat.le_trans hpz bX3.size
      have HX3 : Hid (X3 = wr.alloc (.cells #[.int .u8 (n2 : Int)] 5)) := hX3
      have HR3 : Hid (Below (p + 1) W X3) := hbel.trans (bX3.mono hpz)
      clear hX3 bX3 hlc e1
      go_wp2_with (at_builtin; rw [← HX3.out]; refine wpl_bys rfl _ _ rfl (p + 1) _ lc rfl HOY.out wr.heap.size 1 1 [M.b1 (n2 : Int)] rfl rfl HSY.out (by omega) HZ3.out ?_)
      intro v4 w4 o4 gr4
      obtain ⟨gb4, _⟩ := ownB_grown HOY.out gr4 HZ3.out
      have r4 : Below (p + 1) W w4 := HR3.out.trans gb4
      obtain ⟨ld, hld⟩ : ∃ ld, ld = lc ++ [M.b1 (n2 : Int)] := ⟨_, rfl⟩
      rw [← hld] at o4
      have hld5 : ld.length ≤ 100001 := by rw [hld, List.length_append]; simp; omega
      have HLd : Hid (ld = lc ++ [M.b1 (n2 : Int)]) := hld
      have HO4 : Aside (OwnB w4 (p + 1) v4 (ld ++ ((H.map M.hdB).take 0).flatMap M.pHd)) := by unfold Aside; simpa using o4
      clear o4 gr4 gb4 hld HOY HSY j0 j1
      go_wp2_with fail
      go_loopg [3, 8] n2 (fun g v i wx => ∃ j : Nat, j + g = n2 ∧ i = .int .i64 j ∧ Aside (OwnB wx (p + 1) v (ld ++ ((H.map M.hdB).take j).flatMap M.pHd)) ∧ Below (p + 1) W wx)
      case atStart => exact ⟨0, by omega, rfl, HO4, r4⟩
      case round =>
        obtain ⟨j, hj, rfl, HOj, hbej⟩ := hrel
        obtain ⟨va, vl, vc, hv⟩ := ownB_slice HOj.out
        subst hv
        obtain ⟨j0, j1⟩ := HB1.out wr hbej
        have hzx : p + 1 ≤ wr.heap.size := by have := hbej.size; rw [HWs.out] at this; exact this
        by_cases hjm : j < n2
        · have hji : (j : Int) < (n2 : Int) := by omega
          have hjn : j < H.length := by rw [HNH.out]; exact hjm
          obtain ⟨hb', ho', rfl, z1, z2⟩ := HHs.out.at hjm
          obtain ⟨_, h0 | ⟨cb', co', ecb, hcb, _⟩⟩ := HHs.out
          · omega
          cases ecb
          rw [HWs.out] at hcb
          have hjb : j < (H.map M.hdB).length := by rw [List.length_map]; exact hjn
          have hhok := HOk.out.2.2 _ (getD_mem (d := M.hdB M.hd0) hjb)
          have hst := M.fm_take M.pHd (M.hdB M.hd0) (H.map M.hdB) j hjb
          have hmap : (H.map M.hdB).getD j (M.hdB M.hd0) = M.hdB (H.getD j M.hd0) := by simp [List.getD, hjn]
          rw [hmap] at hhok hst
          obtain ⟨y, hyy⟩ : ∃ y, y = H.getD j M.hd0 := ⟨_, rfl⟩
          rw [← hyy] at z1 z2 hhok hst
          obtain ⟨nm, atI⟩ := y
          simp only at z1 z2
          obtain ⟨hnm, hat0, hat1⟩ := hhok
          have hnm : nm.data.toList.length < 256 := hnm
          have hat0 : 0 ≤ atI := hat0
          have hat1 : atI < 256 := hat1
          obtain ⟨at', rfl⟩ : ∃ at' : Nat, atI = (at' : Int) := ⟨atI.toNat, by omega⟩
          have hat : at' < 256 := by omega
          have hw8 : IntKind.u8.wrap (at' : Int) = (at' : Int) := by rw [IntKind.wrap_u8]; omega
          obtain ⟨nb, hnb⟩ : ∃ nb, nb = nm.data.toList := ⟨_, rfl⟩
          obtain ⟨ml, hml⟩ : ∃ ml, ml = nb.length + 1 := ⟨_, rfl⟩
          have hml5 : ml ≤ 256 := by rw [hml, hnb]; omega
          have HTx : Hid (∀ V, Calls Try.prog 21 #[.string nm] V fun e w' => ∃ a c, e = .returned (.slice (some ⟨a, 0, none⟩) ml c) ∧ SrcB w' a (M.pT nb) ∧ V.heap.size ≤ a ∧ Below V.heap.size V w') := fun V => by
            have := texted_any nm.data.toList V hnm
            rw [M.str_back, ← hnb, ← hml] at this
            exact this
          have HPl : Hid ((M.pT nb).length = ml) := by unfold Hid M.pT; rw [List.length_cons, hml]
          obtain ⟨lk, hlk⟩ : ∃ lk, lk = ld ++ ((H.map M.hdB).take j).flatMap M.pHd := ⟨_, rfl⟩
          have hlk5 : lk.length ≤ 200000 := by
            have := M.pHs_len HOk.out.2.2 j
            simp only [List.length_map] at this
            rw [HNH.out] at this
            rw [hlk, List.length_append]
            omega
          rw [← hlk] at HOj
          have HSt : Hid ((lk ++ M.pT nb) ++ [M.b1 (at' : Int)] = ld ++ ((H.map M.hdB).take (j + 1)).flatMap M.pHd) := by
            unfold Hid
            rw [hst, hlk, hnb, List.append_assoc, List.append_assoc]
            rfl
          obtain ⟨wx, hwx⟩ : ∃ wx, wx = wr := ⟨_, rfl⟩
          subst hwx
          have HSV : Hid (∀ V, (Below (p + 1) wx V ∧ Kp wx V) → V.cell? ⟨p, 1, none⟩ = some (.slice (some ⟨hb', ho', none⟩) n2 cap2) ∧ V.cell? ⟨hb', ho' + j * 2, none⟩ = some (.string nm) ∧ V.cell? ⟨hb', ho' + j * 2 + 1, none⟩ = some (.int .i64 (at' : Int))) := fun V hV => by
            have hV2 := hbej.trans hV.1
            exact ⟨(HB1.out V hV2).2, (hV2.cell (p := ⟨hb', ho' + j * 2, none⟩) hcb).trans z1, (hV2.cell (p := ⟨hb', ho' + j * 2 + 1, none⟩) hcb).trans z2⟩
          have HBd : Hid (Below (p + 1) wx wx.drew ∧ Kp wx wx.drew) := ⟨(Below.refl _ _).drew, Kp.of ((Below.refl _ _).drew)⟩
          have pbb : Below wx.heap.size wx (wx.alloc (.cells #[.int .u8 (at' : Int)] 5)).drew := ((Below.refl _ _).alloc (Nat.le_refl _) _).drew
          have pb9 : Hid (Below (p + 1) wx (wx.alloc (.cells #[.int .u8 (at' : Int)] 5)).drew ∧ Kp wx (wx.alloc (.cells #[.int .u8 (at' : Int)] 5)).drew) := ⟨pbb.mono hzx, Kp.of pbb⟩
          have HO9 : Hid (OwnB (wx.alloc (.cells #[.int .u8 (at' : Int)] 5)).drew (p + 1) (.slice va vl vc) lk) := ownsRow_later HOj.out pbb
          have HOx : Hid (OwnB wx.drew (p + 1) (.slice va vl vc) lk) := ownsRow_later HOj.out ((Below.refl _ _).drew)
          have HS9 : Hid (SrcB (wx.alloc (.cells #[.int .u8 (at' : Int)] 5)).drew wx.heap.size [M.b1 (at' : Int)]) := (srcB_num wx at' hat).later ((Below.refl _ _).drew)
          have HZ9 : Hid (p + 1 ≤ (wx.alloc (.cells #[.int .u8 (at' : Int)] 5)).drew.heap.size) := Nat.le_trans hzx pbb.size
          have HZx : Hid (p + 1 ≤ wx.drew.heap.size) := hzx
          have HLt : Hid (∀ k, (Value.slice va vl vc).ownBlock = some k → k < wx.heap.size) := ownB_lt HOj.out
          clear hst hyy hmap hlk pbb hnm hat0 hat1 hnb hml z1 z2
          go_wp2_with fail
          refine wp_region_till 18 (fun V => V.cell? ⟨p, 1, none⟩ = some (.slice (some ⟨hb', ho', none⟩) n2 cap2) ∧ V.cell? ⟨hb', ho' + j * 2, none⟩ = some (.string nm) ∧ V.cell? ⟨hb', ho' + j * 2 + 1, none⟩ = some (.int .i64 (at' : Int))) (by kernel_rfl) (HSV.out _ HBd.out) (fun hHeld => ?_)
          refine till_go 0 (v := .slice va vl vc) rfl (by decide) (by kernel_rfl) (by kernel_rfl) (by kernel_rfl) (fun _ _ _ h => h) (Or.inl ⟨by rfl, fun V _ => (by go_simp)⟩) hHeld ?_
          try simp only [Act.put]
          refine till_go 1 (v := .pointer (some ⟨p, 1, none⟩)) rfl (by decide) (by kernel_rfl) (by kernel_rfl) (by kernel_rfl) (fun _ _ _ h => h) (Or.inl ⟨by rfl, fun V _ => (by go_simp)⟩) hHeld ?_
          try simp only [Act.put]
          refine till_take 2 (v := .slice (some ⟨hb', ho', none⟩) n2 cap2) rfl (by decide) (by kernel_rfl) (by kernel_rfl) (by kernel_rfl) (by kernel_rfl) (by kernel_rfl) (fun _ _ _ h => h) (Or.inl ⟨by rfl, fun V hV => (by obtain ⟨v0, v1, v2⟩ := hV; go_simp)⟩) hHeld ?_
          try simp only [Act.put]
          refine till_go 3 (v := .int .i64 (j : Int)) rfl (by decide) (by kernel_rfl) (by kernel_rfl) (by kernel_rfl) (fun _ _ _ h => h) (Or.inl ⟨by rfl, fun V _ => (by go_simp)⟩) hHeld ?_
          try simp only [Act.put]
          refine till_go 4 (v := .pointer (some ⟨hb', ho' + j * 2, none⟩)) rfl (by decide) (by kernel_rfl) (by kernel_rfl) (by kernel_rfl) (fun _ _ _ h => h) (Or.inl ⟨by rfl, fun V _ => (by go_simp)⟩) hHeld ?_
          try simp only [Act.put]
          refine till_go 5 (v := .pointer (some ⟨hb', ho' + j * 2, none⟩)) rfl (by decide) (by kernel_rfl) (by kernel_rfl) (by kernel_rfl) (fun _ _ _ h => h) (Or.inl ⟨by rfl, fun V _ => (by go_simp)⟩) hHeld ?_
          try simp only [Act.put]
          refine till_take 6 (v := .string nm) rfl (by decide) (by kernel_rfl) (by kernel_rfl) (by kernel_rfl) (by kernel_rfl) (by kernel_rfl) (fun _ _ _ h => h) (Or.inl ⟨by rfl, fun V hV => (by obtain ⟨v0, v1, v2⟩ := hV; go_simp)⟩) hHeld ?_
          try simp only [Act.put]
          refine till_go 9 (v := .pointer (some ⟨p, 1, none⟩)) rfl (by decide) (by kernel_rfl) (by kernel_rfl) (by kernel_rfl) (fun _ _ _ h => h) (Or.inl ⟨by rfl, fun V _ => (by go_simp)⟩) hHeld ?_
          try simp only [Act.put]
          refine till_take 10 (v := .slice (some ⟨hb', ho', none⟩) n2 cap2) rfl (by decide) (by kernel_rfl) (by kernel_rfl) (by kernel_rfl) (by kernel_rfl) (by kernel_rfl) (fun _ _ _ h => h) (Or.inl ⟨by rfl, fun V hV => (by obtain ⟨v0, v1, v2⟩ := hV; go_simp)⟩) hHeld ?_
          try simp only [Act.put]
          refine till_go 11 (v := .int .i64 (j : Int)) rfl (by decide) (by kernel_rfl) (by kernel_rfl) (by kernel_rfl) (fun _ _ _ h => h) (Or.inl ⟨by rfl, fun V _ => (by go_simp)⟩) hHeld ?_
          try simp only [Act.put]
          refine till_go 12 (v := .pointer (some ⟨hb', ho' + j * 2, none⟩)) rfl (by decide) (by kernel_rfl) (by kernel_rfl) (by kernel_rfl) (fun _ _ _ h => h) (Or.inl ⟨by rfl, fun V _ => (by go_simp)⟩) hHeld ?_
          try simp only [Act.put]
          refine till_go 13 (v := .pointer (some ⟨hb', ho' + j * 2 + 1, none⟩)) rfl (by decide) (by kernel_rfl) (by kernel_rfl) (by kernel_rfl) (fun _ _ _ h => h) (Or.inl ⟨by rfl, fun V _ => (by go_simp)⟩) hHeld ?_
          try simp only [Act.put]
          refine till_take 14 (v := .int .i64 (at' : Int)) rfl (by decide) (by kernel_rfl) (by kernel_rfl) (by kernel_rfl) (by kernel_rfl) (by kernel_rfl) (fun _ _ _ h => h) (Or.inl ⟨by rfl, fun V hV => (by obtain ⟨v0, v1, v2⟩ := hV; go_simp)⟩) hHeld ?_
          try simp only [Act.put]
          refine till_go 15 (v := .int .u8 (at' : Int)) rfl (by decide) (by kernel_rfl) (by kernel_rfl) (by kernel_rfl) (fun _ _ _ h => h) (Or.inl ⟨by rfl, fun V _ => (by go_simp)⟩) hHeld ?_
          try simp only [Act.put]
          refine till_two 7 16 rfl rfl (by decide) (by decide) (by kernel_rfl) (fun K hK => ?hA) (fun K hK => ?hB)
          case hA =>
            go_simp
            refine (HTx.out _).mono ?_
            rintro e w7 ⟨ta, tc, rfl, ts, _, tb⟩
            have tb : Below wx.drew.heap.size wx.drew w7 := tb
            have R7 : Hid (Below (p + 1) wx w7 ∧ Kp wx w7) := ⟨HBd.out.1.trans (tb.mono HZx.out), HBd.out.2.trans (Kp.of tb)⟩
            have HO7 : Hid (OwnB w7 (p + 1) (.slice va vl vc) lk) := ownsRow_later HOx.out tb
            have HT7 : Hid (SrcB w7 ta (M.pT nb)) := ts
            have hz7 : Hid (p + 1 ≤ w7.heap.size) := Nat.le_trans HZx.out tb.size
            have hlt7 : Hid (∀ k, (Value.slice va vl vc).ownBlock = some k → k < w7.heap.size) := ownB_lt HO7.out
            refine hK.out _ _ (HSV.out _ R7.out) (fun hHeld => ?_)
            clear hK K ts tb
            refine till_two 8 16 rfl rfl (by decide) (by decide) (by kernel_rfl) (fun K hK => ?hC) (fun K hK => ?hD)
            case hC =>
              refine step_bys rfl _ _ rfl (p + 1) _ lk rfl HO7.out ta ml tc (M.pT nb) rfl HPl.out HT7.out (by omega) hz7.out ?_
              intro v8 w8 o8 g8
              obtain ⟨gb8, gk8⟩ := ownB_grown HO7.out g8 hz7.out
              have R8 : Hid (Below (p + 1) wx w8 ∧ Kp wx w8) := ⟨R7.out.1.trans gb8, R7.out.2.trans gk8⟩
              have HO8 : Hid (OwnB w8 (p + 1) v8 (lk ++ M.pT nb)) := o8
              have HG8 : Hid (w7.grownBy w8 (Value.slice va vl vc).ownBlock) := g8
              obtain ⟨qa, qn, qc, rfl⟩ := ownB_slice o8
              have hz8 : Hid (p + 1 ≤ w8.heap.size) := Nat.le_trans hz7.out gb8.size
              refine hK.out _ _ (HSV.out _ R8.out) (fun hHeld => ?_)
              clear hK K o8 g8 gb8 gk8
              refine till_step 16 rfl (by decide) (by kernel_rfl) (fun K hK => ?_)
              go_simp
              have ta8 : Below w8.heap.size w8 (w8.alloc (.cells #[.int .u8 (at' : Int)] 5)) := (Below.refl _ _).alloc (Nat.le_refl _) _
              have R5 : Hid (Below (p + 1) wx (w8.alloc (.cells #[.int .u8 (at' : Int)] 5)) ∧ Kp wx (w8.alloc (.cells #[.int .u8 (at' : Int)] 5))) := ⟨R8.out.1.trans (ta8.mono hz8.out), R8.out.2.trans (Kp.of ta8)⟩
              have HO5 : Hid (OwnB (w8.alloc (.cells #[.int .u8 (at' : Int)] 5)) (p + 1) (.slice qa qn qc) (lk ++ M.pT nb)) := ownsRow_later HO8.out ta8
              have HS5 : Hid (SrcB (w8.alloc (.cells #[.int .u8 (at' : Int)] 5)) w8.heap.size [M.b1 (at' : Int)]) := srcB_num w8 at' hat
              have hz5 : Hid (p + 1 ≤ (w8.alloc (.cells #[.int .u8 (at' : Int)] 5)).heap.size) := Nat.le_trans hz8.out ta8.size
              refine hK.out _ _ (HSV.out _ R5.out) (fun hHeld => ?_)
              clear hK K ta8
              refine till_step 17 rfl (by decide) (by kernel_rfl) (fun K hK => ?_)
              refine step_bys rfl _ _ rfl (p + 1) _ (lk ++ M.pT nb) rfl HO5.out w8.heap.size 1 1 [M.b1 (at' : Int)] rfl rfl HS5.out (by rw [List.length_append, HPl.out]; omega) hz5.out ?_
              intro v6 w6 o6 g6
              obtain ⟨gb6, gk6⟩ := ownB_grown HO5.out g6 hz5.out
              have R6 : Hid (Below (p + 1) wx w6 ∧ Kp wx w6) := ⟨R5.out.1.trans gb6, R5.out.2.trans gk6⟩
              rw [HSt.out] at o6
              have HO6 : Aside (OwnB w6 (p + 1) v6 (ld ++ ((H.map M.hdB).take (j + 1)).flatMap M.pHd)) := o6
              refine hK.out _ _ (HSV.out _ R6.out) (fun hHeld => ?_)
              clear hK K o6 g6 gb6 gk6
              refine till_last rfl (by kernel_rfl) (by kernel_rfl) (fun K hK => ?_) _
              go_simp
              refine hK.out _ _ ?_
              clear hK K
              go_wp2
              go_roundg (gk - 1)
              case measure => omega
              case rel => exact ⟨j + 1, by omega, by go_num, HO6, hbej.trans R6.out.1⟩
            case hD =>
              go_simp
              have ta7 : Below w7.heap.size w7 (w7.alloc (.cells #[.int .u8 (at' : Int)] 5)) := (Below.refl _ _).alloc (Nat.le_refl _) _
              have R5 : Hid (Below (p + 1) wx (w7.alloc (.cells #[.int .u8 (at' : Int)] 5)) ∧ Kp wx (w7.alloc (.cells #[.int .u8 (at' : Int)] 5))) := ⟨R7.out.1.trans (ta7.mono hz7.out), R7.out.2.trans (Kp.of ta7)⟩
              have HO5 : Hid (OwnB (w7.alloc (.cells #[.int .u8 (at' : Int)] 5)) (p + 1) (.slice va vl vc) lk) := ownsRow_later HO7.out ta7
              have HT5 : Hid (SrcB (w7.alloc (.cells #[.int .u8 (at' : Int)] 5)) ta (M.pT nb)) := HT7.out.later ta7
              have HS5 : Hid (SrcB (w7.alloc (.cells #[.int .u8 (at' : Int)] 5)) w7.heap.size [M.b1 (at' : Int)]) := srcB_num w7 at' hat
              have hz5 : Hid (p + 1 ≤ (w7.alloc (.cells #[.int .u8 (at' : Int)] 5)).heap.size) := Nat.le_trans hz7.out ta7.size
              refine hK.out _ _ (HSV.out _ R5.out) (fun hHeld => ?_)
              clear hK K ta7
              refine till_step 8 rfl (by decide) (by kernel_rfl) (fun K hK => ?_)
              refine step_bys rfl _ _ rfl (p + 1) _ lk rfl HO5.out ta ml tc (M.pT nb) rfl HPl.out HT5.out (by omega) hz5.out ?_
              intro v8 w8 o8 g8
              obtain ⟨gb8, gk8⟩ := ownB_grown HO5.out g8 hz5.out
              have R8 : Hid (Below (p + 1) wx w8 ∧ Kp wx w8) := ⟨R5.out.1.trans gb8, R5.out.2.trans gk8⟩
              have HO8 : Hid (OwnB w8 (p + 1) v8 (lk ++ M.pT nb)) := o8
              have HG8 : Hid ((w7.alloc (.cells #[.int .u8 (at' : Int)] 5)).grownBy w8 (Value.slice va vl vc).ownBlock) := g8
              obtain ⟨qa, qn, qc, rfl⟩ := ownB_slice o8
              have hz8 : Hid (p + 1 ≤ w8.heap.size) := Nat.le_trans hz5.out gb8.size
              refine hK.out _ _ (HSV.out _ R8.out) (fun hHeld => ?_)
              clear hK K o8 g8 gb8 gk8
              have HS8 : Hid (SrcB w8 w7.heap.size [M.b1 (at' : Int)]) := HS5.out.grown HG8.out (fun k e => by have := hlt7.out k e; omega)
              refine till_step 17 rfl (by decide) (by kernel_rfl) (fun K hK => ?_)
              refine step_bys rfl _ _ rfl (p + 1) _ (lk ++ M.pT nb) rfl HO8.out w7.heap.size 1 1 [M.b1 (at' : Int)] rfl rfl HS8.out (by rw [List.length_append, HPl.out]; omega) hz8.out ?_
              intro v6 w6 o6 g6
              obtain ⟨gb6, gk6⟩ := ownB_grown HO8.out g6 hz8.out
              have R6 : Hid (Below (p + 1) wx w6 ∧ Kp wx w6) := ⟨R8.out.1.trans gb6, R8.out.2.trans gk6⟩
              rw [HSt.out] at o6
              have HO6 : Aside (OwnB w6 (p + 1) v6 (ld ++ ((H.map M.hdB).take (j + 1)).flatMap M.pHd)) := o6
              refine hK.out _ _ (HSV.out _ R6.out) (fun hHeld => ?_)
              clear hK K o6 g6 gb6 gk6
              refine till_last rfl (by kernel_rfl) (by kernel_rfl) (fun K hK => ?_) _
              go_simp
              refine hK.out _ _ ?_
              clear hK K
              go_wp2
              go_roundg (gk - 1)
              case measure => omega
              case rel => exact ⟨j + 1, by omega, by go_num, HO6, hbej.trans R6.out.1⟩
          case hB =>
            go_simp
            refine hK.out _ _ (HSV.out _ pb9.out) (fun hHeld => ?_)
            clear hK K
            refine till_step 7 rfl (by decide) (by kernel_rfl) (fun K hK => ?_)
            go_simp
            refine (HTx.out _).mono ?_
            rintro e w7 ⟨ta, tc, rfl, ts, _, tb⟩
            have tb : Below (wx.alloc (.cells #[.int .u8 (at' : Int)] 5)).drew.heap.size (wx.alloc (.cells #[.int .u8 (at' : Int)] 5)).drew w7 := tb
            have R7 : Hid (Below (p + 1) wx w7 ∧ Kp wx w7) := ⟨pb9.out.1.trans (tb.mono HZ9.out), pb9.out.2.trans (Kp.of tb)⟩
            have HO7 : Hid (OwnB w7 (p + 1) (.slice va vl vc) lk) := ownsRow_later HO9.out tb
            have HT7 : Hid (SrcB w7 ta (M.pT nb)) := ts
            have HS7 : Hid (SrcB w7 wx.heap.size [M.b1 (at' : Int)]) := HS9.out.later tb
            have hz7 : Hid (p + 1 ≤ w7.heap.size) := Nat.le_trans HZ9.out tb.size
            refine hK.out _ _ (HSV.out _ R7.out) (fun hHeld => ?_)
            clear hK K ts tb
            refine till_step 8 rfl (by decide) (by kernel_rfl) (fun K hK => ?_)
            refine step_bys rfl _ _ rfl (p + 1) _ lk rfl HO7.out ta ml tc (M.pT nb) rfl HPl.out HT7.out (by omega) hz7.out ?_
            intro v8 w8 o8 g8
            obtain ⟨gb8, gk8⟩ := ownB_grown HO7.out g8 hz7.out
            have R8 : Hid (Below (p + 1) wx w8 ∧ Kp wx w8) := ⟨R7.out.1.trans gb8, R7.out.2.trans gk8⟩
            have HO8 : Hid (OwnB w8 (p + 1) v8 (lk ++ M.pT nb)) := o8
            have HG8 : Hid (w7.grownBy w8 (Value.slice va vl vc).ownBlock) := g8
            obtain ⟨qa, qn, qc, rfl⟩ := ownB_slice o8
            have hz8 : Hid (p + 1 ≤ w8.heap.size) := Nat.le_trans hz7.out gb8.size
            refine hK.out _ _ (HSV.out _ R8.out) (fun hHeld => ?_)
            clear hK K o8 g8 gb8 gk8
            have HS8 : Hid (SrcB w8 wx.heap.size [M.b1 (at' : Int)]) := HS7.out.grown HG8.out (fun k e => by have := HLt.out k e; omega)
            refine till_step 17 rfl (by decide) (by kernel_rfl) (fun K hK => ?_)
            refine step_bys rfl _ _ rfl (p + 1) _ (lk ++ M.pT nb) rfl HO8.out wx.heap.size 1 1 [M.b1 (at' : Int)] rfl rfl HS8.out (by rw [List.length_append, HPl.out]; omega) hz8.out ?_
            intro v6 w6 o6 g6
            obtain ⟨gb6, gk6⟩ := ownB_grown HO8.out g6 hz8.out
            have R6 : Hid (Below (p + 1) wx w6 ∧ Kp wx w6) := ⟨R8.out.1.trans gb6, R8.out.2.trans gk6⟩
            rw [HSt.out] at o6
            have HO6 : Aside (OwnB w6 (p + 1) v6 (ld ++ ((H.map M.hdB).take (j + 1)).flatMap M.pHd)) := o6
            refine hK.out _ _ (HSV.out _ R6.out) (fun hHeld => ?_)
            clear hK K o6 g6 gb6 gk6
            refine till_last rfl (by kernel_rfl) (by kernel_rfl) (fun K hK => ?_) _
            go_simp
            refine hK.out _ _ ?_
            clear hK K
            go_wp2
            go_roundg (gk - 1)
            case measure => omega
            case rel => exact ⟨j + 1, by omega, by go_num, HO6, hbej.trans R6.out.1⟩
        · obtain rfl : j = n2 := by omega
          have hkk3 : decide ((j : Int) < (j : Int)) = false := by simp
          have e1 : (H.map M.hdB).take j = H.map M.hdB := List.take_of_length_le (by rw [List.length_map, HNH.out]; exact Nat.le_refl _)
          have hfin : ld ++ ((H.map M.hdB).take j).flatMap M.pHd = M.bytesR C H := by
            rw [e1, HLd.out, HLc.out]
            unfold M.bytesR M.pRe M.pL
            rw [List.length_map, HNC.out, HNH.out]
            simp
          have ho := HOj.out
          rw [hfin] at ho
          have hcv := ownB_conv ho
          rw [← HSo.out] at hcv
          have hbz := HBw.out _ hbej
          clear e1 hfin ho
          go_wp2
          go_ret
          exact ⟨rfl, hbz⟩
end Go.Proofs.Ytcgpgflnihjpiag
