/- For every repo, every name and every list of changes, the law WorkPuts returns true and leaves its arguments as they were: work.Put answers what the reference answers. No condition. -/
import Derived.Test.YtcgpgflnihjpiaeGreatBWorkPuts09
import Derived.Test.YtcgpgflnihjpiaeGreatBWorkPuts10
import Derived.Test.YtcgpgflnihjpiaeGreatRows
import Derived.Test.YtcgpgflnihjpiaeGreatBWorkPuts01
import Derived.ProofKit
import Derived.OpenShut
import Derived.ChangeOld
import Derived.Deep.SlicePairs
import Derived.Deep.RegionHeld
import Derived.Lib.SmallJoins
import Derived.ChangeMaps5
import Derived.Test.YtcgpgflnihjpiaeGreatBWorkPuts02
import Derived.Test.YtcgpgflnihjpiaeGreatBWorkPuts04
import Derived.Test.YtcgpgflnihjpiaeGreatBWorkPuts08
namespace Go.Proofs.YtcgpgflnihjpiaeGreat
open Go.RowKit Go.Shelf Go.Maps

theorem M.wpE_at {C : List M.Com} {H : List M.Hd} {s : ByteArray} {d : List M.Chg} (hz : M.hchk C H s = 0) :
    (M.fine d = false → M.wpE C H s d = 1) ∧ (M.fine d = true → d.length = 0 → M.wpE C H s d = 9) ∧ (M.fine d = true → d.length ≠ 0 → C.length = 14 → M.wpE C H s d = 2) ∧ (M.fine d = true → d.length ≠ 0 → C.length ≠ 14 → M.wpE C H s d = M.patchE (C.getD (M.hat C H s).toNat ([], [])).1 d) := by
  have h14 := (M.dchk_zero (M.rchk_zero (M.hchk_zero hz).1).1).1
  unfold M.wpE
  refine ⟨fun h => ?_, fun h1 h2 => ?_, fun h1 h2 h3 => ?_, fun h1 h2 h3 => ?_⟩
  · simp [hz, h]
  · simp [hz, h1, h2]
  · simp [hz, h1, h2, h3]
  · have : ¬ 14 ≤ C.length := by omega
    simp [hz, h1, h2, this]

set_option maxRecDepth 100000 in
set_option maxHeartbeats 16000000 in
theorem putTo_any (a : Option Addr) (n cap : Nat) (C : List M.Com) (a2 : Option Addr) (n2 cap2 : Nat) (H : List M.Hd) (s : ByteArray) (a3 : Option Addr) (m3 cap3 : Nat) (d : List M.Chg) (w : World) (hV : RepoV w a n cap C a2 n2 cap2 H) (hrc : Rc w a3 m3 d) (hm3 : m3 ≤ 9223372036854775807) :
    Calls Tryz.prog 7 #[.agg #[.slice a n cap, .slice a2 n2 cap2], .string s, .slice a3 m3 cap3] w fun e w' => ∃ v, e = .returned (.tuple #[v, .int .i64 (M.wpE C H s d)]) ∧ RepoOwn w' w.heap.size v (M.wpC C H s d) (M.wpH C H s d) ∧ Below w.heap.size w w' := by
  obtain ⟨p, hp⟩ : ∃ p, p = w.heap.size := ⟨_, rfl⟩
  obtain ⟨R, hR⟩ : ∃ R, R = p + 1 := ⟨_, rfl⟩
  have I0 := InBox.new w a n cap C a2 n2 cap2 H hV.cm hV.hs
  obtain ⟨W, hW⟩ : ∃ W, W = (w.alloc (.cells #[.slice a n cap, .slice a2 n2 cap2] 25)).alloc (.cells #[.slice none 0 0, .slice none 0 0] 25) := ⟨_, rfl⟩
  have hb0 : Below (w.alloc (.cells #[.slice a n cap, .slice a2 n2 cap2] 25)).heap.size (w.alloc (.cells #[.slice a n cap, .slice a2 n2 cap2] 25)) W := by rw [hW]; exact (Below.refl _ _).alloc (Nat.le_refl _) _
  have I1 := I0.below hb0
  rw [← hp] at I1
  have hb : Below w.heap.size w W := by rw [hW]; exact ((Below.refl _ _).alloc (Nat.le_refl _) _).alloc (by simp) _
  have hsz : W.heap.size = R + 1 := by rw [hW, hR, hp]; simp
  have q2 : W.heap[R]? = some (.cells #[.slice none 0 0, .slice none 0 0] 25 (0, 0)) := by
    rw [hW, show R = (w.alloc (.cells #[.slice a n cap, .slice a2 n2 cap2] 25)).heap.size by rw [hR, hp]; simp]
    exact heap_alloc_new _ _
  have HI : Hid (InBox W p a n cap C a2 n2 cap2 H) := I1
  have HVW : Hid (RepoV W a n cap C a2 n2 cap2 H) := hV.later hb
  have HRc : Hid (Rc W a3 m3 d) := hrc.below hb (Nat.le_refl _)
  have c0 := I1.c0
  have c1 := I1.c1
  obtain ⟨z, hz⟩ : ∃ z, z = M.hchk C H s := ⟨_, rfl⟩
  obtain ⟨x, hx⟩ : ∃ x, x = M.hat C H s := ⟨_, rfl⟩
  have K0 := headOf_any a n cap C a2 n2 cap2 H s W I1.cm hV.nm I1.hs hV.hm
  rw [← hz, ← hx] at K0
  have KH : Hid (Calls Tryz.prog 26 #[.agg #[.slice a n cap, .slice a2 n2 cap2], .string s] W fun e w' => e = .returned (.tuple #[.int .i64 x, .int .i64 z]) ∧ Below W.heap.size W w') := K0
  have HZ : Aside (z = M.hchk C H s) := hz
  have HX : Aside (x = M.hat C H s) := hx
  have HQ2 : Hid (W.heap[R]? = some (.cells #[.slice none 0 0, .slice none 0 0] 25 (0, 0))) := q2
  have HW : Hid (W = (w.alloc (.cells #[.slice a n cap, .slice a2 n2 cap2] 25)).alloc (.cells #[.slice none 0 0, .slice none 0 0] 25)) := hW
  have HP : Aside (p = w.heap.size) := hp
  have HR : Aside (R = p + 1) := hR
  have HPR : Aside (w.heap.size ≤ p) := by unfold Aside; omega
  have HSz : Aside (W.heap.size = R + 1) := hsz
  have hpR : p < R := by omega
  have hdl : d.length = m3 := hrc.1
  have HDl : Aside (d.length = m3) := hdl
  have hnC : C.length = n := hV.cm.1
  have HNC : Aside (C.length = n) := hnC
  have hnm := hV.nm
  clear hW hp hR hV hrc hb0 I0 I1 K0 hz hx q2 hsz hdl hnC
  go_enter Tryz.func7, Tryz.ntmps7
  go_wp2_with fail
  rw [← HW.out, ← HP.out, ← HR.out]
  go_wp2_with fail
  refine KH.out.mono ?_
  rintro e w1 ⟨rfl, b1⟩
  have hb1 : Below w.heap.size w w1 := hb.trans (b1.mono hb.size)
  have hs1 := b1.size
  have hRl : R < w1.heap.size := by have := HSz.out; omega
  have r1 : w1.heap[R]? = some (.cells #[.slice none 0 0, .slice none 0 0] 25 (0, 0)) := (b1.block R (by have := HSz.out; omega)).trans HQ2.out
  have J1 := HI.out.below b1
  have d0 := J1.c0
  have d1 := J1.c1
  by_cases hz0 : z = 0
  · subst hz0
    have hZ0 : M.hchk C H s = 0 := HZ.out.symm
    have hr0 := (M.hchk_zero hZ0).1
    obtain ⟨t, ht⟩ : ∃ t, t = M.fine d := ⟨_, rfl⟩
    have K1 := cfine_any a3 m3 cap3 d w1 (HRc.out.below b1 (Nat.le_refl _)) hm3
    rw [← ht] at K1
    have KF : Hid (Calls Tryz.prog 27 #[.slice a3 m3 cap3] w1 fun e w' => e = .returned (.bool t) ∧ Below w1.heap.size w1 w') := K1
    have HT : Aside (t = M.fine d) := ht
    have HZ0 : Hid (M.hchk C H s = 0) := hZ0
    clear K1 ht hZ0 c0 c1 J1 KH
    go_wp2_with fail
    refine KF.out.mono ?_
    rintro e w2 ⟨rfl, b2⟩
    have hb2 : Below w.heap.size w w2 := hb1.trans (b2.mono hb1.size)
    have r2 : w2.heap[R]? = some (.cells #[.slice none 0 0, .slice none 0 0] 25 (0, 0)) := (b2.block R hRl).trans r1
    have hRl2 : R < w2.heap.size := (Array.getElem?_eq_some_iff.1 r2).1
    have bW2 : Below W.heap.size W w2 := b1.trans (b2.mono b1.size)
    have J2 := HI.out.below bW2
    have e0 := J2.c0
    have e1 := J2.c1
    have HJ2 : Hid (InBox w2 p a n cap C a2 n2 cap2 H) := J2
    clear d0 d1 b2 KF J2 r1
    cases t with
    | false =>
      have E : Aside (M.wpE C H s d = 1) := (M.wpE_at HZ0.out).1 HT.out.symm
      have EC : Aside (M.wpC C H s d = [] ∧ M.wpH C H s d = []) := ⟨by unfold M.wpC; rw [if_neg (by rw [E.out]; decide)], by unfold M.wpH; rw [if_neg (by rw [E.out]; decide)]⟩
      obtain ⟨g1, g2, g3⟩ := res_set r2 (.slice none 0 0) (.slice none 0 0)
      obtain ⟨X, hX⟩ : ∃ X, X = (w2.setCell ⟨R, 0, none⟩ (.slice none 0 0)).setCell ⟨R, 1, none⟩ (.slice none 0 0) := ⟨_, rfl⟩
      rw [← hX] at g1
      have bX : Below w.heap.size w X := by rw [hX]; exact (hb2.setCell (p := ⟨R, 0, none⟩) (by show _ ≤ R; have := HPR.out; omega) _).setCell (p := ⟨R, 1, none⟩) (by show _ ≤ R; have := HPR.out; omega) _
      have gX := g1
      have HX9 : Hid (X = (w2.setCell ⟨R, 0, none⟩ (.slice none 0 0)).setCell ⟨R, 1, none⟩ (.slice none 0 0)) := hX
      have HX0 : Aside (X.cell? ⟨R, 0, none⟩ = some (.slice none 0 0)) := by unfold Aside; rw [cell_of_row _ _ _ _ _ _ gX]; rfl
      have HX1 : Aside (X.cell? ⟨R, 1, none⟩ = some (.slice none 0 0)) := by unfold Aside; rw [cell_of_row _ _ _ _ _ _ gX]; rfl
      have x0 : w2.cell? ⟨R, 0, none⟩ = some (.slice none 0 0) := by rw [cell_of_row _ _ _ _ _ _ r2]; rfl
      have x1 : w2.cell? ⟨R, 1, none⟩ = some (.slice none 0 0) := by rw [cell_of_row _ _ _ _ _ _ r2]; rfl
      have f0 : w2.frozen? ⟨R, 0, none⟩ = false := frozen_of_row _ _ _ _ _ r2
      have f1 : w2.frozen? ⟨R, 1, none⟩ = false := frozen_of_row _ _ _ _ _ r2
      clear g1 g2 g3 hX gX r2
      go_wp2
      rw [← HX9.out]
      have y0 := HX0.out
      have y1 := HX1.out
      refine bodyPost_ret (v := .tuple #[.agg #[.slice none 0 0, .slice none 0 0], .int .i64 1]) (by simp [results, Tryz.results7, go_sem, y0, y1]) rfl ?_
      refine ⟨_, ret_two' E.out.symm, ?_, bX⟩
      rw [EC.out.1, EC.out.2]; exact RepoOwn.none _ _
    | true =>
      by_cases hm0 : m3 = 0
      · have E : Aside (M.wpE C H s d = 9) := (M.wpE_at HZ0.out).2.1 HT.out.symm (by rw [HDl.out]; exact hm0)
        have EC : Aside (M.wpC C H s d = [] ∧ M.wpH C H s d = []) := ⟨by unfold M.wpC; rw [if_neg (by rw [E.out]; decide)], by unfold M.wpH; rw [if_neg (by rw [E.out]; decide)]⟩
        have hmb : ((m3 : Int) == 0) = true := by simp [hm0]
        clear hm0
        obtain ⟨g1, g2, g3⟩ := res_set r2 (.slice none 0 0) (.slice none 0 0)
        obtain ⟨X, hX⟩ : ∃ X, X = (w2.setCell ⟨R, 0, none⟩ (.slice none 0 0)).setCell ⟨R, 1, none⟩ (.slice none 0 0) := ⟨_, rfl⟩
        rw [← hX] at g1
        have bX : Below w.heap.size w X := by rw [hX]; exact (hb2.setCell (p := ⟨R, 0, none⟩) (by show _ ≤ R; have := HPR.out; omega) _).setCell (p := ⟨R, 1, none⟩) (by show _ ≤ R; have := HPR.out; omega) _
        have gX := g1
        have HX9 : Hid (X = (w2.setCell ⟨R, 0, none⟩ (.slice none 0 0)).setCell ⟨R, 1, none⟩ (.slice none 0 0)) := hX
        have HX0 : Aside (X.cell? ⟨R, 0, none⟩ = some (.slice none 0 0)) := by unfold Aside; rw [cell_of_row _ _ _ _ _ _ gX]; rfl
        have HX1 : Aside (X.cell? ⟨R, 1, none⟩ = some (.slice none 0 0)) := by unfold Aside; rw [cell_of_row _ _ _ _ _ _ gX]; rfl
        have x0 : w2.cell? ⟨R, 0, none⟩ = some (.slice none 0 0) := by rw [cell_of_row _ _ _ _ _ _ r2]; rfl
        have x1 : w2.cell? ⟨R, 1, none⟩ = some (.slice none 0 0) := by rw [cell_of_row _ _ _ _ _ _ r2]; rfl
        have f0 : w2.frozen? ⟨R, 0, none⟩ = false := frozen_of_row _ _ _ _ _ r2
        have f1 : w2.frozen? ⟨R, 1, none⟩ = false := frozen_of_row _ _ _ _ _ r2
        clear g1 g2 g3 hX gX r2
        go_wp2
        rw [← HX9.out]
        have y0 := HX0.out
        have y1 := HX1.out
        refine bodyPost_ret (v := .tuple #[.agg #[.slice none 0 0, .slice none 0 0], .int .i64 9]) (by simp [results, Tryz.results7, go_sem, y0, y1]) rfl ?_
        refine ⟨_, ret_two' E.out.symm, ?_, bX⟩
        rw [EC.out.1, EC.out.2]; exact RepoOwn.none _ _
      · have hmb : ((m3 : Int) == 0) = false := by simp [hm0]
        have HM0 : Aside (d.length ≠ 0) := by unfold Aside; rw [HDl.out]; exact hm0
        clear hm0
        by_cases h14 : n = 14
        · have E : Aside (M.wpE C H s d = 2) := (M.wpE_at HZ0.out).2.2.1 HT.out.symm HM0.out (by rw [HNC.out]; exact h14)
          have EC : Aside (M.wpC C H s d = [] ∧ M.wpH C H s d = []) := ⟨by unfold M.wpC; rw [if_neg (by rw [E.out]; decide)], by unfold M.wpH; rw [if_neg (by rw [E.out]; decide)]⟩
          have h14b : ((n : Int) == 14) = true := by simp [h14]
          clear h14
          obtain ⟨g1, g2, g3⟩ := res_set r2 (.slice none 0 0) (.slice none 0 0)
          obtain ⟨X, hX⟩ : ∃ X, X = (w2.setCell ⟨R, 0, none⟩ (.slice none 0 0)).setCell ⟨R, 1, none⟩ (.slice none 0 0) := ⟨_, rfl⟩
          rw [← hX] at g1
          have bX : Below w.heap.size w X := by rw [hX]; exact (hb2.setCell (p := ⟨R, 0, none⟩) (by show _ ≤ R; have := HPR.out; omega) _).setCell (p := ⟨R, 1, none⟩) (by show _ ≤ R; have := HPR.out; omega) _
          have gX := g1
          have HX9 : Hid (X = (w2.setCell ⟨R, 0, none⟩ (.slice none 0 0)).setCell ⟨R, 1, none⟩ (.slice none 0 0)) := hX
          have HX0 : Aside (X.cell? ⟨R, 0, none⟩ = some (.slice none 0 0)) := by unfold Aside; rw [cell_of_row _ _ _ _ _ _ gX]; rfl
          have HX1 : Aside (X.cell? ⟨R, 1, none⟩ = some (.slice none 0 0)) := by unfold Aside; rw [cell_of_row _ _ _ _ _ _ gX]; rfl
          have x0 : w2.cell? ⟨R, 0, none⟩ = some (.slice none 0 0) := by rw [cell_of_row _ _ _ _ _ _ r2]; rfl
          have x1 : w2.cell? ⟨R, 1, none⟩ = some (.slice none 0 0) := by rw [cell_of_row _ _ _ _ _ _ r2]; rfl
          have f0 : w2.frozen? ⟨R, 0, none⟩ = false := frozen_of_row _ _ _ _ _ r2
          have f1 : w2.frozen? ⟨R, 1, none⟩ = false := frozen_of_row _ _ _ _ _ r2
          clear g1 g2 g3 hX gX r2
          go_wp2
          rw [← HX9.out]
          have y0 := HX0.out
          have y1 := HX1.out
          refine bodyPost_ret (v := .tuple #[.agg #[.slice none 0 0, .slice none 0 0], .int .i64 2]) (by simp [results, Tryz.results7, go_sem, y0, y1]) rfl ?_
          refine ⟨_, ret_two' E.out.symm, ?_, bX⟩
          rw [EC.out.1, EC.out.2]; exact RepoOwn.none _ _
        · have h14b : ((n : Int) == 14) = false := by simp; omega
          have HEp : Aside (M.wpE C H s d = M.patchE (C.getD (M.hat C H s).toNat ([], [])).1 d) := (M.wpE_at HZ0.out).2.2.2 HT.out.symm HM0.out (by rw [HNC.out]; exact h14)
          have hin := M.hat_in HZ0.out
          rw [← HX.out, HNC.out] at hin
          obtain ⟨xn, rfl⟩ : ∃ xn : Nat, x = (xn : Int) := ⟨x.toNat, by omega⟩
          have hxn : xn < n := by omega
          have hxe : (M.hat C H s).toNat = xn := by rw [← HX.out]; rfl
          rw [hxe] at HEp
          obtain ⟨b, off, rfl, hbw2, ra, rn, rc, pa, pn, pc, t0, t1, s0, s1, m0, m1⟩ := HJ2.out.cm.nth hxn
          obtain ⟨l, hl⟩ : ∃ l, l = (C.getD xn ([], [])).1 := ⟨_, rfl⟩
          rw [← hl] at s0 HEp
          have K3 := patchOf_own ra rn rc l a3 m3 cap3 d w2 s0 m0 (HRc.out.below bW2 (Nat.le_refl _)) hm3
          obtain ⟨E, hE⟩ : ∃ E, E = M.patchE l d := ⟨_, rfl⟩
          rw [← hE] at K3 HEp
          have KP : Hid (Calls Tryz.prog 28 #[.slice ra rn rc, .slice a3 m3 cap3] w2 fun e w' => HandsO w2 w' (M.patchV l d) E e) := K3
          have HE : Aside (E = M.patchE l d) := hE
          have HL : Aside (l = (C.getD xn ([], [])).1) := hl
          have hxi : (xn : Int) < (n : Int) := by omega
          have HXe : Aside (M.hat C H s = (xn : Int)) := HX.out.symm
          clear K3 hE hl h14 hin hxe s0 s1
          go_wp2_with fail
          refine KP.out.mono ?_
          rintro e w3 ⟨la, ln, lc, rfl, lr, lle, lmx, ⟨lnil, lo⟩, b3⟩
          have hb3 : Below w.heap.size w w3 := hb2.trans (b3.mono hb2.size)
          have r3 : w3.heap[R]? = some (.cells #[.slice none 0 0, .slice none 0 0] 25 (0, 0)) := (b3.block R hRl2).trans r2
          have hRl3 : R < w3.heap.size := (Array.getElem?_eq_some_iff.1 r3).1
          have bW3 : Below W.heap.size W w3 := bW2.trans (b3.mono bW2.size)
          have J3 := HI.out.below bW3
          have g0 := J3.c0
          have g1 := J3.c1
          by_cases hE0 : E = 0
          · subst hE0
            have E0 : Aside (M.wpE C H s d = 0) := HEp
            have hlp : 0 ≤ M.plc H s := (M.hchk_zero HZ0.out).2
            have hll := M.plc_lt H s
            obtain ⟨kk, hkk⟩ : ∃ kk : Nat, M.plc H s = (kk : Int) := ⟨(M.plc H s).toNat, by omega⟩
            have hkl : kk < H.length := by omega
            have HLen : Aside ((M.patchV l d).length ≤ 1000000) := by have := M.patchV_len (l := l) (d := d) HE.out.symm; unfold Aside; omega
            have EC : Aside (M.wpC C H s d = C ++ [(M.patchV l d, [(xn : Int)])] ∧ M.wpH C H s d = M.setH H kk C.length) := by
              obtain ⟨_, _, _, _, _, f1, f2⟩ := M.put_parts E0.out
              exact ⟨by rw [f1, HXe.out, HL.out]; rfl, by rw [f2, hkk]; rfl⟩
            have HSV : Hid (∀ V, Below w3.heap.size w3 V → V.cell? ⟨p, 0, none⟩ = some (.slice (some ⟨b, off, none⟩) n cap) ∧ V.cell? ⟨p, 1, none⟩ = some (.slice a2 n2 cap2)) := fun V hV => ⟨(hV.cell (p := ⟨p, 0, none⟩) (by show p < _; omega)).trans g0, (hV.cell (p := ⟨p, 1, none⟩) (by show p < _; omega)).trans g1⟩
            have KA : Hid (∀ V, Below w3.heap.size w3 V → Calls Tryz.prog 30 #[.agg #[.slice (some ⟨b, off, none⟩) n cap, .slice a2 n2 cap2], .string s] V fun e w' => e = .returned (.int .i64 (kk : Int)) ∧ Below V.heap.size V w') := fun V hV => by
              rw [← hkk]
              have q := (HVW.out.later bW3).later hV
              exact headAt_any _ n cap C a2 n2 cap2 H s V q.cm q.hs q.hm
            have KG : Hid (∀ V vv, Below w3.heap.size w3 V → OwnI V w3.heap.size (.slice (some ⟨vv, 0, none⟩) 1 1) [(xn : Int)] → Calls Tryz.prog 29 #[.agg #[.slice (some ⟨b, off, none⟩) n cap, .slice a2 n2 cap2], .int .i64 (kk : Int), .slice la ln lc, .slice (some ⟨vv, 0, none⟩) 1 1] V fun e w' => ∃ v, e = .returned v ∧ RepoOwn w' w2.heap.size v (C ++ [(M.patchV l d, [(xn : Int)])]) (M.setH H kk C.length) ∧ Below V.heap.size V w') := fun V vv hV hI =>
              grown_any _ n cap C a2 n2 cap2 H kk la _ ln lc 1 1 (M.patchV l d, [(xn : Int)]) w2.heap.size V ((HVW.out.later bW3).later hV) hr0 hkl (Nat.le_trans b3.size hV.size) ⟨ownsRow_later lo hV, ownsRow_lower hI b3.size, HLen.out, by simp⟩
            have HBd : Hid (Below w3.heap.size w3 w3.drew) := (Below.refl _ _).drew
            have hw23 := b3.size
            have HS2 : Hid (w.heap.size ≤ w2.heap.size) := hb2.size
            clear lr lo lnil KP HEp hkk hll J3 g0 g1 r2
            go_wp2_with fail
            refine wp_region_till 9 (fun V => V.cell? ⟨p, 0, none⟩ = some (.slice (some ⟨b, off, none⟩) n cap) ∧ V.cell? ⟨p, 1, none⟩ = some (.slice a2 n2 cap2)) (by kernel_rfl) (HSV.out _ HBd.out) (fun hHeld => ?_)
            refine till_take 0 (v := .agg #[.slice (some ⟨b, off, none⟩) n cap, .slice a2 n2 cap2]) rfl (by decide) (by kernel_rfl) (by kernel_rfl) (by kernel_rfl) (by kernel_rfl) (by kernel_rfl) (fun _ _ _ h => h) (Or.inl ⟨by rfl, fun V hV => (by obtain ⟨v0, v1⟩ := hV; go_simp)⟩) hHeld ?_
            try simp only [Act.put]
            refine till_take 1 (v := .agg #[.slice (some ⟨b, off, none⟩) n cap, .slice a2 n2 cap2]) rfl (by decide) (by kernel_rfl) (by kernel_rfl) (by kernel_rfl) (by kernel_rfl) (by kernel_rfl) (fun _ _ _ h => h) (Or.inl ⟨by rfl, fun V hV => (by obtain ⟨v0, v1⟩ := hV; go_simp)⟩) hHeld ?_
            try simp only [Act.put]
            refine till_go 2 (v := .string s) rfl (by decide) (by kernel_rfl) (by kernel_rfl) (by kernel_rfl) (fun _ _ _ h => h) (Or.inl ⟨by rfl, fun V _ => (by go_simp)⟩) hHeld ?_
            try simp only [Act.put]
            refine till_go 4 (v := .slice la ln lc) rfl (by decide) (by kernel_rfl) (by kernel_rfl) (by kernel_rfl) (fun _ _ _ h => h) (Or.inl ⟨by rfl, fun V _ => (by go_simp)⟩) hHeld ?_
            try simp only [Act.put]
            refine till_go 5 (v := .int .i64 (xn : Int)) rfl (by decide) (by kernel_rfl) (by kernel_rfl) (by kernel_rfl) (fun _ _ _ h => h) (Or.inl ⟨by rfl, fun V _ => (by go_simp)⟩) hHeld ?_
            try simp only [Act.put]
            refine till_two 3 6 rfl rfl (by decide) (by decide) (by kernel_rfl) (fun K hK => ?hA) (fun K hK => ?hB)
            case' hA =>
              go_simp
              go_wp2_with (go_at_call 30; refine (KA.out _ HBd.out).mono ?_; rintro e w4 ⟨rfl, b4⟩)
              have c4 : Below w3.heap.size w3 w4 := HBd.out.trans b4
              refine hK.out _ _ (HSV.out _ c4) (fun hHeld => ?_)
              clear hK K b4
              refine till_step 6 rfl (by decide) (by kernel_rfl) (fun K hK => ?_)
              go_simp
              have c5 : Hid (Below w3.heap.size w3 (w4.alloc (.cells #[.int .i64 (xn : Int)] 3))) := c4.alloc c4.size _
              have oi5 : Hid (OwnI (w4.alloc (.cells #[.int .i64 (xn : Int)] 3)) w3.heap.size (.slice (some ⟨w4.heap.size, 0, none⟩) 1 1) [(xn : Int)]) := ownI_one w4 _ _ c4.size
              refine hK.out _ _ (HSV.out _ c5.out) (fun hHeld => ?_)
              clear hK K c4
            case' hB =>
              go_simp
              have c4 : Below w3.heap.size w3 (w3.alloc (.cells #[.int .i64 (xn : Int)] 3)).drew := ((Below.refl _ _).alloc (Nat.le_refl _) _).drew
              refine hK.out _ _ (HSV.out _ c4) (fun hHeld => ?_)
              clear hK K
              refine till_step 3 rfl (by decide) (by kernel_rfl) (fun K hK => ?_)
              go_simp
              go_wp2_with (go_at_call 30; refine (KA.out _ c4).mono ?_; rintro e w4 ⟨rfl, b4⟩)
              have c5 : Hid (Below w3.heap.size w3 w4) := c4.trans (b4.mono c4.size)
              have oi5 : Hid (OwnI w4 w3.heap.size (.slice (some ⟨w3.heap.size, 0, none⟩) 1 1) [(xn : Int)]) := ownsRow_later (ownsRow_later (ownI_one w3 _ _ (Nat.le_refl _)) ((Below.refl _ _).drew)) b4
              refine hK.out _ _ (HSV.out _ c5.out) (fun hHeld => ?_)
              clear hK K c4 b4
            all_goals
              refine till_step 7 rfl (by decide) (by kernel_rfl) (fun K hK => ?_)
              go_simp
              go_wp2_with (go_at_call 29; refine (KG.out _ _ c5.out oi5.out).mono ?_; rintro e w6 ⟨v6, rfl, o6, b6⟩)
              have c6 : Below w3.heap.size w3 w6 := c5.out.trans (b6.mono c5.out.size)
              have hb6 : Below w.heap.size w w6 := hb3.trans (c6.mono hb3.size)
              have r6 : w6.heap[R]? = some (.cells #[.slice none 0 0, .slice none 0 0] 25 (0, 0)) := (c6.block R hRl3).trans r3
              obtain ⟨xa8, xc8, ya8, yc8, rfl, _⟩ := o6.v
              generalize hln : (C ++ [(M.patchV l d, [(xn : Int)])]).length = ln8 at *
              generalize hlh : (M.setH H kk C.length).length = lh8 at *
              obtain ⟨q1, q2, hqq, o61, o62⟩ := o6
              obtain ⟨rfl, rfl⟩ : q1 = .slice xa8 ln8 xc8 ∧ q2 = .slice ya8 lh8 yc8 := by simp at hqq; exact ⟨hqq.1.symm, hqq.2.symm⟩
              have HRO : Aside (RepoOwn ((w6.setCell ⟨R, 0, none⟩ (.slice xa8 ln8 xc8)).setCell ⟨R, 1, none⟩ (.slice ya8 lh8 yc8)) w.heap.size (.agg #[.slice xa8 ln8 xc8, .slice ya8 lh8 yc8]) (M.wpC C H s d) (M.wpH C H s d)) := by unfold Aside; rw [EC.out.1, EC.out.2]; exact (repoOwn_set r6 o61 o62).lower HS2.out
              obtain ⟨g1, g2, g3⟩ := res_set r6 (.slice xa8 ln8 xc8) (.slice ya8 lh8 yc8)
              obtain ⟨X, hX⟩ : ∃ X, X = (w6.setCell ⟨R, 0, none⟩ (.slice xa8 ln8 xc8)).setCell ⟨R, 1, none⟩ (.slice ya8 lh8 yc8) := ⟨_, rfl⟩
              have sX := HSV.out w6 c6
              have sX2 : X.cell? ⟨p, 0, none⟩ = some (.slice (some ⟨b, off, none⟩) n cap) ∧ X.cell? ⟨p, 1, none⟩ = some (.slice a2 n2 cap2) := by
                rw [hX]
                exact ⟨(World.cell?_of_block (a := ⟨p, 0, none⟩) (g2 p (by omega))).trans sX.1, (World.cell?_of_block (a := ⟨p, 1, none⟩) (g2 p (by omega))).trans sX.2⟩
              rw [← hX] at g1 HRO
              have bX : Below w.heap.size w X := by rw [hX]; exact (hb6.setCell (p := ⟨R, 0, none⟩) (by show _ ≤ R; have := HPR.out; omega) _).setCell (p := ⟨R, 1, none⟩) (by show _ ≤ R; have := HPR.out; omega) _
              have HX9 : Hid (X = (w6.setCell ⟨R, 0, none⟩ (.slice xa8 ln8 xc8)).setCell ⟨R, 1, none⟩ (.slice ya8 lh8 yc8)) := hX
              have HX0 : Aside (X.cell? ⟨R, 0, none⟩ = some (.slice xa8 ln8 xc8)) := by unfold Aside; rw [cell_of_row _ _ _ _ _ _ g1]; rfl
              have HX1 : Aside (X.cell? ⟨R, 1, none⟩ = some (.slice ya8 lh8 yc8)) := by unfold Aside; rw [cell_of_row _ _ _ _ _ _ g1]; rfl
              have HSX : Hid (X.cell? ⟨p, 0, none⟩ = some (.slice (some ⟨b, off, none⟩) n cap) ∧ X.cell? ⟨p, 1, none⟩ = some (.slice a2 n2 cap2)) := sX2
              have HS6 : Hid (w6.cell? ⟨p, 0, none⟩ = some (.slice (some ⟨b, off, none⟩) n cap) ∧ w6.cell? ⟨p, 1, none⟩ = some (.slice a2 n2 cap2)) := sX
              have x0 : w6.cell? ⟨R, 0, none⟩ = some (.slice none 0 0) := by rw [cell_of_row _ _ _ _ _ _ r6]; rfl
              have x1 : w6.cell? ⟨R, 1, none⟩ = some (.slice none 0 0) := by rw [cell_of_row _ _ _ _ _ _ r6]; rfl
              have f0 : w6.frozen? ⟨R, 0, none⟩ = false := frozen_of_row _ _ _ _ _ r6
              have f1 : w6.frozen? ⟨R, 1, none⟩ = false := frozen_of_row _ _ _ _ _ r6
              clear g1 g2 g3 hX r6 o61 o62 hqq hln hlh sX sX2 b6 c6
              refine hK.out _ _ HS6.out (fun hHeld => ?_)
              clear hK K
              refine till_step 8 rfl (by decide) (by kernel_rfl) (fun K hK => ?_)
              go_simp
              rw [← HX9.out]
              refine hK.out _ _ HSX.out (fun hHeld => ?_)
              clear hK K
              refine till_last rfl (by kernel_rfl) (by kernel_rfl) (fun K hK => ?_) _
              go_simp
              refine hK.out _ _ ?_
              clear hK K
              go_wp2
              have y0 := HX0.out
              have y1 := HX1.out
              refine bodyPost_ret (v := .tuple #[.agg #[.slice xa8 ln8 xc8, .slice ya8 lh8 yc8], .int .i64 0]) (by simp [results, Tryz.results7, go_sem, y0, y1]) rfl ?_
              exact ⟨_, ret_two' E0.out.symm, HRO.out, bX⟩
          · have hEb : (E != 0) = true := by simp [hE0]
            have EE : Aside (M.wpE C H s d = E) := HEp
            have EC : Aside (M.wpC C H s d = [] ∧ M.wpH C H s d = []) := ⟨by unfold M.wpC; rw [if_neg (by rw [EE.out]; exact hE0)], by unfold M.wpH; rw [if_neg (by rw [EE.out]; exact hE0)]⟩
            clear lr lo lnil KP HEp hE0 J3 g0 g1 r2
            obtain ⟨g1, g2, g3⟩ := res_set r3 (.slice none 0 0) (.slice none 0 0)
            obtain ⟨X, hX⟩ : ∃ X, X = (w3.setCell ⟨R, 0, none⟩ (.slice none 0 0)).setCell ⟨R, 1, none⟩ (.slice none 0 0) := ⟨_, rfl⟩
            rw [← hX] at g1
            have bX : Below w.heap.size w X := by rw [hX]; exact (hb3.setCell (p := ⟨R, 0, none⟩) (by show _ ≤ R; have := HPR.out; omega) _).setCell (p := ⟨R, 1, none⟩) (by show _ ≤ R; have := HPR.out; omega) _
            have gX := g1
            have HX9 : Hid (X = (w3.setCell ⟨R, 0, none⟩ (.slice none 0 0)).setCell ⟨R, 1, none⟩ (.slice none 0 0)) := hX
            have HX0 : Aside (X.cell? ⟨R, 0, none⟩ = some (.slice none 0 0)) := by unfold Aside; rw [cell_of_row _ _ _ _ _ _ gX]; rfl
            have HX1 : Aside (X.cell? ⟨R, 1, none⟩ = some (.slice none 0 0)) := by unfold Aside; rw [cell_of_row _ _ _ _ _ _ gX]; rfl
            have x0 : w3.cell? ⟨R, 0, none⟩ = some (.slice none 0 0) := by rw [cell_of_row _ _ _ _ _ _ r3]; rfl
            have x1 : w3.cell? ⟨R, 1, none⟩ = some (.slice none 0 0) := by rw [cell_of_row _ _ _ _ _ _ r3]; rfl
            have f0 : w3.frozen? ⟨R, 0, none⟩ = false := frozen_of_row _ _ _ _ _ r3
            have f1 : w3.frozen? ⟨R, 1, none⟩ = false := frozen_of_row _ _ _ _ _ r3
            clear g1 g2 g3 hX gX r3
            go_wp2
            rw [← HX9.out]
            have y0 := HX0.out
            have y1 := HX1.out
            refine bodyPost_ret (v := .tuple #[.agg #[.slice none 0 0, .slice none 0 0], .int .i64 E]) (by simp [results, Tryz.results7, go_sem, y0, y1]) rfl ?_
            refine ⟨_, ret_two' EE.out.symm, ?_, bX⟩
            rw [EC.out.1, EC.out.2]; exact RepoOwn.none _ _
  · have hzb : (z != 0) = true := by simp [hz0]
    have EE : Aside (M.wpE C H s d = z) := by unfold Aside M.wpE; rw [← HZ.out, if_pos hz0]
    have EC : Aside (M.wpC C H s d = [] ∧ M.wpH C H s d = []) := ⟨by unfold M.wpC; rw [if_neg (by rw [EE.out]; exact hz0)], by unfold M.wpH; rw [if_neg (by rw [EE.out]; exact hz0)]⟩
    clear hz0 J1 d0 d1 c0 c1 KH
    obtain ⟨g1, g2, g3⟩ := res_set r1 (.slice none 0 0) (.slice none 0 0)
    obtain ⟨X, hX⟩ : ∃ X, X = (w1.setCell ⟨R, 0, none⟩ (.slice none 0 0)).setCell ⟨R, 1, none⟩ (.slice none 0 0) := ⟨_, rfl⟩
    rw [← hX] at g1
    have bX : Below w.heap.size w X := by rw [hX]; exact (hb1.setCell (p := ⟨R, 0, none⟩) (by show _ ≤ R; have := HPR.out; omega) _).setCell (p := ⟨R, 1, none⟩) (by show _ ≤ R; have := HPR.out; omega) _
    have gX := g1
    have HX9 : Hid (X = (w1.setCell ⟨R, 0, none⟩ (.slice none 0 0)).setCell ⟨R, 1, none⟩ (.slice none 0 0)) := hX
    have HX0 : Aside (X.cell? ⟨R, 0, none⟩ = some (.slice none 0 0)) := by unfold Aside; rw [cell_of_row _ _ _ _ _ _ gX]; rfl
    have HX1 : Aside (X.cell? ⟨R, 1, none⟩ = some (.slice none 0 0)) := by unfold Aside; rw [cell_of_row _ _ _ _ _ _ gX]; rfl
    have x0 : w1.cell? ⟨R, 0, none⟩ = some (.slice none 0 0) := by rw [cell_of_row _ _ _ _ _ _ r1]; rfl
    have x1 : w1.cell? ⟨R, 1, none⟩ = some (.slice none 0 0) := by rw [cell_of_row _ _ _ _ _ _ r1]; rfl
    have f0 : w1.frozen? ⟨R, 0, none⟩ = false := frozen_of_row _ _ _ _ _ r1
    have f1 : w1.frozen? ⟨R, 1, none⟩ = false := frozen_of_row _ _ _ _ _ r1
    clear g1 g2 g3 hX gX r1
    go_wp2
    rw [← HX9.out]
    have y0 := HX0.out
    have y1 := HX1.out
    refine bodyPost_ret (v := .tuple #[.agg #[.slice none 0 0, .slice none 0 0], .int .i64 z]) (by simp [results, Tryz.results7, go_sem, y0, y1]) rfl ?_
    refine ⟨_, ret_two' EE.out.symm, ?_, bX⟩
    rw [EC.out.1, EC.out.2]; exact RepoOwn.none _ _
end Go.Proofs.YtcgpgflnihjpiaeGreat

/- From an argument's reading to the rows that it holds. -/
namespace Go.Proofs.YtcgpgflnihjpiaeGreat
open Go.ChangeShapes Go.WideShapes Go.ChangeAt Go.RowKit Go.Deep

theorem ownTry : ownKnob Tryz.prog.godebug = none := by kernel_rfl
theorem laidTry : laidOutB Tryz.prog = true := by kernel_rfl

theorem open_rows {H : Type} {enc : TypeId × Value → H} {w : World} {base : Nat} {spare : Nat → Bool} {held : Bool} {fuel : Nat} {a : Option Addr} {len cap : Nat} {x : DataW H × List MemPlace}
    (h : DataW.trod enc Tryz.prog w base spare held fuel 50 [.slice a len cap] = some x) : ∃ l, Rd w a len l ∧ len ≤ cap ∧ cap ≤ maxLen ∧ (a = none → len = 0 ∧ cap = 0) := by
  rcases open_slice_pairs Tryz.underlying50 Tryz.underlying88 (by kernel_rfl) rfl rfl (by kernel_rfl) (by kernel_rfl) h with ⟨hcs, _⟩ | ⟨ad, len', cap', m, n, V0, V1, D0, D1, P0, P1, hcs, _, hl, hm, hmm, _, hc⟩
  · simp at hcs
    obtain ⟨rfl, rfl, rfl⟩ := hcs
    exact ⟨[], ⟨rfl, Or.inl rfl⟩, Nat.le_refl _, by simp [maxLen], fun _ => ⟨rfl, rfl⟩⟩
  · simp at hcs
    obtain ⟨rfl, rfl, rfl⟩ := hcs
    have hlm : len ≤ m := by rw [hmm]; split <;> omega
    have each : ∀ i, i < len → ∃ q : Int × Int, w.cell? (ad.add (i * 2)) = some (.int .i64 q.1) ∧ w.cell? (ad.add (i * 2 + 1)) = some (.int .i64 q.2) := by
      intro i hi
      obtain ⟨c0, c1, t0, t1⟩ := hc i (by omega)
      obtain ⟨x0, e0, _, _⟩ := DataW.trod_int (k := .i64) Tryz.underlying3 t0
      obtain ⟨x1, e1, _, _⟩ := DataW.trod_int (k := .i64) Tryz.underlying3 t1
      simp at e0 e1
      rw [e0] at c0
      rw [e1] at c1
      exact ⟨(x0, x1), c0, c1⟩
    obtain ⟨q, hq⟩ := choose_lt each
    refine ⟨(List.range len).map q, ⟨by simp, ?_⟩, hl, hm, fun h => by simp at h⟩
    by_cases h0 : len = 0
    · exact Or.inl h0
    · obtain ⟨b, off, spot⟩ := ad
      have hs : spot = none := by
        have h1 := (hq 0 (by omega)).1
        simpa [Addr.add] using World.cell?_spot h1
      subst hs
      refine Or.inr ⟨b, off, rfl, World.block_lt_of_cell? w _ (hq 0 (by omega)).1, fun i hi => ?_⟩
      have h1 := hq i hi
      rw [Addr.add_lit, Addr.add_lit, ← Nat.add_assoc] at h1
      have e : ((List.range len).map q).getD i (0, 0) = q i := by simp [List.getD, hi]
      rw [e]
      exact h1
end Go.Proofs.YtcgpgflnihjpiaeGreat

/- From an argument's reading to the commits that it holds. -/
namespace Go.Proofs.YtcgpgflnihjpiaeGreat
open Go.ChangeShapes Go.WideShapes Go.ChangeAt Go.RowKit Go.Deep

section
variable {H : Type} {enc : TypeId × Value → H} {w : World} {base : Nat} {spare : Nat → Bool} {held : Bool}

theorem open_rowsC {fuel : Nat} {cs : List Value} {x : DataW H × List MemPlace} (h : DataW.trod enc Tryz.prog w base spare held fuel 50 cs = some x) :
    ∃ a len cap l, cs = [.slice a len cap] ∧ Rd w a len l ∧ len ≤ 9223372036854775807 := by
  rcases open_slice_pairs Tryz.underlying50 Tryz.underlying88 (by kernel_rfl) rfl rfl (by kernel_rfl) (by kernel_rfl) h with ⟨rfl, rfl⟩ | ⟨ad, len, cap, m, n, V0, V1, D0, D1, P0, P1, rfl, _, hl, hm, hmm, rfl, hc⟩
  · obtain ⟨l, r1, r2⟩ := open_rows h
    exact ⟨none, 0, 0, l, rfl, r1, by omega⟩
  · obtain ⟨l, r1, r2⟩ := open_rows h
    exact ⟨some ad, len, cap, l, rfl, r1, by unfold maxLen at hm; omega⟩

theorem open_intsC {fuel : Nat} {cs : List Value} {x : DataW H × List MemPlace} (h : DataW.trod enc Tryz.prog w base spare held fuel 36 cs = some x) :
    ∃ a len cap l, cs = [.slice a len cap] ∧ Ri w a len l ∧ len ≤ 9223372036854775807 := by
  rcases open_slice1 Tryz.underlying36 (by kernel_rfl) h with ⟨rfl, rfl⟩ | ⟨ad, len, cap, m, n, V, D, Pl, rfl, _, hl, hm, hmm, rfl, hc⟩
  · exact ⟨none, 0, 0, [], rfl, ⟨rfl, Or.inl rfl⟩, by omega⟩
  · have hlm : len ≤ m := by rw [hmm]; split <;> omega
    have each : ∀ i, i < len → ∃ q : Int, w.cell? (ad.add i) = some (.int .i64 q) := by
      intro i hi
      obtain ⟨c0, t0⟩ := hc i (by omega)
      obtain ⟨x0, e0, _, _⟩ := DataW.trod_int (k := .i64) Tryz.underlying3 t0
      simp at e0
      rw [e0] at c0
      exact ⟨x0, c0⟩
    obtain ⟨q, hq⟩ := choose_lt each
    refine ⟨some ad, len, cap, (List.range len).map q, rfl, ⟨by simp, ?_⟩, by unfold maxLen at hm; omega⟩
    by_cases h0 : len = 0
    · exact Or.inl h0
    · obtain ⟨b, off, spot⟩ := ad
      have hs : spot = none := by
        have h1 := hq 0 (by omega)
        simpa [Addr.add] using World.cell?_spot h1
      subst hs
      refine Or.inr ⟨b, off, rfl, World.block_lt_of_cell? w _ (hq 0 (by omega)), fun i hi => ?_⟩
      have h1 := hq i hi
      rw [Addr.add_lit] at h1
      have e : ((List.range len).map q).getD i 0 = q i := by simp [List.getD, hi]
      rw [e]
      exact h1

theorem open_coms {fuel : Nat} {a : Option Addr} {len cap : Nat} {x : DataW H × List MemPlace} (h : DataW.trod enc Tryz.prog w base spare held fuel 22 [.slice a len cap] = some x) :
    ∃ L, Cm w a len L ∧ len ≤ cap ∧ cap ≤ maxLen := by
  rcases open_slice_pairs Tryz.underlying22 Tryz.underlying59 (by kernel_rfl) rfl rfl (by kernel_rfl) (by kernel_rfl) h with ⟨hcs, _⟩ | ⟨ad, len', cap', m, n, V0, V1, D0, D1, P0, P1, hcs, _, hl, hm, hmm, _, hc⟩
  · simp at hcs
    obtain ⟨rfl, rfl, rfl⟩ := hcs
    exact ⟨[], ⟨rfl, Or.inl rfl⟩, Nat.le_refl _, by simp [maxLen]⟩
  · simp at hcs
    obtain ⟨rfl, rfl, rfl⟩ := hcs
    have hlm : len ≤ m := by rw [hmm]; split <;> omega
    have each : ∀ i, i < len → ∃ q : ((Option Addr × Nat × Nat) × (Option Addr × Nat × Nat)) × M.Com, w.cell? (ad.add (i * 2)) = some (.slice q.1.1.1 q.1.1.2.1 q.1.1.2.2) ∧ w.cell? (ad.add (i * 2 + 1)) = some (.slice q.1.2.1 q.1.2.2.1 q.1.2.2.2) ∧ Rd w q.1.1.1 q.1.1.2.1 q.2.1 ∧ Ri w q.1.2.1 q.1.2.2.1 q.2.2 ∧ q.1.1.2.1 ≤ 9223372036854775807 ∧ q.1.2.2.1 ≤ 9223372036854775807 := by
      intro i hi
      obtain ⟨c0, c1, t0, t1⟩ := hc i (by omega)
      obtain ⟨a1, n1, k1, l1, e0, r1, m1⟩ := open_rowsC t0
      obtain ⟨a2, n2, k2, l2, e1, r2, m2⟩ := open_intsC t1
      simp at e0 e1
      rw [e0] at c0
      rw [e1] at c1
      exact ⟨(((a1, n1, k1), (a2, n2, k2)), (l1, l2)), c0, c1, r1, r2, m1, m2⟩
    obtain ⟨q, hq⟩ := choose_lt each
    refine ⟨(List.range len).map fun i => (q i).2, ⟨by simp, ?_⟩, hl, hm⟩
    by_cases h0 : len = 0
    · exact Or.inl h0
    · obtain ⟨b, off, spot⟩ := ad
      have hs : spot = none := by
        have h1 := (hq 0 (by omega)).1
        simpa [Addr.add] using World.cell?_spot h1
      subst hs
      refine Or.inr ⟨b, off, rfl, World.block_lt_of_cell? w _ (hq 0 (by omega)).1, fun i hi => ?_⟩
      have h1 := hq i hi
      rw [Addr.add_lit, Addr.add_lit, ← Nat.add_assoc] at h1
      have e : ((List.range len).map fun i => (q i).2).getD i ([], []) = (q i).2 := by simp [List.getD, hi]
      rw [e]
      exact ⟨_, _, _, _, _, _, h1⟩
end
end Go.Proofs.YtcgpgflnihjpiaeGreat

/- From an argument's reading to the repo that it holds. -/
namespace Go.Proofs.YtcgpgflnihjpiaeGreat
open Go.ChangeShapes Go.WideShapes Go.ChangeAt Go.RowKit Go.Deep

section
variable {H : Type} {enc : TypeId × Value → H} {w : World} {base : Nat} {spare : Nat → Bool} {held : Bool}

theorem open_comsC {fuel : Nat} {v : Value} {x : DataW H × List MemPlace} (h : DataW.trod enc Tryz.prog w base spare held fuel 22 [v] = some x) :
    ∃ a len cap L, v = .slice a len cap ∧ Cm w a len L ∧ len ≤ cap ∧ cap ≤ maxLen := by
  rcases open_slice_pairs Tryz.underlying22 Tryz.underlying59 (by kernel_rfl) rfl rfl (by kernel_rfl) (by kernel_rfl) h with ⟨hcs, _⟩ | ⟨ad, len', cap', m, n, V0, V1, D0, D1, P0, P1, hcs, _⟩
  · simp at hcs
    subst hcs
    obtain ⟨L, r⟩ := open_coms h
    exact ⟨none, 0, 0, L, rfl, r⟩
  · simp at hcs
    subst hcs
    obtain ⟨L, r⟩ := open_coms h
    exact ⟨some ad, len', cap', L, rfl, r⟩

theorem open_headsC {fuel : Nat} {v : Value} {x : DataW H × List MemPlace} (h : DataW.trod enc Tryz.prog w base spare held fuel 23 [v] = some x) :
    ∃ a len cap L, v = .slice a len cap ∧ Hs w a len L ∧ len ≤ cap ∧ cap ≤ maxLen ∧ (a = none → len = 0 ∧ cap = 0) := by
  rcases open_slice_pairs Tryz.underlying23 Tryz.underlying66 (by kernel_rfl) rfl rfl (by kernel_rfl) (by kernel_rfl) h with ⟨hcs, _⟩ | ⟨ad, len, cap, m, n, V0, V1, D0, D1, P0, P1, hcs, _, hl, hm, hmm, _, hc⟩
  · simp at hcs
    subst hcs
    exact ⟨none, 0, 0, [], rfl, ⟨rfl, Or.inl rfl⟩, Nat.le_refl _, by simp [maxLen], fun _ => ⟨rfl, rfl⟩⟩
  · simp at hcs
    subst hcs
    have hlm : len ≤ m := by rw [hmm]; split <;> omega
    have each : ∀ i, i < len → ∃ q : M.Hd, w.cell? (ad.add (i * 2)) = some (.string q.1) ∧ w.cell? (ad.add (i * 2 + 1)) = some (.int .i64 q.2) ∧ q.1.size ≤ 9223372036854775807 := by
      intro i hi
      obtain ⟨c0, c1, t0, t1⟩ := hc i (by omega)
      obtain ⟨s0, e0, _, z0⟩ := DataW.trod_string Tryz.underlying9 t0
      obtain ⟨x1, e1, _, _⟩ := DataW.trod_int (k := .i64) Tryz.underlying3 t1
      simp at e0 e1
      rw [e0] at c0
      rw [e1] at c1
      exact ⟨(s0, x1), c0, c1, by unfold maxLen at z0; exact z0⟩
    obtain ⟨q, hq⟩ := choose_lt each
    refine ⟨some ad, len, cap, (List.range len).map q, rfl, ⟨by simp, ?_⟩, hl, hm, fun h => by simp at h⟩
    by_cases h0 : len = 0
    · exact Or.inl h0
    · obtain ⟨b, off, spot⟩ := ad
      have hs : spot = none := by
        have h1 := (hq 0 (by omega)).1
        simpa [Addr.add] using World.cell?_spot h1
      subst hs
      refine Or.inr ⟨b, off, rfl, World.block_lt_of_cell? w _ (hq 0 (by omega)).1, fun i hi => ?_⟩
      have h1 := hq i hi
      rw [Addr.add_lit, Addr.add_lit, ← Nat.add_assoc] at h1
      have e : ((List.range len).map q).getD i M.hd0 = q i := by simp [List.getD, hi]
      rw [e]
      exact h1

set_option maxRecDepth 100000 in
theorem open_repo {r : Reach} {b0 : Nat} {v : Value} {d : DataW H} {p : List MemPlace} (hv : Value.okWide Tryz.prog w r b0 25 v) (h : DataW.Trod enc Tryz.prog w base spare held 25 v d p) :
    ∃ a n cap a2 n2 cap2 C L, v = .agg #[.slice a n cap, .slice a2 n2 cap2] ∧ Cm w a n C ∧ n ≤ 9223372036854775807 ∧ Hs w a2 n2 L ∧ n2 ≤ 9223372036854775807 := by
  obtain ⟨v0, v1, y0, y1, m, rfl, _, _, h0, h1⟩ := Joins.open_agg2 Tryz.underlying25 (by kernel_rfl) (by kernel_rfl) hv h
  obtain ⟨a, n, cap, C, rfl, c1, c2, c3⟩ := open_comsC h0
  obtain ⟨a2, n2, cap2, L, rfl, l1, l2, l3, _⟩ := open_headsC h1
  exact ⟨a, n, cap, a2, n2, cap2, C, L, rfl, c1, by unfold maxLen at c3; omega, l1, by unfold maxLen at l3; omega⟩
end
end Go.Proofs.YtcgpgflnihjpiaeGreat

/- From an argument's reading to the repo that it holds, its nil slices too. -/
namespace Go.Proofs.YtcgpgflnihjpiaeGreat
open Go.ChangeShapes Go.WideShapes Go.ChangeAt Go.RowKit Go.Deep

section
variable {H : Type} {enc : TypeId × Value → H} {w : World} {base : Nat} {spare : Nat → Bool} {held : Bool}

theorem open_rowsN {fuel : Nat} {cs : List Value} {x : DataW H × List MemPlace} (h : DataW.trod enc Tryz.prog w base spare held fuel 50 cs = some x) :
    ∃ a len cap, cs = [.slice a len cap] ∧ (a = none → len = 0 ∧ cap = 0) := by
  rcases open_slice_pairs Tryz.underlying50 Tryz.underlying88 (by kernel_rfl) rfl rfl (by kernel_rfl) (by kernel_rfl) h with ⟨rfl, rfl⟩ | ⟨ad, len, cap, m, n, V0, V1, D0, D1, P0, P1, rfl, _⟩
  · exact ⟨none, 0, 0, rfl, fun _ => ⟨rfl, rfl⟩⟩
  · exact ⟨some ad, len, cap, rfl, fun h => by simp at h⟩
theorem open_intsN {fuel : Nat} {cs : List Value} {x : DataW H × List MemPlace} (h : DataW.trod enc Tryz.prog w base spare held fuel 36 cs = some x) :
    ∃ a len cap, cs = [.slice a len cap] ∧ (a = none → len = 0 ∧ cap = 0) := by
  rcases open_slice1 Tryz.underlying36 (by kernel_rfl) h with ⟨rfl, rfl⟩ | ⟨ad, len, cap, m, n, V, D, Pl, rfl, _⟩
  · exact ⟨none, 0, 0, rfl, fun _ => ⟨rfl, rfl⟩⟩
  · exact ⟨some ad, len, cap, rfl, fun h => by simp at h⟩
theorem open_cn {fuel : Nat} {a : Option Addr} {len cap : Nat} {x : DataW H × List MemPlace} (h : DataW.trod enc Tryz.prog w base spare held fuel 22 [.slice a len cap] = some x) : Cn w a len := by
  rcases open_slice_pairs Tryz.underlying22 Tryz.underlying59 (by kernel_rfl) rfl rfl (by kernel_rfl) (by kernel_rfl) h with ⟨hcs, _⟩ | ⟨ad, len', cap', m, n, V0, V1, D0, D1, P0, P1, hcs, _, hl, hm, hmm, _, hc⟩
  · simp at hcs
    obtain ⟨rfl, rfl, rfl⟩ := hcs
    intro b off e
    simp at e
  · simp at hcs
    obtain ⟨rfl, rfl, rfl⟩ := hcs
    have hlm : len ≤ m := by rw [hmm]; split <;> omega
    intro b off e i hi y k c hor hy
    obtain rfl : ad = ⟨b, off, none⟩ := by simpa using e
    obtain ⟨c0, c1, t0, t1⟩ := hc i (by omega)
    obtain ⟨a1, n1, k1, e0, z0⟩ := open_rowsN t0
    obtain ⟨a2, n2, k2, e1, z1⟩ := open_intsN t1
    simp at e0 e1
    rw [e0, Addr.add_lit] at c0
    rw [e1, Addr.add_lit, ← Nat.add_assoc] at c1
    rcases hor with hcc | hcc
    · rw [hcc] at c0
      simp at c0
      obtain ⟨rfl, rfl, rfl⟩ := c0
      exact z0 hy
    · rw [hcc] at c1
      simp at c1
      obtain ⟨rfl, rfl, rfl⟩ := c1
      exact z1 hy
set_option maxRecDepth 100000 in
theorem open_repoV {r : Reach} {b0 : Nat} {v : Value} {d : DataW H} {p : List MemPlace} (hv : Value.okWide Tryz.prog w r b0 25 v) (h : DataW.Trod enc Tryz.prog w base spare held 25 v d p) :
    ∃ a n cap a2 n2 cap2 C L, v = .agg #[.slice a n cap, .slice a2 n2 cap2] ∧ RepoV w a n cap C a2 n2 cap2 L ∧ n2 ≤ cap2 ∧ cap2 ≤ maxLen := by
  obtain ⟨v0, v1, y0, y1, m, rfl, _, _, h0, h1⟩ := Joins.open_agg2 Tryz.underlying25 (by kernel_rfl) (by kernel_rfl) hv h
  obtain ⟨a, n, cap, C, rfl, c1, c2, c3⟩ := open_comsC h0
  obtain ⟨a2, n2, cap2, L, rfl, l1, l2, l3, l4⟩ := open_headsC h1
  exact ⟨a, n, cap, a2, n2, cap2, C, L, rfl, ⟨c1, open_cn h0, by unfold maxLen at c3; omega, l1, by unfold maxLen at l3; omega, l4⟩, l2, l3⟩
end
end Go.Proofs.YtcgpgflnihjpiaeGreat

/- From an argument's reading to the changes that it holds. -/
namespace Go.Proofs.YtcgpgflnihjpiaeGreat
open Go.ChangeShapes Go.WideShapes Go.ChangeAt Go.RowKit Go.Deep

theorem list3 {α : Type} (l : List α) (h : l.length = 3) : ∃ a b c, l = [a, b, c] := by
  match l, h with
  | [a, b, c], _ => exact ⟨a, b, c, rfl⟩
set_option maxRecDepth 10000 in
theorem open_changes {H : Type} {enc : TypeId × Value → H} {w : World} {base : Nat} {spare : Nat → Bool} {held : Bool} {fuel : Nat} {a : Option Addr} {len cap : Nat} {x : DataW H × List MemPlace}
    (h : DataW.trod enc Tryz.prog w base spare held fuel 26 [.slice a len cap] = some x) : ∃ l, Rc w a len l ∧ len ≤ cap ∧ cap ≤ maxLen := by
  rcases open_slice Tryz.underlying26 h with ⟨hcs, _⟩ | ⟨ad, len', cap', m, n, D, Pl, hcs, hb, hl, hm, hmm, _, hx⟩
  · simp at hcs
    obtain ⟨rfl, rfl, rfl⟩ := hcs
    exact ⟨[], ⟨rfl, Or.inl rfl⟩, Nat.le_refl _, by simp [maxLen]⟩
  · simp at hcs
    obtain ⟨rfl, rfl, rfl⟩ := hcs
    have hlm : len ≤ m := by rw [hmm]; split <;> omega
    have ce : Tryz.prog.cellsOf 64 = 3 := by kernel_rfl
    have each : ∀ i, i < len → ∃ q : M.Chg, w.cell? (ad.add (i * 3)) = some (.int .i64 q.1) ∧ w.cell? (ad.add (i * 3 + 1)) = some (.int .i64 q.2.1) ∧ w.cell? (ad.add (i * 3 + 2)) = some (.int .i64 q.2.2) := by
      intro i hi
      obtain ⟨cs', h1, h2⟩ := hx i (by omega)
      rw [ce] at h1
      obtain ⟨_, hlen, hcell⟩ := World.cells?_some h1
      obtain ⟨xs, k, hk, hxy, _, hxl, hf⟩ := DataW.trod_struct Tryz.underlying64 h2
      obtain ⟨v0, v1, v2, rfl⟩ := list3 cs' hlen
      obtain ⟨z0, z1, z2, rfl⟩ := list3 xs hxl
      have g0 := hf 0 _ rfl
      have g1 := hf 1 _ rfl
      have g2 := hf 2 _ rfl
      have c1 : Tryz.prog.cellsOf 3 = 1 := by kernel_rfl
      simp [c1] at g0 g1 g2
      obtain ⟨y0, g0⟩ : ∃ y, DataW.trod enc Tryz.prog w base spare held k 3 [v0] = some y := ⟨_, g0⟩
      obtain ⟨y1, g1⟩ : ∃ y, DataW.trod enc Tryz.prog w base spare held k 3 [v1] = some y := ⟨_, g1⟩
      obtain ⟨y2, g2⟩ : ∃ y, DataW.trod enc Tryz.prog w base spare held k 3 [v2] = some y := ⟨_, g2⟩
      obtain ⟨x0, e0, _, _⟩ := DataW.trod_int (k := .i64) Tryz.underlying3 g0
      obtain ⟨x1, e1, _, _⟩ := DataW.trod_int (k := .i64) Tryz.underlying3 g1
      obtain ⟨x2, e2, _, _⟩ := DataW.trod_int (k := .i64) Tryz.underlying3 g2
      simp at e0 e1 e2
      have q0 := hcell 0 (by omega)
      have q1 := hcell 1 (by omega)
      have q2 := hcell 2 (by omega)
      rw [add_add] at q0 q1 q2
      subst e0 e1 e2
      exact ⟨(x0, x1, x2), by simpa using q0, by simpa using q1, by simpa using q2⟩
    obtain ⟨q, hq⟩ := choose_lt each
    refine ⟨(List.range len).map q, ⟨by simp, ?_⟩, hl, hm⟩
    by_cases h0 : len = 0
    · exact Or.inl h0
    · obtain ⟨b, off, spot⟩ := ad
      have hs : spot = none := by
        have h1 := (hq 0 (by omega)).1
        simpa [Addr.add] using World.cell?_spot h1
      subst hs
      refine Or.inr ⟨b, off, rfl, World.block_lt_of_cell? w _ (hq 0 (by omega)).1, fun i hi => ?_⟩
      have h1 := hq i hi
      rw [Addr.add_lit, Addr.add_lit, Addr.add_lit, ← Nat.add_assoc, ← Nat.add_assoc] at h1
      have e : ((List.range len).map q).getD i (0, 0, 0) = q i := by simp [List.getD, hi]
      rw [e]
      exact h1
end Go.Proofs.YtcgpgflnihjpiaeGreat

/- For every repo, every name and every list of changes, the law WorkPuts returns true and leaves its arguments as they were: work.Put answers what the reference answers. No condition. -/
namespace Go.Proofs.YtcgpgflnihjpiaeGreat
open Go.ChangeShapes Go.WideShapes Go.ChangeAt Go.RowKit

set_option maxRecDepth 100000 in
set_option maxHeartbeats 16000000 in
theorem workPuts_walk (a : Option Addr) (n cap : Nat) (C : List M.Com) (a2 : Option Addr) (n2 cap2 : Nat) (H : List M.Hd) (s : ByteArray) (a3 : Option Addr) (m3 cap3 : Nat) (d : List M.Chg) (w : World) (hV : RepoV w a n cap C a2 n2 cap2 H) (hrc : Rc w a3 m3 d) (hm3 : m3 ≤ 9223372036854775807) :
    Calls Tryz.prog 3 #[.agg #[.slice a n cap, .slice a2 n2 cap2], .string s, .slice a3 m3 cap3] w fun e w' => e = .returned (.bool true) ∧ Below w.heap.size w w' := by
  obtain ⟨p, hp⟩ : ∃ p, p = w.heap.size := ⟨_, rfl⟩
  obtain ⟨W, hW⟩ : ∃ W, W = w.alloc (.cells #[.slice a n cap, .slice a2 n2 cap2] 25) := ⟨_, rfl⟩
  have hb : Below w.heap.size w W := by rw [hW]; exact (Below.refl _ _).alloc (Nat.le_refl _) _
  have HB : Hid (KBox W p a n cap C a2 n2 cap2 H) := by rw [hW, hp]; exact KBox.new hV
  have HW : Hid (W = w.alloc (.cells #[.slice a n cap, .slice a2 n2 cap2] 25)) := hW
  have HP : Aside (p = w.heap.size) := hp
  obtain ⟨E, hE⟩ : ∃ E, E = M.wpE C H s d := ⟨_, rfl⟩
  have F1 : Hid (∀ V, Below W.heap.size W V → Calls Tryz.prog 6 #[.agg #[.slice a n cap, .slice a2 n2 cap2], .string s, .slice a3 m3 cap3] V fun e w' => ∃ v, e = .returned (.tuple #[v, .int .i64 E]) ∧ RepoOwn w' V.heap.size v (M.wpC C H s d) (M.wpH C H s d) ∧ Below V.heap.size V w') := fun V hB => by rw [hE]; exact wput_any a n cap C a2 n2 cap2 H s a3 m3 cap3 d V (HB.out.v.later hB) ((hrc.below hb (Nat.le_refl _)).below hB (Nat.le_refl _)) hm3
  have F2 : Hid (∀ V, Below W.heap.size W V → Calls Tryz.prog 7 #[.agg #[.slice a n cap, .slice a2 n2 cap2], .string s, .slice a3 m3 cap3] V fun e w' => ∃ v, e = .returned (.tuple #[v, .int .i64 E]) ∧ RepoOwn w' V.heap.size v (M.wpC C H s d) (M.wpH C H s d) ∧ Below V.heap.size V w') := fun V hB => by rw [hE]; exact putTo_any a n cap C a2 n2 cap2 H s a3 m3 cap3 d V (HB.out.v.later hB) ((hrc.below hb (Nat.le_refl _)).below hB (Nat.le_refl _)) hm3
  have b0 : Below W.heap.size W W := Below.refl _ _
  have c0 := HB.out.c0
  have c1 := HB.out.c1
  clear hW hp hV hrc hE
  go_enter Tryz.func3, Tryz.ntmps3
  go_wp2_with fail
  rw [← HW.out, ← HP.out]
  refine (F1.out _ b0).mono ?_
  rintro e v1 ⟨r1, rfl, o1, bb1⟩
  obtain ⟨xa1, xc1, ya1, yc1, rfl, V1⟩ := o1.v
  obtain ⟨ln1, hln1⟩ : ∃ ln, ln = (M.wpC C H s d).length := ⟨_, rfl⟩
  obtain ⟨lh1, hlh1⟩ : ∃ lh, lh = (M.wpH C H s d).length := ⟨_, rfl⟩
  rw [← hln1, ← hlh1] at V1 ⊢
  obtain ⟨X1, hX1⟩ : ∃ X, X = v1.alloc (.cells #[.slice xa1 ln1 xc1, .slice ya1 lh1 yc1] 25) := ⟨_, rfl⟩
  obtain ⟨p1, hp1⟩ : ∃ p, p = v1.heap.size := ⟨_, rfl⟩
  have bX1 : Below v1.heap.size v1 X1 := by rw [hX1]; exact (Below.refl _ _).alloc (Nat.le_refl _) _
  have HB1 : Hid (KBox X1 p1 xa1 ln1 xc1 (M.wpC C H s d) ya1 lh1 yc1 (M.wpH C H s d)) := by rw [hX1, hp1]; exact KBox.new V1
  have HX1 : Hid (X1 = v1.alloc (.cells #[.slice xa1 ln1 xc1, .slice ya1 lh1 yc1] 25)) := hX1
  have HP1 : Aside (p1 = v1.heap.size) := hp1
  have q1 : Below W.heap.size W X1 := dbelow2 bb1 bX1
  have b1 : Below W.heap.size W X1 := dbelow2 b0 q1
  have dq0 := (HB.out.later b1).c0
  have dq1 := (HB.out.later b1).c1
  rw [hX1] at dq0 dq1
  have HLn1 : Aside (ln1 = (M.wpC C H s d).length) := hln1
  have HLh1 : Aside (lh1 = (M.wpH C H s d).length) := hlh1
  clear hln1 hlh1
  clear c0 c1 o1 V1 hX1 hp1 bX1 bb1 q1
  have c0 := dq0
  have c1 := dq1
  clear dq0 dq1
  go_wp2_with fail
  rw [← HX1.out, ← HP1.out]
  clear c0 c1
  have c0 := (HB.out.later b1).c0
  have c1 := (HB.out.later b1).c1
  refine (F2.out _ b1).mono ?_
  rintro e v2 ⟨r2, rfl, o2, bb2⟩
  obtain ⟨xa2, xc2, ya2, yc2, rfl, V2⟩ := o2.v
  obtain ⟨ln2, hln2⟩ : ∃ ln, ln = (M.wpC C H s d).length := ⟨_, rfl⟩
  obtain ⟨lh2, hlh2⟩ : ∃ lh, lh = (M.wpH C H s d).length := ⟨_, rfl⟩
  rw [← hln2, ← hlh2] at V2 ⊢
  obtain ⟨X2, hX2⟩ : ∃ X, X = v2.alloc (.cells #[.slice xa2 ln2 xc2, .slice ya2 lh2 yc2] 25) := ⟨_, rfl⟩
  obtain ⟨p2, hp2⟩ : ∃ p, p = v2.heap.size := ⟨_, rfl⟩
  have bX2 : Below v2.heap.size v2 X2 := by rw [hX2]; exact (Below.refl _ _).alloc (Nat.le_refl _) _
  have HB2 : Hid (KBox X2 p2 xa2 ln2 xc2 (M.wpC C H s d) ya2 lh2 yc2 (M.wpH C H s d)) := by rw [hX2, hp2]; exact KBox.new V2
  have HX2 : Hid (X2 = v2.alloc (.cells #[.slice xa2 ln2 xc2, .slice ya2 lh2 yc2] 25)) := hX2
  have HP2 : Aside (p2 = v2.heap.size) := hp2
  have q2 : Below X1.heap.size X1 X2 := dbelow2 bb2 bX2
  have b2 : Below W.heap.size W X2 := dbelow2 b1 q2
  have HB1 := HB1.out.later q2
  have HB1 : Hid (KBox X2 p1 _ _ _ _ _ _ _ _) := HB1
  have dq0 := (HB.out.later b2).c0
  have dq1 := (HB.out.later b2).c1
  rw [hX2] at dq0 dq1
  have HLn2 : Aside (ln2 = (M.wpC C H s d).length) := hln2
  have HLh2 : Aside (lh2 = (M.wpH C H s d).length) := hlh2
  clear hln2 hlh2
  clear c0 c1 o2 V2 hX2 hp2 bX2 bb2 q2
  have c0 := dq0
  have c1 := dq1
  clear dq0 dq1
  go_wp2_with fail
  rw [← HX2.out, ← HP2.out]
  clear c0 c1
  have c0 := (HB.out.later b2).c0
  have c1 := (HB.out.later b2).c1
  obtain rfl : ln1 = ln2 := HLn1.out.trans HLn2.out.symm
  obtain rfl : lh1 = lh2 := HLh1.out.trans HLh2.out.symm
  refine (wbegun_any _).mono ?_
  rintro e Y1 ⟨rfl, y1⟩
  have z1 := HB1.out.later y1
  have z2 := HB2.out.later y1
  have g0 := z1.c0
  have g1 := z1.c1
  have h0 := z2.c0
  have h1 := z2.c1
  have KS : Hid (Calls Tryz.prog 9 #[.agg #[.slice xa1 ln1 xc1, .slice ya1 lh1 yc1], .agg #[.slice xa2 ln1 xc2, .slice ya2 lh1 yc2]] Y1 fun e w' => e = .returned (.bool true) ∧ Below Y1.heap.size Y1 w') := srepos_yes xa1 xa2 ln1 xc1 xc2 _ ya1 ya2 lh1 yc1 yc2 _ Y1 z1.v.cm z2.v.cm z1.v.nm z1.v.hs z2.v.hs z1.v.hm
  have bY := dbelow2 b2 y1
  clear z1 z2 c0 c1 y1
  go_wp2_with fail
  refine KS.out.mono ?_
  rintro e Y2 ⟨rfl, y2⟩
  have bZ : Below w.heap.size w Y2 := hb.trans ((dbelow2 bY y2).mono hb.size)
  clear g0 g1 h0 h1 KS y2 bY
  go_wp2
  go_ret
  exact ⟨rfl, bZ⟩
set_option maxRecDepth 100000 in
theorem workPuts_lifted (os : Os) (started : os.Started) (H : Type) (enc : TypeId × Value → H) :
    ReturnsInHanded {} Tryz.checked os 3 .any (Rows.workPutsSpec.pre6 enc Tryz.prog Tryz.f3 Rows.workPutsRow.domain false) (Rows.workPutsSpec.post enc Tryz.prog Tryz.f3 false true false false) := by
  refine returnsInHanded_of_change (C := Tryz.checked) ownTry started (by kernel_rfl) Tryz.func3
    (ChangeSpec.witness6 (enc := enc) (C := Tryz.checked) false ⟨#[], #[.agg #[.slice none 0 0, .slice none 0 0], .string ⟨#[]⟩, .slice none 0 0], []⟩ 8 (by kernel_rfl) (by kernel_rfl) (by kernel_rfl) (by kernel_rfl)) ?_
  intro W base args ds gs before hval0 hW hcnd _
  have hval : ∀ (j : Nat) t v, Tryz.f3.params[j]? = some t → args[j]? = some v → Value.okWide Tryz.prog W .any base t v := hval0
  have hW' := hW
  obtain ⟨p, q, hA0, hV, rfl, hfz, hnd⟩ := hW
  have hA : DataW.TrodAll enc Tryz.prog W 0 (fun _ => true) true Tryz.f3.params.toList args.toList ds p := hA0
  rw [Tryz.params3] at hA hval
  obtain ⟨v0, vs0, d0, ds0, p0, q0, hargs, rfl, rfl, h0, r0⟩ := trodAll_cons hA
  obtain ⟨v1, vs1, d1, ds1, p1, q1, rfl, rfl, rfl, h1, r1⟩ := trodAll_cons r0
  obtain ⟨v2, vs2, d2, ds2, p2, q2, rfl, rfl, rfl, h2, r2⟩ := trodAll_cons r1
  obtain ⟨rfl, rfl, rfl⟩ := trodAll_nil r2
  obtain rfl : args = #[v0, v1, v2] := by cases args; simp_all
  obtain ⟨rfl, rfl⟩ := trodVars_none hV
  have k0 := h0
  have lt0 : ∀ x ∈ p0, x.block < W.heap.size := by obtain ⟨m, hm⟩ := k0; exact DataW.trod_lt m _ _ _ hm
  obtain ⟨a0, n0, cap0, b0, m0, bap0, C0, L0, rfl, hv0, hcp0, hcm0⟩ := open_repoV (hval 0 25 v0 rfl rfl) h0
  obtain ⟨s1, rfl, rfl, rfl, hs1⟩ := Go.ChangeMaps.open_string Tryz.underlying9 (hval 1 9 v1 rfl rfl) h1
  obtain ⟨a2, len2, cap2, rfl⟩ := okWide_slice Tryz.underlying26 (hval 2 26 v2 rfl rfl)
  have k2 := h2
  have lt2 : ∀ x ∈ p2, x.block < W.heap.size := by obtain ⟨m, hm⟩ := k2; exact DataW.trod_lt m _ _ _ hm
  obtain ⟨L2, hrd2, hl2, hm2⟩ : ∃ L, Rc W a2 len2 L ∧ len2 ≤ cap2 ∧ cap2 ≤ maxLen := by
    obtain ⟨fuel, hf⟩ := h2
    exact open_changes (by simpa [Value.cells] using hf)
  clear hA0 hval0
  refine (workPuts_walk a0 n0 cap0 C0 b0 m0 bap0 L0 s1 a2 len2 cap2 L2 W hv0 hrd2 (by unfold maxLen at hm2; omega)).mono fun e W' ⟨he, bel⟩ => ?_
  subst he
  exact ⟨_, rfl, _, _, _, [], _, [], hW', trodAll_mk1 (shut_bool Tryz.underlying4 _), (trodAll_cons_mk (Below.trod laidTry (by kernel_rfl) (of_decide_eq_true (by kernel_rfl)) k0 bel lt0) (trodAll_cons_mk (Go.ChangeMaps.shut_string Tryz.underlying9 hs1) (trodAll_cons_mk (Below.trod laidTry (by kernel_rfl) (of_decide_eq_true (by kernel_rfl)) k2 bel lt2) trodAll_mk0))), rfl, bel.frame _, fun h => by cases h⟩

theorem workPuts_holds : Rows.WorkPutsSaid :=
  OpenClaim.holds_of_wide 3 Tryz.f3 rfl rfl rfl rfl rfl rfl rfl ⟨rfl, rfl, rfl, rfl, rfl⟩ rfl rfl rfl rfl rfl (by kernel_rfl) Tryz.func3 (by kernel_rfl)
    (of_decide_eq_true (by kernel_rfl)) (by unfold Func.isWrapper; first | (rw [if_pos (by decide +kernel)]; kernel_rfl) | (rw [if_neg (by decide +kernel)]; exact ⟨rfl, rfl⟩))
    (fun os started H enc _ => workPuts_lifted os started H enc)
#print axioms workPuts_holds
end Go.Proofs.YtcgpgflnihjpiaeGreat
