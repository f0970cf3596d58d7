/- RJoin. -/
import Derived.Test.YtcgpgflnihjpiagGreatBRestRepos12
import Derived.Test.YtcgpgflnihjpiagGreatBRestRepos13
import Derived.Test.YtcgpgflnihjpiagGreatBRestRepos09
import Derived.Test.YtcgpgflnihjpiagGreatBRestRepos11
import Derived.Test.YtcgpgflnihjpiagGreatBRestRepos01
namespace Go.Proofs.YtcgpgflnihjpiagGreat
open Go.RowKit Go.Shelf Go.Maps
theorem M.join_one {C : List M.Com} {H : List M.Hd} {s t : ByteArray} (h : M.hchk C H s ≠ 0) : M.joinE C H s t = M.hchk C H s ∧ M.joinK C H s t = [] := by
  have e : M.openE C H [s, t] = M.hchk C H s := by simp [M.openE, h]
  unfold M.joinE M.joinK
  rw [e, if_pos h, if_pos h]
  exact ⟨rfl, rfl⟩
theorem M.join_other {C : List M.Com} {H : List M.Hd} {s t : ByteArray} (h1 : M.hchk C H s = 0) (h : M.hchk C H t ≠ 0) : M.joinE C H s t = M.hchk C H t ∧ M.joinK C H s t = [] := by
  have e : M.openE C H [s, t] = M.hchk C H t := by simp [M.openE, h1, h]
  unfold M.joinE M.joinK
  rw [e, if_pos h, if_pos h]
  exact ⟨rfl, rfl⟩
theorem M.join_both {C : List M.Com} {H : List M.Hd} {s t : ByteArray} {x y : Nat} (h1 : M.hchk C H s = 0) (h2 : M.hchk C H t = 0) (hx : M.hat C H s = (x : Int)) (hy : M.hat C H t = (y : Int)) : M.joinE C H s t = M.joinAt C x y ∧ M.joinK C H s t = M.keysAt C x y := by
  have e : M.openE C H [s, t] = 0 := by simp [M.openE, h1, h2]
  exact M.joinE_at e hx hy
theorem M.bases_in (C : List M.Com) (x n : Nat) : (∀ v ∈ M.bases C x n, 0 ≤ v ∧ v < (C.length : Int)) ∧ (M.bases C x n).length ≤ C.length := by
  refine ⟨fun v hv => ?_, M.sel_len _ _⟩
  unfold M.bases at hv
  obtain ⟨k, hk, _, rfl⟩ := (M.mem_sel _ _ _).1 hv
  omega
set_option maxRecDepth 100000 in
set_option maxHeartbeats 16000000 in
theorem joinOf_any (a : Option Addr) (n cap : Nat) (C : List M.Com) (a2 : Option Addr) (n2 cap2 : Nat) (H : List M.Hd) (s t : ByteArray) (w : World) (hV : RepoV w a n cap C a2 n2 cap2 H) :
    Calls Tryz.prog 52 #[.agg #[.slice a n cap, .slice a2 n2 cap2], .string s, .string t] w fun e w' => ∃ v kb kn kc, e = .returned (.tuple #[v, .slice kb kn kc, .int .i64 (M.joinE C H s t)]) ∧ RepoOwn w' w.heap.size v (M.joinC C H s t) (M.joinH C H s t) ∧ Ri w' kb kn (M.joinK C H s t) ∧ kn ≤ kc ∧ kc ≤ maxLen ∧ Below w.heap.size w w' := by
  obtain ⟨p, hp⟩ : ∃ p, p = w.heap.size := ⟨_, rfl⟩
  obtain ⟨R, hR⟩ : ∃ R, R = p + 1 := ⟨_, rfl⟩
  have I0 := InBox.new w a n cap C a2 n2 cap2 H hV.cm hV.hs
  obtain ⟨W, hW⟩ : ∃ W, W = (w.alloc (.cells #[.slice a n cap, .slice a2 n2 cap2] 35)).alloc (.cells #[.slice none 0 0, .slice none 0 0] 35) := ⟨_, rfl⟩
  have hb0 : Below (w.alloc (.cells #[.slice a n cap, .slice a2 n2 cap2] 35)).heap.size (w.alloc (.cells #[.slice a n cap, .slice a2 n2 cap2] 35)) W := by rw [hW]; exact (Below.refl _ _).alloc (Nat.le_refl _) _
  have I1 := I0.below hb0
  rw [← hp] at I1
  have hb : Below w.heap.size w W := by rw [hW]; exact ((Below.refl _ _).alloc (Nat.le_refl _) _).alloc (by simp) _
  have hsz : W.heap.size = R + 1 := by rw [hW, hR, hp]; simp
  have q2 : W.heap[R]? = some (.cells #[.slice none 0 0, .slice none 0 0] 35 (0, 0)) := by
    rw [hW, show R = (w.alloc (.cells #[.slice a n cap, .slice a2 n2 cap2] 35)).heap.size by rw [hR, hp]; simp]
    exact heap_alloc_new _ _
  have HI : Hid (InBox W p a n cap C a2 n2 cap2 H) := I1
  have HVW : Hid (RepoV W a n cap C a2 n2 cap2 H) := hV.later hb
  have c0 := I1.c0
  have c1 := I1.c1
  obtain ⟨z, hz⟩ : ∃ z, z = M.hchk C H s := ⟨_, rfl⟩
  obtain ⟨x, hx⟩ : ∃ x, x = M.hat C H s := ⟨_, rfl⟩
  have K0 := headOf_any a n cap C a2 n2 cap2 H s W I1.cm hV.nm I1.hs hV.hm
  rw [← hz, ← hx] at K0
  have KH : Hid (Calls Tryz.prog 95 #[.agg #[.slice a n cap, .slice a2 n2 cap2], .string s] W fun e w' => e = .returned (.tuple #[.int .i64 x, .int .i64 z]) ∧ Below W.heap.size W w') := K0
  have HZ : Aside (z = M.hchk C H s) := hz
  have HX : Aside (x = M.hat C H s) := hx
  have HNC : Aside (C.length = n) := hV.cm.1
  have hnm := hV.nm
  have HQ2 : Hid (W.heap[R]? = some (.cells #[.slice none 0 0, .slice none 0 0] 35 (0, 0))) := q2
  have HW : Hid (W = (w.alloc (.cells #[.slice a n cap, .slice a2 n2 cap2] 35)).alloc (.cells #[.slice none 0 0, .slice none 0 0] 35)) := hW
  have HP : Aside (p = w.heap.size) := hp
  have HR : Aside (R = p + 1) := hR
  have HPR : Aside (w.heap.size ≤ p) := by unfold Aside; omega
  have HSz : Aside (W.heap.size = R + 1) := hsz
  have hpR : p < R := by omega
  have HNH : Aside (H.length = n2) := hV.hs.1
  clear hW hp hR hV hb0 I0 I1 K0 hz hx q2 hsz
  go_enter Tryz.func52, Tryz.ntmps52
  go_wp2_with fail
  rw [← HW.out, ← HP.out, ← HR.out]
  go_wp2_with fail
  refine KH.out.mono ?_
  rintro e w1 ⟨rfl, b1⟩
  have hb1 : Below w.heap.size w w1 := hb.trans (b1.mono hb.size)
  have r1 : w1.heap[R]? = some (.cells #[.slice none 0 0, .slice none 0 0] 35 (0, 0)) := (b1.block R (by have := HSz.out; omega)).trans HQ2.out
  have bW1 := b1
  have J1 := HI.out.below b1
  have u1 := J1.c0
  have v1 := J1.c1
  by_cases hz0 : z = 0
  · subst hz0
    have HZ0 : Hid (M.hchk C H s = 0) := HZ.out.symm
    have hr0 := (M.hchk_zero HZ0.out).1
    have hd0 := (M.rchk_zero hr0).1
    obtain ⟨z2, hz2⟩ : ∃ z, z = M.hchk C H t := ⟨_, rfl⟩
    obtain ⟨y, hy⟩ : ∃ y, y = M.hat C H t := ⟨_, rfl⟩
    have K1 := headOf_any a n cap C a2 n2 cap2 H t w1 (HVW.out.later bW1).cm hnm (HVW.out.later bW1).hs (HVW.out.later bW1).hm
    rw [← hz2, ← hy] at K1
    have KH2 : Hid (Calls Tryz.prog 95 #[.agg #[.slice a n cap, .slice a2 n2 cap2], .string t] w1 fun e w' => e = .returned (.tuple #[.int .i64 y, .int .i64 z2]) ∧ Below w1.heap.size w1 w') := K1
    have HZ2 : Aside (z2 = M.hchk C H t) := hz2
    have HY : Aside (y = M.hat C H t) := hy
    clear K1 hz2 hy c0 c1 J1 KH
    go_wp2_with fail
    refine KH2.out.mono ?_
    rintro e w2 ⟨rfl, b2⟩
    have hb2 : Below w.heap.size w w2 := hb1.trans (b2.mono hb1.size)
    have r2 : w2.heap[R]? = some (.cells #[.slice none 0 0, .slice none 0 0] 35 (0, 0)) := (b2.block R (Array.getElem?_eq_some_iff.1 r1).1).trans r1
    have bW2 : Below W.heap.size W w2 := bW1.trans (b2.mono bW1.size)
    have J2 := HI.out.below bW2
    have u2 := J2.c0
    have v2 := J2.c1
    clear u1 v1 b2 KH2 r1
    by_cases hz20 : z2 = 0
    · subst hz20
      have HZ20 : Hid (M.hchk C H t = 0) := HZ2.out.symm
      have i1 := M.hat_in HZ0.out
      have i2 := M.hat_in HZ20.out
      rw [← HX.out, HNC.out] at i1
      rw [← HY.out, HNC.out] at i2
      obtain ⟨xn, rfl⟩ : ∃ xn : Nat, x = (xn : Int) := ⟨x.toNat, by omega⟩
      obtain ⟨yn, rfl⟩ : ∃ yn : Nat, y = (yn : Int) := ⟨y.toNat, by omega⟩
      have hxn : xn < n := by omega
      have hyn : yn < n := by omega
      have HJ : Hid (M.joinE C H s t = M.joinAt C xn yn ∧ M.joinK C H s t = M.keysAt C xn yn) := M.join_both HZ0.out HZ20.out HX.out.symm HY.out.symm
      have KA1 : Hid (Calls Tryz.prog 100 #[.slice a n cap, .int .i64 (xn : Int)] w2 fun e w' => e = .returned (.slice (some ⟨w2.heap.size, 0, none⟩) n n) ∧ Bo w' w2.heap.size (M.above C xn) ∧ Below w2.heap.size w2 w') := aboveOf_any a n cap C xn w2 J2.cm hd0 hxn
      have hxi : (xn : Int) < (n : Int) := by omega
      have hyi : (yn : Int) < (n : Int) := by omega
      clear i1 i2 J2
      go_wp2_with fail
      refine KA1.out.mono ?_
      rintro e w3 ⟨rfl, o3, b3⟩
      have hb3 : Below w.heap.size w w3 := hb2.trans (b3.mono hb2.size)
      have r3 : w3.heap[R]? = some (.cells #[.slice none 0 0, .slice none 0 0] 35 (0, 0)) := (b3.block R (Array.getElem?_eq_some_iff.1 r2).1).trans r2
      have bW3 : Below W.heap.size W w3 := bW2.trans (b3.mono bW2.size)
      have J3 := HI.out.below bW3
      have u3 := J3.c0
      have v3 := J3.c1
      obtain ⟨g1, hg1⟩ : ∃ g, g = (M.above C xn).getD yn false := ⟨_, rfl⟩
      have c3 : w3.cell? ⟨w2.heap.size, yn, none⟩ = some (.bool g1) := by rw [o3.cell (by rw [M.above_len, HNC.out]; exact hyn), ← hg1]
      have HG1 : Aside (g1 = (M.above C xn).getD yn false) := hg1
      clear u2 v2 b3 KA1 r2 hg1 o3 J3
      cases g1 with
      | true =>
        have E : Aside (M.joinE C H s t = 9) := by unfold Aside; rw [HJ.out.1]; unfold M.joinAt; rw [if_pos HG1.out.symm]
        have EC : Aside (M.joinC C H s t = [] ∧ M.joinH C H s t = [] ∧ M.joinK C H s t = []) := ⟨by unfold M.joinC; rw [if_pos (by rw [E.out]; decide)], by unfold M.joinH; rw [if_pos (by rw [E.out]; decide)], by rw [HJ.out.2]; unfold M.keysAt; rw [if_pos HG1.out.symm]⟩
        obtain ⟨g1, g2, g3⟩ := res_set r3 (.slice none 0 0) (.slice none 0 0)
        obtain ⟨X, hX⟩ : ∃ X, X = (w3.setCell ⟨R, 0, none⟩ (.slice none 0 0)).setCell ⟨R, 1, none⟩ (.slice none 0 0) := ⟨_, rfl⟩
        rw [← hX] at g1
        have bX : Below w.heap.size w X := by rw [hX]; exact (hb3.setCell (p := ⟨R, 0, none⟩) (by show _ ≤ R; have := HPR.out; omega) _).setCell (p := ⟨R, 1, none⟩) (by show _ ≤ R; have := HPR.out; omega) _
        have gX := g1
        have HX9 : Hid (X = (w3.setCell ⟨R, 0, none⟩ (.slice none 0 0)).setCell ⟨R, 1, none⟩ (.slice none 0 0)) := hX
        have HX0 : Aside (X.cell? ⟨R, 0, none⟩ = some (.slice none 0 0)) := by unfold Aside; rw [cell_of_row _ _ _ _ _ _ gX]; rfl
        have HX1 : Aside (X.cell? ⟨R, 1, none⟩ = some (.slice none 0 0)) := by unfold Aside; rw [cell_of_row _ _ _ _ _ _ gX]; rfl
        have x0 : w3.cell? ⟨R, 0, none⟩ = some (.slice none 0 0) := by rw [cell_of_row _ _ _ _ _ _ r3]; rfl
        have x1 : w3.cell? ⟨R, 1, none⟩ = some (.slice none 0 0) := by rw [cell_of_row _ _ _ _ _ _ r3]; rfl
        have f0 : w3.frozen? ⟨R, 0, none⟩ = false := frozen_of_row _ _ _ _ _ r3
        have f1 : w3.frozen? ⟨R, 1, none⟩ = false := frozen_of_row _ _ _ _ _ r3
        clear g1 g2 g3 hX gX r3 
        go_wp2
        rw [← HX9.out]
        have y0 := HX0.out
        have y1 := HX1.out
        refine bodyPost_ret (v := .tuple #[.agg #[.slice none 0 0, .slice none 0 0], .slice none 0 0, .int .i64 9]) (by simp [results, Tryz.results52, go_sem, y0, y1]) rfl ?_
        refine ⟨_, none, 0, 0, ret_three E.out.symm, ?_, ?_, Nat.le_refl _, by simp [maxLen], bX⟩
        · rw [EC.out.1, EC.out.2.1]; exact RepoOwn.none _ _
        · rw [EC.out.2.2]; exact ⟨rfl, Or.inl rfl⟩
      | false =>
        have hlp : 0 ≤ M.plc H s := (M.hchk_zero HZ0.out).2
        have hll := M.plc_lt H s
        obtain ⟨kk, hkk⟩ : ∃ kk : Nat, M.plc H s = (kk : Int) := ⟨(M.plc H s).toNat, by omega⟩
        have hkl : kk < H.length := by omega
        have HKK : Hid (M.plc H s = (kk : Int)) := hkk
        have KA : Hid (Calls Tryz.prog 99 #[.agg #[.slice a n cap, .slice a2 n2 cap2], .string s] w3 fun e w' => e = .returned (.int .i64 (kk : Int)) ∧ Below w3.heap.size w3 w') := by
          have q := HVW.out.later bW3
          have := headAt_any a n cap C a2 n2 cap2 H s w3 q.cm q.hs q.hm
          rw [hkk] at this
          exact this
        clear hkk hll hlp
        go_wp2_with fail
        refine KA.out.mono ?_
        rintro e w4 ⟨rfl, b4⟩
        have hb4 : Below w.heap.size w w4 := hb3.trans (b4.mono hb3.size)
        have r4 : w4.heap[R]? = some (.cells #[.slice none 0 0, .slice none 0 0] 35 (0, 0)) := (b4.block R (Array.getElem?_eq_some_iff.1 r3).1).trans r3
        have bW4 : Below W.heap.size W w4 := bW3.trans (b4.mono bW3.size)
        have J4 := HI.out.below bW4
        have u4 := J4.c0
        have v4 := J4.c1
        clear u3 v3 b4 KA r3 c3
        have KA2 : Hid (Calls Tryz.prog 100 #[.slice a n cap, .int .i64 (yn : Int)] w4 fun e w' => e = .returned (.slice (some ⟨w4.heap.size, 0, none⟩) n n) ∧ Bo w' w4.heap.size (M.above C yn) ∧ Below w4.heap.size w4 w') := aboveOf_any a n cap C yn w4 J4.cm hd0 hyn
        clear J4
        go_wp2_with fail
        refine KA2.out.mono ?_
        rintro e w5 ⟨rfl, o5, b5⟩
        have hb5 : Below w.heap.size w w5 := hb4.trans (b5.mono hb4.size)
        have r5 : w5.heap[R]? = some (.cells #[.slice none 0 0, .slice none 0 0] 35 (0, 0)) := (b5.block R (Array.getElem?_eq_some_iff.1 r4).1).trans r4
        have bW5 : Below W.heap.size W w5 := bW4.trans (b5.mono bW4.size)
        have J5 := HI.out.below bW5
        have u5 := J5.c0
        have v5 := J5.c1
        obtain ⟨g2, hg2⟩ : ∃ g, g = (M.above C yn).getD xn false := ⟨_, rfl⟩
        have c5 : w5.cell? ⟨w4.heap.size, xn, none⟩ = some (.bool g2) := by rw [o5.cell (by rw [M.above_len, HNC.out]; exact hxn), ← hg2]
        have HG2 : Aside (g2 = (M.above C yn).getD xn false) := hg2
        clear u4 v4 b5 KA2 r4 hg2 o5
        cases g2 with
        | true =>
          have E0 : Aside (M.joinE C H s t = 0) := by unfold Aside; rw [HJ.out.1]; unfold M.joinAt; rw [if_neg (by rw [← HG1.out]; simp), if_pos HG2.out.symm]
          have EC : Aside (M.joinC C H s t = C ∧ M.joinH C H s t = M.setH H kk (yn : Int) ∧ M.joinK C H s t = []) := by
            have hg : (M.above C (M.hat C H t).toNat).getD (M.hat C H s).toNat false = true := by rw [← HX.out, ← HY.out]; exact HG2.out.symm
            refine ⟨by unfold M.joinC; rw [if_neg (fun h => h E0.out), if_pos hg], ?_, ?_⟩
            · unfold M.joinH
              rw [if_neg (fun h => h E0.out), if_pos hg, ← HY.out]
              unfold M.mv M.setH
              rw [HKK.out]; rfl
            · rw [HJ.out.2]; unfold M.keysAt; rw [if_neg (by rw [← HG1.out]; simp), if_pos HG2.out.symm]
          have KO : Hid (Calls Tryz.prog 17 #[.agg #[.slice a n cap, .slice a2 n2 cap2]] w5 fun e w' => ∃ v, e = .returned v ∧ RepoOwn w' w5.heap.size v C H ∧ Below w5.heap.size w5 w') := ownRepo_any a n cap C a2 n2 cap2 H w5 (HVW.out.later bW5) hr0
          clear J5
          go_wp2_with fail
          refine KO.out.mono ?_
          rintro e w6 ⟨v, rfl, ⟨xx, yy, rfl, ok, oh⟩, b6⟩
          obtain ⟨xa, xc, rfl, _⟩ := ok.cm
          obtain ⟨g, yc, rfl⟩ : ∃ g yc, yy = .slice (some ⟨g, 0, none⟩) H.length yc := by
            rcases oh.1.2 with ⟨e, e2⟩ | ⟨g, cap, _, e, _⟩
            · omega
            · exact ⟨g, cap, e⟩
          obtain ⟨D, hD⟩ : ∃ D, D = w6.heap.size := ⟨_, rfl⟩
          obtain ⟨m, hm⟩ : ∃ m, m = C.length := ⟨_, rfl⟩
          obtain ⟨W7, hW7⟩ : ∃ W7, W7 = w6.alloc (.cells #[.slice xa m xc, .slice (some ⟨g, 0, none⟩) n2 yc] 35) := ⟨_, rfl⟩
          have bW7 : Below w6.heap.size w6 W7 := by rw [hW7]; exact (Below.refl _ _).alloc (Nat.le_refl _) _
          have blk : W7.heap[D]? = some (.cells #[.slice xa m xc, .slice (some ⟨g, 0, none⟩) H.length yc] 35 (0, 0)) := by rw [hW7, hD, HNH.out]; exact heap_alloc_new _ _
          rw [← hm] at ok
          obtain ⟨Q1, Q2, Q3, Q4, Q5, Q6⟩ := boxed_moved (k := kk) ((yn : Nat) : Int) blk (ok.later bW7) (oh.later bW7) hkl
          rw [HNH.out] at blk Q1 Q3
          rw [← hm, HNH.out]
          obtain ⟨W8, hW8⟩ : ∃ W8, W8 = W7.setCell ⟨g, kk * 2 + 1, none⟩ (.int .i64 (yn : Int)) := ⟨_, rfl⟩
          rw [← hW8] at Q1 Q2 Q3
          have q57 : Below w5.heap.size w5 W7 := b6.trans (bW7.mono b6.size)
          have q58 : Below w5.heap.size w5 W8 := by rw [hW8]; exact q57.setCell (p := ⟨g, kk * 2 + 1, none⟩) Q5 _
          have d0 : W7.cell? ⟨D, 0, none⟩ = some (.slice xa m xc) := by rw [cell_of_row _ _ _ _ _ _ blk]; rfl
          have d1 : W7.cell? ⟨D, 1, none⟩ = some (.slice (some ⟨g, 0, none⟩) n2 yc) := by rw [cell_of_row _ _ _ _ _ _ blk]; rfl
          have e0 : W8.cell? ⟨D, 0, none⟩ = some (.slice xa m xc) := by rw [cell_of_row _ _ _ _ _ _ Q1]; rfl
          have e1 : W8.cell? ⟨D, 1, none⟩ = some (.slice (some ⟨g, 0, none⟩) n2 yc) := by rw [cell_of_row _ _ _ _ _ _ Q1]; rfl
          have r8 : W8.heap[R]? = some (.cells #[.slice none 0 0, .slice none 0 0] 35 (0, 0)) := (q58.block R (Array.getElem?_eq_some_iff.1 r5).1).trans r5
          have hbw : Below w.heap.size w W8 := hb5.trans (q58.mono hb5.size)
          have HRO : Aside (RepoOwn ((W8.setCell ⟨R, 0, none⟩ (.slice xa m xc)).setCell ⟨R, 1, none⟩ (.slice (some ⟨g, 0, none⟩) n2 yc)) w.heap.size (.agg #[.slice xa m xc, .slice (some ⟨g, 0, none⟩) n2 yc]) (M.joinC C H s t) (M.joinH C H s t)) := by unfold Aside; rw [EC.out.1, EC.out.2.1]; exact (repoOwn_set r8 Q2 Q3).lower hb5.size
          obtain ⟨g1, g2, g3⟩ := res_set r8 (.slice xa m xc) (.slice (some ⟨g, 0, none⟩) n2 yc)
          obtain ⟨X, hX⟩ : ∃ X, X = (W8.setCell ⟨R, 0, none⟩ (.slice xa m xc)).setCell ⟨R, 1, none⟩ (.slice (some ⟨g, 0, none⟩) n2 yc) := ⟨_, rfl⟩
          rw [← hX] at g1 HRO
          have bX : Below w.heap.size w X := by rw [hX]; exact (hbw.setCell (p := ⟨R, 0, none⟩) (by show _ ≤ R; have := HPR.out; omega) _).setCell (p := ⟨R, 1, none⟩) (by show _ ≤ R; have := HPR.out; omega) _
          have HX9 : Hid (X = (W8.setCell ⟨R, 0, none⟩ (.slice xa m xc)).setCell ⟨R, 1, none⟩ (.slice (some ⟨g, 0, none⟩) n2 yc)) := hX
          have HW7 : Hid (W7 = w6.alloc (.cells #[.slice xa m xc, .slice (some ⟨g, 0, none⟩) n2 yc] 35)) := hW7
          have HW8 : Hid (W8 = W7.setCell ⟨g, kk * 2 + 1, none⟩ (.int .i64 (yn : Int))) := hW8
          have HX0 : Aside (X.cell? ⟨R, 0, none⟩ = some (.slice xa m xc)) := by unfold Aside; rw [cell_of_row _ _ _ _ _ _ g1]; rfl
          have HX1 : Aside (X.cell? ⟨R, 1, none⟩ = some (.slice (some ⟨g, 0, none⟩) n2 yc)) := by unfold Aside; rw [cell_of_row _ _ _ _ _ _ g1]; rfl
          have x0 : W8.cell? ⟨R, 0, none⟩ = some (.slice none 0 0) := by rw [cell_of_row _ _ _ _ _ _ r8]; rfl
          have x1 : W8.cell? ⟨R, 1, none⟩ = some (.slice none 0 0) := by rw [cell_of_row _ _ _ _ _ _ r8]; rfl
          have f0 : W8.frozen? ⟨R, 0, none⟩ = false := frozen_of_row _ _ _ _ _ r8
          have f1 : W8.frozen? ⟨R, 1, none⟩ = false := frozen_of_row _ _ _ _ _ r8
          have q4 := Q4
          have q6 := Q6
          have hki : (kk : Int) < (n2 : Int) := by have := HNH.out; omega
          rw [hW7, hD] at d0 d1
          rw [hW7] at q4 q6
          rw [hW8, hW7] at e0 e1 x0 x1 f0 f1
          rw [hD] at e0 e1
          clear g1 g2 g3 hX hW7 hW8 hD Q1 Q2 Q3 Q4 Q5 Q6 ok oh blk hm b6 bW7 q57 q58 r8 r5 KO u5 v5
          go_wp2
          rw [← HW7.out, ← HW8.out, ← HX9.out]
          have y0 := HX0.out
          have y1 := HX1.out
          refine bodyPost_ret (v := .tuple #[.agg #[.slice xa m xc, .slice (some ⟨g, 0, none⟩) n2 yc], .slice none 0 0, .int .i64 0]) (by simp [results, Tryz.results52, go_sem, y0, y1]) rfl ?_
          exact ⟨_, none, 0, 0, ret_three E0.out.symm, HRO.out, by rw [EC.out.2.2]; exact ⟨rfl, Or.inl rfl⟩, Nat.le_refl _, by simp [maxLen], bX⟩
        | false =>
          by_cases h14 : n = 14
          · have E : Aside (M.joinE C H s t = 2) := by unfold Aside; rw [HJ.out.1]; unfold M.joinAt; rw [if_neg (by rw [← HG1.out]; simp), if_neg (by rw [← HG2.out]; simp), if_pos (by rw [HNC.out]; omega)]
            have h14b : ((n : Int) == 14) = true := by simp [h14]
            have EC : Aside (M.joinC C H s t = [] ∧ M.joinH C H s t = [] ∧ M.joinK C H s t = []) := ⟨by unfold M.joinC; rw [if_pos (by rw [E.out]; decide)], by unfold M.joinH; rw [if_pos (by rw [E.out]; decide)], by rw [HJ.out.2]; unfold M.keysAt; rw [if_neg (by rw [← HG1.out]; simp), if_neg (by rw [← HG2.out]; simp), if_pos (by rw [HNC.out]; omega)]⟩
            clear h14 J5
            obtain ⟨g1, g2, g3⟩ := res_set r5 (.slice none 0 0) (.slice none 0 0)
            obtain ⟨X, hX⟩ : ∃ X, X = (w5.setCell ⟨R, 0, none⟩ (.slice none 0 0)).setCell ⟨R, 1, none⟩ (.slice none 0 0) := ⟨_, rfl⟩
            rw [← hX] at g1
            have bX : Below w.heap.size w X := by rw [hX]; exact (hb5.setCell (p := ⟨R, 0, none⟩) (by show _ ≤ R; have := HPR.out; omega) _).setCell (p := ⟨R, 1, none⟩) (by show _ ≤ R; have := HPR.out; omega) _
            have gX := g1
            have HX9 : Hid (X = (w5.setCell ⟨R, 0, none⟩ (.slice none 0 0)).setCell ⟨R, 1, none⟩ (.slice none 0 0)) := hX
            have HX0 : Aside (X.cell? ⟨R, 0, none⟩ = some (.slice none 0 0)) := by unfold Aside; rw [cell_of_row _ _ _ _ _ _ gX]; rfl
            have HX1 : Aside (X.cell? ⟨R, 1, none⟩ = some (.slice none 0 0)) := by unfold Aside; rw [cell_of_row _ _ _ _ _ _ gX]; rfl
            have x0 : w5.cell? ⟨R, 0, none⟩ = some (.slice none 0 0) := by rw [cell_of_row _ _ _ _ _ _ r5]; rfl
            have x1 : w5.cell? ⟨R, 1, none⟩ = some (.slice none 0 0) := by rw [cell_of_row _ _ _ _ _ _ r5]; rfl
            have f0 : w5.frozen? ⟨R, 0, none⟩ = false := frozen_of_row _ _ _ _ _ r5
            have f1 : w5.frozen? ⟨R, 1, none⟩ = false := frozen_of_row _ _ _ _ _ r5
            clear g1 g2 g3 hX gX r5 
            go_wp2
            rw [← HX9.out]
            have y0 := HX0.out
            have y1 := HX1.out
            refine bodyPost_ret (v := .tuple #[.agg #[.slice none 0 0, .slice none 0 0], .slice none 0 0, .int .i64 2]) (by simp [results, Tryz.results52, go_sem, y0, y1]) rfl ?_
            refine ⟨_, none, 0, 0, ret_three E.out.symm, ?_, ?_, Nat.le_refl _, by simp [maxLen], bX⟩
            · rw [EC.out.1, EC.out.2.1]; exact RepoOwn.none _ _
            · rw [EC.out.2.2]; exact ⟨rfl, Or.inl rfl⟩
          · have h14b : ((n : Int) == 14) = false := by simp; omega
            have hn14 : n < 14 := by have := (M.dchk_zero hd0).1; have := HNC.out; omega
            have KB : Hid (Calls Tryz.prog 101 #[.slice a n cap, .int .i64 (xn : Int), .int .i64 (yn : Int)] w5 fun e w' => ∃ v, e = .returned v ∧ OwnI w' w5.heap.size v (M.bases C xn yn) ∧ Below w5.heap.size w5 w') := basesOf_any a n cap C xn yn w5 J5.cm hd0 hxn hyn
            have HAt : Hid (M.joinE C H s t = (if M.mergeE (M.baseR C xn yn) (C.getD xn ([], [])).1 (C.getD yn ([], [])).1 ≠ 0 then M.mergeE (M.baseR C xn yn) (C.getD xn ([], [])).1 (C.getD yn ([], [])).1 else if (M.mergeK (M.baseR C xn yn) (C.getD xn ([], [])).1 (C.getD yn ([], [])).1).length ≠ 0 then 7 else 0) ∧ M.joinK C H s t = (if M.mergeE (M.baseR C xn yn) (C.getD xn ([], [])).1 (C.getD yn ([], [])).1 ≠ 0 then [] else M.mergeK (M.baseR C xn yn) (C.getD xn ([], [])).1 (C.getD yn ([], [])).1)) := by
              unfold Hid
              rw [HJ.out.1, HJ.out.2]
              unfold M.joinAt M.keysAt
              have hc : ¬ 14 ≤ C.length := by rw [HNC.out]; omega
              refine ⟨?_, ?_⟩
              · rw [if_neg (by rw [← HG1.out]; simp), if_neg (by rw [← HG2.out]; simp), if_neg hc]
              · rw [if_neg (by rw [← HG1.out]; simp), if_neg (by rw [← HG2.out]; simp), if_neg hc]
            clear h14 J5
            go_wp2_with fail
            refine KB.out.mono ?_
            rintro e w6 ⟨v, rfl, o6, b6⟩
            have hb6 : Below w.heap.size w w6 := hb5.trans (b6.mono hb5.size)
            have r6 : w6.heap[R]? = some (.cells #[.slice none 0 0, .slice none 0 0] 35 (0, 0)) := (b6.block R (Array.getElem?_eq_some_iff.1 r5).1).trans r5
            have bW6 : Below W.heap.size W w6 := bW5.trans (b6.mono bW5.size)
            have J6 := HI.out.below bW6
            have u6 := J6.c0
            have v6 := J6.c1
            obtain ⟨la, lc, rfl, rl6, ll6, lm6⟩ := o6.ri
            obtain ⟨Bs, hBs⟩ : ∃ Bs, Bs = M.bases C xn yn := ⟨_, rfl⟩
            obtain ⟨ln, hln⟩ : ∃ ln, ln = (M.bases C xn yn).length := ⟨_, rfl⟩
            rw [← hln] at rl6 ⊢
            rw [← hBs] at rl6
            have hBin := M.bases_in C xn yn
            rw [← hBs, HNC.out] at hBin
            rw [← hBs] at hln
            have HRl : Hid (Ri w6 la ln Bs) := rl6
            have HLn : Aside (ln = Bs.length) := hln
            have HBR : Hid (M.baseR C xn yn = if Bs.length = 0 then [] else (C.getD (Bs.getD (Bs.length - 1) 0).toNat ([], [])).1) := by unfold Hid M.baseR; rw [← hBs]
            have HBin : Hid ((∀ v ∈ Bs, 0 ≤ v ∧ v < (n : Int)) ∧ Bs.length ≤ n) := hBin
            have hlnb : ln ≤ 14 := by rw [hln]; have := hBin.2; omega
            clear u5 v5 b6 KB r5 c5 rl6 ll6 lm6 hBs hln hBin
            obtain ⟨b, off, rfl, hb6lt, a1, n1, c1, a1', n1', c1', t0, t1, s0, s1, m1, m1'⟩ := J6.cm.nth hxn
            obtain ⟨b', off', he', _, a3, n3, c3, a3', n3', c3', t0', t1', s0', s1', m3, m3'⟩ := J6.cm.nth hyn
            cases he'
            have HS1 : Hid (Rd w6 a1 n1 (C.getD xn ([], [])).1) := s0
            have HS3 : Hid (Rd w6 a3 n3 (C.getD yn ([], [])).1) := s0'
            have hp6 : p < w6.heap.size := J6.lt
            have HSV : Hid (∀ V, Below w6.heap.size w6 V → V.cell? ⟨p, 0, none⟩ = some (.slice (some ⟨b, off, none⟩) n cap) ∧ V.cell? ⟨b, off + xn * 2, none⟩ = some (.slice a1 n1 c1) ∧ V.cell? ⟨b, off + yn * 2, none⟩ = some (.slice a3 n3 c3)) := fun V hV => ⟨(hV.cell (p := ⟨p, 0, none⟩) hp6).trans u6, (hV.cell (p := ⟨b, off + xn * 2, none⟩) hb6lt).trans t0, (hV.cell (p := ⟨b, off + yn * 2, none⟩) hb6lt).trans t0'⟩
            have HJ6 : Hid (InBox w6 p (some ⟨b, off, none⟩) n cap C a2 n2 cap2 H) := J6
            clear s0 s1 s0' s1' t0 t1 t0' t1' J6
            by_cases hl0 : ln = 0
            · subst hl0
              have HRb : Hid (Rd w6 none 0 (M.baseR C xn yn)) := by unfold Hid; rw [HBR.out, if_pos HLn.out.symm]; exact ⟨rfl, Or.inl rfl⟩
              have hbn : (0 : Nat) ≤ 9223372036854775807 := by omega
              have bV6 : Below w6.heap.size w6 w6 := Below.refl _ _
              clear o6
              obtain ⟨E, hE⟩ : ∃ E, E = M.mergeE (M.baseR C xn yn) (C.getD xn ([], [])).1 (C.getD yn ([], [])).1 := ⟨_, rfl⟩
              have KM : Hid (∀ U, Below w6.heap.size w6 U → Calls Tryz.prog 102 #[.slice none 0 0, .slice a1 n1 c1, .slice a3 n3 c3] U fun e w' => Hands3O U w' (M.mergeV (M.baseR C xn yn) (C.getD xn ([], [])).1 (C.getD yn ([], [])).1) (M.mergeK (M.baseR C xn yn) (C.getD xn ([], [])).1 (C.getD yn ([], [])).1) E e) := fun U hU => by
                rw [hE]
                exact mergeOf_own none a1 a3 0 n1 n3 0 c1 c3 _ _ _ U (HRb.out.below (bV6.trans (hU.mono bV6.size)) (Nat.le_refl _)) (HS1.out.below (bV6.trans (hU.mono bV6.size)) (Nat.le_refl _)) (HS3.out.below (bV6.trans (hU.mono bV6.size)) (Nat.le_refl _)) hbn m1 m3
              have HE : Aside (E = M.mergeE (M.baseR C xn yn) (C.getD xn ([], [])).1 (C.getD yn ([], [])).1) := hE
              have HBd : Hid (Below w6.heap.size w6 w6.drew) := (Below.refl _ _).drew
              have HSU : Hid (∀ U, Below w6.heap.size w6 U → U.cell? ⟨p, 0, none⟩ = some (.slice (some ⟨b, off, none⟩) n cap) ∧ U.cell? ⟨b, off + xn * 2, none⟩ = some (.slice a1 n1 c1) ∧ U.cell? ⟨b, off + yn * 2, none⟩ = some (.slice a3 n3 c3)) := fun U hU => HSV.out U (bV6.trans (hU.mono bV6.size))
              clear hE
              go_wp2_with fail
              refine wp_region_till 20 (fun V => V.cell? ⟨p, 0, none⟩ = some (.slice (some ⟨b, off, none⟩) n cap) ∧ V.cell? ⟨b, off + xn * 2, none⟩ = some (.slice a1 n1 c1) ∧ V.cell? ⟨b, off + yn * 2, none⟩ = some (.slice a3 n3 c3)) (by kernel_rfl) (HSU.out _ HBd.out) (fun hHeld => ?_)
              refine till_go 0 (v := .slice none 0 0) rfl (by decide) (by kernel_rfl) (by kernel_rfl) (by kernel_rfl) (fun _ _ _ h => h) (Or.inl ⟨by rfl, fun V _ => (by go_simp)⟩) hHeld ?_
              try simp only [Act.put]
              refine till_go 1 (v := .pointer (some ⟨p, 0, none⟩)) rfl (by decide) (by kernel_rfl) (by kernel_rfl) (by kernel_rfl) (fun _ _ _ h => h) (Or.inl ⟨by rfl, fun V _ => (by go_simp)⟩) hHeld ?_
              try simp only [Act.put]
              refine till_take 2 (v := .slice (some ⟨b, off, none⟩) n cap) rfl (by decide) (by kernel_rfl) (by kernel_rfl) (by kernel_rfl) (by kernel_rfl) (by kernel_rfl) (fun _ _ _ h => h) (Or.inl ⟨by rfl, fun V hV => (by obtain ⟨v0, v1, v2⟩ := hV; go_simp)⟩) hHeld ?_
              try simp only [Act.put]
              refine till_go 3 (v := .int .i64 (xn : Int)) rfl (by decide) (by kernel_rfl) (by kernel_rfl) (by kernel_rfl) (fun _ _ _ h => h) (Or.inl ⟨by rfl, fun V _ => (by go_simp)⟩) hHeld ?_
              try simp only [Act.put]
              refine till_go 4 (v := .pointer (some ⟨b, off + xn * 2, none⟩)) rfl (by decide) (by kernel_rfl) (by kernel_rfl) (by kernel_rfl) (fun _ _ _ h => h) (Or.inl ⟨by rfl, fun V _ => (by go_simp)⟩) hHeld ?_
              try simp only [Act.put]
              refine till_go 5 (v := .pointer (some ⟨b, off + xn * 2, none⟩)) rfl (by decide) (by kernel_rfl) (by kernel_rfl) (by kernel_rfl) (fun _ _ _ h => h) (Or.inl ⟨by rfl, fun V _ => (by go_simp)⟩) hHeld ?_
              try simp only [Act.put]
              refine till_take 6 (v := .slice a1 n1 c1) rfl (by decide) (by kernel_rfl) (by kernel_rfl) (by kernel_rfl) (by kernel_rfl) (by kernel_rfl) (fun _ _ _ h => h) (Or.inl ⟨by rfl, fun V hV => (by obtain ⟨v0, v1, v2⟩ := hV; go_simp)⟩) hHeld ?_
              try simp only [Act.put]
              refine till_go 7 (v := .pointer (some ⟨p, 0, none⟩)) rfl (by decide) (by kernel_rfl) (by kernel_rfl) (by kernel_rfl) (fun _ _ _ h => h) (Or.inl ⟨by rfl, fun V _ => (by go_simp)⟩) hHeld ?_
              try simp only [Act.put]
              refine till_take 8 (v := .slice (some ⟨b, off, none⟩) n cap) rfl (by decide) (by kernel_rfl) (by kernel_rfl) (by kernel_rfl) (by kernel_rfl) (by kernel_rfl) (fun _ _ _ h => h) (Or.inl ⟨by rfl, fun V hV => (by obtain ⟨v0, v1, v2⟩ := hV; go_simp)⟩) hHeld ?_
              try simp only [Act.put]
              refine till_go 9 (v := .int .i64 (yn : Int)) rfl (by decide) (by kernel_rfl) (by kernel_rfl) (by kernel_rfl) (fun _ _ _ h => h) (Or.inl ⟨by rfl, fun V _ => (by go_simp)⟩) hHeld ?_
              try simp only [Act.put]
              refine till_go 10 (v := .pointer (some ⟨b, off + yn * 2, none⟩)) rfl (by decide) (by kernel_rfl) (by kernel_rfl) (by kernel_rfl) (fun _ _ _ h => h) (Or.inl ⟨by rfl, fun V _ => (by go_simp)⟩) hHeld ?_
              try simp only [Act.put]
              refine till_go 11 (v := .pointer (some ⟨b, off + yn * 2, none⟩)) rfl (by decide) (by kernel_rfl) (by kernel_rfl) (by kernel_rfl) (fun _ _ _ h => h) (Or.inl ⟨by rfl, fun V _ => (by go_simp)⟩) hHeld ?_
              try simp only [Act.put]
              refine till_take 12 (v := .slice a3 n3 c3) rfl (by decide) (by kernel_rfl) (by kernel_rfl) (by kernel_rfl) (by kernel_rfl) (by kernel_rfl) (fun _ _ _ h => h) (Or.inl ⟨by rfl, fun V hV => (by obtain ⟨v0, v1, v2⟩ := hV; go_simp)⟩) hHeld ?_
              try simp only [Act.put]
              refine till_step 13 rfl (by decide) (by kernel_rfl) (fun K hK => ?_)
              go_simp
              go_wp2_with (go_at_call 102; refine (KM.out _ HBd.out).mono ?_; rintro e w7 ⟨ra, rn, rc, kb, kn, kc, rfl, rr, rle, rmx, ⟨rnil, ro⟩, kr, kle, kmx, b7⟩)
              have q7 : Below w6.heap.size w6 w7 := HBd.out.trans b7
              refine hK.out _ _ (HSU.out _ q7) (fun hHeld => ?_)
              clear hK K
              refine till_go 14 (v := .tuple #[.slice ra rn rc, .slice kb kn kc, .int .i64 E]) rfl (by decide) (by kernel_rfl) (by kernel_rfl) (by kernel_rfl) (fun _ _ _ h => h) (Or.inl ⟨by rfl, fun V _ => (by go_simp)⟩) hHeld ?_
              try simp only [Act.put]
              refine till_go 15 (v := .slice ra rn rc) rfl (by decide) (by kernel_rfl) (by kernel_rfl) (by kernel_rfl) (fun _ _ _ h => h) (Or.inl ⟨by rfl, fun V _ => (by go_simp)⟩) hHeld ?_
              try simp only [Act.put]
              refine till_go 16 (v := .slice kb kn kc) rfl (by decide) (by kernel_rfl) (by kernel_rfl) (by kernel_rfl) (fun _ _ _ h => h) (Or.inl ⟨by rfl, fun V _ => (by go_simp)⟩) hHeld ?_
              try simp only [Act.put]
              refine till_go 17 (v := .int .i64 E) rfl (by decide) (by kernel_rfl) (by kernel_rfl) (by kernel_rfl) (fun _ _ _ h => h) (Or.inl ⟨by rfl, fun V _ => (by go_simp)⟩) hHeld ?_
              try simp only [Act.put]
              refine till_go 18 (v := .slice ra rn rc) rfl (by decide) (by kernel_rfl) (by kernel_rfl) (by kernel_rfl) (fun _ _ _ h => h) (Or.inl ⟨by rfl, fun V _ => (by go_simp)⟩) hHeld ?_
              try simp only [Act.put]
              refine till_go 19 (v := .slice kb kn kc) rfl (by decide) (by kernel_rfl) (by kernel_rfl) (by kernel_rfl) (fun _ _ _ h => h) (Or.inl ⟨by rfl, fun V _ => (by go_simp)⟩) hHeld ?_
              try simp only [Act.put]
              refine till_last rfl (by kernel_rfl) (by kernel_rfl) (fun K hK => ?_) _
              go_simp
              refine hK.out _ _ ?_
              clear hK K
              have hb7 : Below w.heap.size w w7 := hb6.trans ((bV6.trans (q7.mono bV6.size)).mono hb6.size)
              have r7 : w7.heap[R]? = some (.cells #[.slice none 0 0, .slice none 0 0] 35 (0, 0)) := ((bV6.trans (q7.mono bV6.size)).block R (Array.getElem?_eq_some_iff.1 r6).1).trans r6
              have bW7 : Below W.heap.size W w7 := bW6.trans ((bV6.trans (q7.mono bV6.size)).mono bW6.size)
              have u7 := (HI.out.below bW7).c0
              have v7 := (HI.out.below bW7).c1
              have hV7 : w.heap.size ≤ w6.heap.size := (hb6.trans (bV6.mono hb6.size)).size
              have ro7 : Own w7 w.heap.size (.slice ra rn rc) (M.mergeV (M.baseR C xn yn) (C.getD xn ([], [])).1 (C.getD yn ([], [])).1) := Own.lower ro (by simpa using hV7)
              have HRo : Hid (Own w7 w.heap.size (.slice ra rn rc) (M.mergeV (M.baseR C xn yn) (C.getD xn ([], [])).1 (C.getD yn ([], [])).1)) := ro7
              have HKr : Hid (Ri w7 kb kn (M.mergeK (M.baseR C xn yn) (C.getD xn ([], [])).1 (C.getD yn ([], [])).1)) := kr
              clear ro ro7 rr rnil b7 q7 u6 v6 r6 KM HSU HSV hHeld
              by_cases hE0 : E = 0
              · subst hE0
                have hkl0 : (M.mergeK (M.baseR C xn yn) (C.getD xn ([], [])).1 (C.getD yn ([], [])).1).length = kn := HKr.out.1
                have hAt := HAt.out
                obtain ⟨hA1, hA2⟩ := hAt
                rw [if_neg (fun h => h HE.out.symm), hkl0] at hA1
                rw [if_neg (fun h => h HE.out.symm)] at hA2
                have HAt2 : Hid (M.joinE C H s t = (if kn ≠ 0 then 7 else 0) ∧ M.joinK C H s t = M.mergeK (M.baseR C xn yn) (C.getD xn ([], [])).1 (C.getD yn ([], [])).1) := ⟨hA1, hA2⟩
                clear hA1 hA2 hkl0
                by_cases hk0 : kn = 0
                · subst hk0
                  have E0 : Aside (M.joinE C H s t = 0) := by unfold Aside; rw [HAt2.out.1]; simp
                  have hg0 : (M.above C (M.hat C H t).toNat).getD (M.hat C H s).toNat false = false := by rw [← HX.out, ← HY.out]; exact HG2.out.symm
                  have EC : Aside (M.joinC C H s t = C ++ [(M.mergeV (M.baseR C xn yn) (C.getD xn ([], [])).1 (C.getD yn ([], [])).1, [min (xn : Int) (yn : Int), max (xn : Int) (yn : Int)])] ∧ M.joinH C H s t = M.setH H kk C.length ∧ M.joinK C H s t = []) := by
                    refine ⟨?_, ?_, ?_⟩
                    · unfold M.joinC
                      rw [if_neg (fun h => h E0.out), if_neg (by rw [hg0]; simp), ← HX.out, ← HY.out]; rfl
                    · unfold M.joinH
                      rw [if_neg (fun h => h E0.out), if_neg (by rw [hg0]; simp)]
                      unfold M.mv M.setH
                      rw [HKK.out]; rfl
                    · rw [HAt2.out.2]
                      exact List.eq_nil_of_length_eq_zero HKr.out.1
                  have HLen : Aside ((M.mergeV (M.baseR C xn yn) (C.getD xn ([], [])).1 (C.getD yn ([], [])).1).length ≤ 1000000) := by have := M.mergeV_len HE.out.symm; unfold Aside; omega
                  obtain ⟨W8, hW8⟩ : ∃ W8, W8 = w7.alloc (.cells #[.int .i64 (min (xn : Int) (yn : Int)), .int .i64 (max (xn : Int) (yn : Int))] 3) := ⟨_, rfl⟩
                  have b8 : Below w7.heap.size w7 W8 := by rw [hW8]; exact (Below.refl _ _).alloc (Nat.le_refl _) _
                  have KG : Hid (Calls Tryz.prog 98 #[.agg #[.slice (some ⟨b, off, none⟩) n cap, .slice a2 n2 cap2], .int .i64 (kk : Int), .slice ra rn rc, .slice (some ⟨w7.heap.size, 0, none⟩) 2 2] W8 fun e w' => ∃ v, e = .returned v ∧ RepoOwn w' w.heap.size v (C ++ [(M.mergeV (M.baseR C xn yn) (C.getD xn ([], [])).1 (C.getD yn ([], [])).1, [min (xn : Int) (yn : Int), max (xn : Int) (yn : Int)])]) (M.setH H kk C.length) ∧ Below W8.heap.size W8 w') :=
                    grown_any _ n cap C a2 n2 cap2 H kk ra _ rn rc 2 2 (_, [min (xn : Int) (yn : Int), max (xn : Int) (yn : Int)]) w.heap.size W8 ((HVW.out.later bW7).later b8) hr0 hkl (Nat.le_trans hb7.size b8.size) ⟨ownsRow_later HRo.out b8, by rw [hW8]; exact ownI_two w7 _ _ _ hb7.size, HLen.out, by simp⟩
                  have HW8 : Hid (W8 = w7.alloc (.cells #[.int .i64 (min (xn : Int) (yn : Int)), .int .i64 (max (xn : Int) (yn : Int))] 3)) := hW8
                  have hb8 : Below w.heap.size w W8 := hb7.trans (b8.mono hb7.size)
                  have r8 : W8.heap[R]? = some (.cells #[.slice none 0 0, .slice none 0 0] 35 (0, 0)) := (b8.block R (Array.getElem?_eq_some_iff.1 r7).1).trans r7
                  clear hW8 b8 r7
                  go_wp2_with fail
                  rw [← HW8.out]
                  refine KG.out.mono ?_
                  rintro e w9 ⟨v9, rfl, o9, b9⟩
                  have hb9 : Below w.heap.size w w9 := hb8.trans (b9.mono hb8.size)
                  have r9 : w9.heap[R]? = some (.cells #[.slice none 0 0, .slice none 0 0] 35 (0, 0)) := (b9.block R (Array.getElem?_eq_some_iff.1 r8).1).trans r8
                  obtain ⟨xa8, xc8, ya8, yc8, rfl, _⟩ := o9.v
                  generalize hln : (C ++ [(M.mergeV (M.baseR C xn yn) (C.getD xn ([], [])).1 (C.getD yn ([], [])).1, [min (xn : Int) (yn : Int), max (xn : Int) (yn : Int)])]).length = ln8 at *
                  generalize hlh : (M.setH H kk C.length).length = lh8 at *
                  obtain ⟨q1, q2, hqq, o91, o92⟩ := o9
                  obtain ⟨rfl, rfl⟩ : q1 = .slice xa8 ln8 xc8 ∧ q2 = .slice ya8 lh8 yc8 := by simp at hqq; exact ⟨hqq.1.symm, hqq.2.symm⟩
                  have HRO : Aside (RepoOwn ((w9.setCell ⟨R, 0, none⟩ (.slice xa8 ln8 xc8)).setCell ⟨R, 1, none⟩ (.slice ya8 lh8 yc8)) w.heap.size (.agg #[.slice xa8 ln8 xc8, .slice ya8 lh8 yc8]) (M.joinC C H s t) (M.joinH C H s t)) := by unfold Aside; rw [EC.out.1, EC.out.2.1]; exact repoOwn_set r9 o91 o92
                  obtain ⟨g1, g2, g3⟩ := res_set r9 (.slice xa8 ln8 xc8) (.slice ya8 lh8 yc8)
                  obtain ⟨X, hX⟩ : ∃ X, X = (w9.setCell ⟨R, 0, none⟩ (.slice xa8 ln8 xc8)).setCell ⟨R, 1, none⟩ (.slice ya8 lh8 yc8) := ⟨_, rfl⟩
                  rw [← hX] at g1 HRO
                  have bX : Below w.heap.size w X := by rw [hX]; exact (hb9.setCell (p := ⟨R, 0, none⟩) (by show _ ≤ R; have := HPR.out; omega) _).setCell (p := ⟨R, 1, none⟩) (by show _ ≤ R; have := HPR.out; omega) _
                  have HX9 : Hid (X = (w9.setCell ⟨R, 0, none⟩ (.slice xa8 ln8 xc8)).setCell ⟨R, 1, none⟩ (.slice ya8 lh8 yc8)) := hX
                  have HX0 : Aside (X.cell? ⟨R, 0, none⟩ = some (.slice xa8 ln8 xc8)) := by unfold Aside; rw [cell_of_row _ _ _ _ _ _ g1]; rfl
                  have HX1 : Aside (X.cell? ⟨R, 1, none⟩ = some (.slice ya8 lh8 yc8)) := by unfold Aside; rw [cell_of_row _ _ _ _ _ _ g1]; rfl
                  have x0 : w9.cell? ⟨R, 0, none⟩ = some (.slice none 0 0) := by rw [cell_of_row _ _ _ _ _ _ r9]; rfl
                  have x1 : w9.cell? ⟨R, 1, none⟩ = some (.slice none 0 0) := by rw [cell_of_row _ _ _ _ _ _ r9]; rfl
                  have f0 : w9.frozen? ⟨R, 0, none⟩ = false := frozen_of_row _ _ _ _ _ r9
                  have f1 : w9.frozen? ⟨R, 1, none⟩ = false := frozen_of_row _ _ _ _ _ r9
                  clear g1 g2 g3 hX r9 r8 o91 o92 hqq hln hlh b9 KG
                  go_wp2
                  rw [← HX9.out]
                  have y0 := HX0.out
                  have y1 := HX1.out
                  refine bodyPost_ret (v := .tuple #[.agg #[.slice xa8 ln8 xc8, .slice ya8 lh8 yc8], .slice none 0 0, .int .i64 0]) (by simp [results, Tryz.results52, go_sem, y0, y1]) rfl ?_
                  exact ⟨_, none, 0, 0, ret_three E0.out.symm, HRO.out, by rw [EC.out.2.2]; exact ⟨rfl, Or.inl rfl⟩, Nat.le_refl _, by simp [maxLen], bX⟩
                · have hk7 : kn ≠ 0 := hk0
                  have E7 : Aside (M.joinE C H s t = 7) := by unfold Aside; rw [HAt2.out.1, if_pos hk7]
                  obtain ⟨k1, rfl⟩ : ∃ k1, kn = k1 + 1 := ⟨kn - 1, by omega⟩
                  clear hk0 hk7
                  have HKj : Hid (Ri w7 kb (k1 + 1) (M.joinK C H s t)) := by unfold Hid; rw [HAt2.out.2]; exact HKr.out
                  have EC : Aside (M.joinC C H s t = [] ∧ M.joinH C H s t = [] ∧ M.joinK C H s t = M.joinK C H s t) := ⟨by unfold M.joinC; rw [if_pos (by rw [E7.out]; decide)], by unfold M.joinH; rw [if_pos (by rw [E7.out]; decide)], rfl⟩
                  obtain ⟨g1, g2, g3⟩ := res_set r7 (.slice none 0 0) (.slice none 0 0)
                  obtain ⟨X, hX⟩ : ∃ X, X = (w7.setCell ⟨R, 0, none⟩ (.slice none 0 0)).setCell ⟨R, 1, none⟩ (.slice none 0 0) := ⟨_, rfl⟩
                  have HKX : Hid (Ri X kb (k1 + 1) (M.joinK C H s t)) := by unfold Hid; rw [hX]; exact HKj.out.elsewhere r7 _ _
                  rw [← hX] at g1
                  have bX : Below w.heap.size w X := by rw [hX]; exact (hb7.setCell (p := ⟨R, 0, none⟩) (by show _ ≤ R; have := HPR.out; omega) _).setCell (p := ⟨R, 1, none⟩) (by show _ ≤ R; have := HPR.out; omega) _
                  have gX := g1
                  have HX9 : Hid (X = (w7.setCell ⟨R, 0, none⟩ (.slice none 0 0)).setCell ⟨R, 1, none⟩ (.slice none 0 0)) := hX
                  have HX0 : Aside (X.cell? ⟨R, 0, none⟩ = some (.slice none 0 0)) := by unfold Aside; rw [cell_of_row _ _ _ _ _ _ gX]; rfl
                  have HX1 : Aside (X.cell? ⟨R, 1, none⟩ = some (.slice none 0 0)) := by unfold Aside; rw [cell_of_row _ _ _ _ _ _ gX]; rfl
                  have x0 : w7.cell? ⟨R, 0, none⟩ = some (.slice none 0 0) := by rw [cell_of_row _ _ _ _ _ _ r7]; rfl
                  have x1 : w7.cell? ⟨R, 1, none⟩ = some (.slice none 0 0) := by rw [cell_of_row _ _ _ _ _ _ r7]; rfl
                  have f0 : w7.frozen? ⟨R, 0, none⟩ = false := frozen_of_row _ _ _ _ _ r7
                  have f1 : w7.frozen? ⟨R, 1, none⟩ = false := frozen_of_row _ _ _ _ _ r7
                  clear g1 g2 g3 hX gX r7 
                  go_wp2
                  rw [← HX9.out]
                  have y0 := HX0.out
                  have y1 := HX1.out
                  refine bodyPost_ret (v := .tuple #[.agg #[.slice none 0 0, .slice none 0 0], .slice kb (k1 + 1) kc, .int .i64 7]) (by simp [results, Tryz.results52, go_sem, y0, y1]) rfl ?_
                  refine ⟨_, kb, k1 + 1, kc, ret_three E7.out.symm, ?_, HKX.out, kle, kmx, bX⟩
                  rw [EC.out.1, EC.out.2.1]; exact RepoOwn.none _ _
              · have hEb : (E != 0) = true := by simp [hE0]
                have EE : Aside (M.joinE C H s t = E) := by unfold Aside; rw [HAt.out.1, ← HE.out, if_pos hE0]
                have EC : Aside (M.joinC C H s t = [] ∧ M.joinH C H s t = [] ∧ M.joinK C H s t = []) := ⟨by unfold M.joinC; rw [if_pos (by rw [EE.out]; exact hE0)], by unfold M.joinH; rw [if_pos (by rw [EE.out]; exact hE0)], by rw [HAt.out.2, ← HE.out, if_pos hE0]⟩
                clear hE0
                obtain ⟨g1, g2, g3⟩ := res_set r7 (.slice none 0 0) (.slice none 0 0)
                obtain ⟨X, hX⟩ : ∃ X, X = (w7.setCell ⟨R, 0, none⟩ (.slice none 0 0)).setCell ⟨R, 1, none⟩ (.slice none 0 0) := ⟨_, rfl⟩
                rw [← hX] at g1
                have bX : Below w.heap.size w X := by rw [hX]; exact (hb7.setCell (p := ⟨R, 0, none⟩) (by show _ ≤ R; have := HPR.out; omega) _).setCell (p := ⟨R, 1, none⟩) (by show _ ≤ R; have := HPR.out; omega) _
                have gX := g1
                have HX9 : Hid (X = (w7.setCell ⟨R, 0, none⟩ (.slice none 0 0)).setCell ⟨R, 1, none⟩ (.slice none 0 0)) := hX
                have HX0 : Aside (X.cell? ⟨R, 0, none⟩ = some (.slice none 0 0)) := by unfold Aside; rw [cell_of_row _ _ _ _ _ _ gX]; rfl
                have HX1 : Aside (X.cell? ⟨R, 1, none⟩ = some (.slice none 0 0)) := by unfold Aside; rw [cell_of_row _ _ _ _ _ _ gX]; rfl
                have x0 : w7.cell? ⟨R, 0, none⟩ = some (.slice none 0 0) := by rw [cell_of_row _ _ _ _ _ _ r7]; rfl
                have x1 : w7.cell? ⟨R, 1, none⟩ = some (.slice none 0 0) := by rw [cell_of_row _ _ _ _ _ _ r7]; rfl
                have f0 : w7.frozen? ⟨R, 0, none⟩ = false := frozen_of_row _ _ _ _ _ r7
                have f1 : w7.frozen? ⟨R, 1, none⟩ = false := frozen_of_row _ _ _ _ _ r7
                clear g1 g2 g3 hX gX r7 
                go_wp2
                rw [← HX9.out]
                have y0 := HX0.out
                have y1 := HX1.out
                refine bodyPost_ret (v := .tuple #[.agg #[.slice none 0 0, .slice none 0 0], .slice none 0 0, .int .i64 E]) (by simp [results, Tryz.results52, go_sem, y0, y1]) rfl ?_
                refine ⟨_, none, 0, 0, ret_three EE.out.symm, ?_, ?_, Nat.le_refl _, by simp [maxLen], bX⟩
                · rw [EC.out.1, EC.out.2.1]; exact RepoOwn.none _ _
                · rw [EC.out.2.2]; exact ⟨rfl, Or.inl rfl⟩
            · obtain ⟨l1, rfl⟩ : ∃ l1, ln = l1 + 1 := ⟨ln - 1, by omega⟩
              obtain ⟨lb, lo, rfl, hlc⟩ : ∃ lb lo, la = some ⟨lb, lo, none⟩ ∧ w6.cell? ⟨lb, lo + l1, none⟩ = some (.int .i64 (Bs.getD l1 0)) := by
                rcases HRl.out.cases with ⟨h0, _⟩ | ⟨lb, lo, e, _, _, _, hc⟩
                · omega
                · exact ⟨lb, lo, e, hc l1 (by omega)⟩
              have hBl : l1 < Bs.length := by have := HLn.out; omega
              have hbv := HBin.out.1 (Bs.getD l1 0) (by simp [List.getD, hBl])
              obtain ⟨bx, hbx⟩ : ∃ bx : Nat, Bs.getD l1 0 = (bx : Int) := ⟨(Bs.getD l1 0).toNat, by omega⟩
              rw [hbx] at hlc hbv
              have hbxn : bx < n := by omega
              have hbxi : (bx : Int) < (n : Int) := by omega
              obtain ⟨b', off', he', _, ba, bn, bc, ba', bn', bc', q0, q1, p0, p1, hbn, hbn'⟩ := HJ6.out.cm.nth hbxn
              cases he'
              have HRb : Hid (Rd w6 ba bn (M.baseR C xn yn)) := by
                unfold Hid
                rw [HBR.out, if_neg (by omega), show Bs.length - 1 = l1 by have := HLn.out; omega, hbx]
                exact p0
              have hl1w : IntKind.i64.wrap (((l1 + 1 : Nat) : Int) - 1) = (l1 : Int) := by rw [IntKind.wrap_i64]; omega
              clear hbv hbx p0 p1 q1 o6 hBl hl0
              go_wp2_with fail
              go_quiet (fail)
              have bV6 : Below w6.heap.size w6 (w6.drewN nq) := drewN_below w6 nq
              obtain ⟨V6, hV6⟩ : ∃ V6, V6 = w6.drewN nq := ⟨_, rfl⟩
              rw [← hV6] at bV6 ⊢
              clear hV6 hlc q0
              clear hbxi hbxn
              obtain ⟨E, hE⟩ : ∃ E, E = M.mergeE (M.baseR C xn yn) (C.getD xn ([], [])).1 (C.getD yn ([], [])).1 := ⟨_, rfl⟩
              have KM : Hid (∀ U, Below V6.heap.size V6 U → Calls Tryz.prog 102 #[.slice ba bn bc, .slice a1 n1 c1, .slice a3 n3 c3] U fun e w' => Hands3O U w' (M.mergeV (M.baseR C xn yn) (C.getD xn ([], [])).1 (C.getD yn ([], [])).1) (M.mergeK (M.baseR C xn yn) (C.getD xn ([], [])).1 (C.getD yn ([], [])).1) E e) := fun U hU => by
                rw [hE]
                exact mergeOf_own ba a1 a3 bn n1 n3 bc c1 c3 _ _ _ U (HRb.out.below (bV6.trans (hU.mono bV6.size)) (Nat.le_refl _)) (HS1.out.below (bV6.trans (hU.mono bV6.size)) (Nat.le_refl _)) (HS3.out.below (bV6.trans (hU.mono bV6.size)) (Nat.le_refl _)) hbn m1 m3
              have HE : Aside (E = M.mergeE (M.baseR C xn yn) (C.getD xn ([], [])).1 (C.getD yn ([], [])).1) := hE
              have HBd : Hid (Below V6.heap.size V6 V6.drew) := (Below.refl _ _).drew
              have HSU : Hid (∀ U, Below V6.heap.size V6 U → U.cell? ⟨p, 0, none⟩ = some (.slice (some ⟨b, off, none⟩) n cap) ∧ U.cell? ⟨b, off + xn * 2, none⟩ = some (.slice a1 n1 c1) ∧ U.cell? ⟨b, off + yn * 2, none⟩ = some (.slice a3 n3 c3)) := fun U hU => HSV.out U (bV6.trans (hU.mono bV6.size))
              clear hE
              go_wp2_with fail
              refine wp_region_till 20 (fun V => V.cell? ⟨p, 0, none⟩ = some (.slice (some ⟨b, off, none⟩) n cap) ∧ V.cell? ⟨b, off + xn * 2, none⟩ = some (.slice a1 n1 c1) ∧ V.cell? ⟨b, off + yn * 2, none⟩ = some (.slice a3 n3 c3)) (by kernel_rfl) (HSU.out _ HBd.out) (fun hHeld => ?_)
              refine till_go 0 (v := .slice ba bn bc) rfl (by decide) (by kernel_rfl) (by kernel_rfl) (by kernel_rfl) (fun _ _ _ h => h) (Or.inl ⟨by rfl, fun V _ => (by go_simp)⟩) hHeld ?_
              try simp only [Act.put]
              refine till_go 1 (v := .pointer (some ⟨p, 0, none⟩)) rfl (by decide) (by kernel_rfl) (by kernel_rfl) (by kernel_rfl) (fun _ _ _ h => h) (Or.inl ⟨by rfl, fun V _ => (by go_simp)⟩) hHeld ?_
              try simp only [Act.put]
              refine till_take 2 (v := .slice (some ⟨b, off, none⟩) n cap) rfl (by decide) (by kernel_rfl) (by kernel_rfl) (by kernel_rfl) (by kernel_rfl) (by kernel_rfl) (fun _ _ _ h => h) (Or.inl ⟨by rfl, fun V hV => (by obtain ⟨v0, v1, v2⟩ := hV; go_simp)⟩) hHeld ?_
              try simp only [Act.put]
              refine till_go 3 (v := .int .i64 (xn : Int)) rfl (by decide) (by kernel_rfl) (by kernel_rfl) (by kernel_rfl) (fun _ _ _ h => h) (Or.inl ⟨by rfl, fun V _ => (by go_simp)⟩) hHeld ?_
              try simp only [Act.put]
              refine till_go 4 (v := .pointer (some ⟨b, off + xn * 2, none⟩)) rfl (by decide) (by kernel_rfl) (by kernel_rfl) (by kernel_rfl) (fun _ _ _ h => h) (Or.inl ⟨by rfl, fun V _ => (by go_simp)⟩) hHeld ?_
              try simp only [Act.put]
              refine till_go 5 (v := .pointer (some ⟨b, off + xn * 2, none⟩)) rfl (by decide) (by kernel_rfl) (by kernel_rfl) (by kernel_rfl) (fun _ _ _ h => h) (Or.inl ⟨by rfl, fun V _ => (by go_simp)⟩) hHeld ?_
              try simp only [Act.put]
              refine till_take 6 (v := .slice a1 n1 c1) rfl (by decide) (by kernel_rfl) (by kernel_rfl) (by kernel_rfl) (by kernel_rfl) (by kernel_rfl) (fun _ _ _ h => h) (Or.inl ⟨by rfl, fun V hV => (by obtain ⟨v0, v1, v2⟩ := hV; go_simp)⟩) hHeld ?_
              try simp only [Act.put]
              refine till_go 7 (v := .pointer (some ⟨p, 0, none⟩)) rfl (by decide) (by kernel_rfl) (by kernel_rfl) (by kernel_rfl) (fun _ _ _ h => h) (Or.inl ⟨by rfl, fun V _ => (by go_simp)⟩) hHeld ?_
              try simp only [Act.put]
              refine till_take 8 (v := .slice (some ⟨b, off, none⟩) n cap) rfl (by decide) (by kernel_rfl) (by kernel_rfl) (by kernel_rfl) (by kernel_rfl) (by kernel_rfl) (fun _ _ _ h => h) (Or.inl ⟨by rfl, fun V hV => (by obtain ⟨v0, v1, v2⟩ := hV; go_simp)⟩) hHeld ?_
              try simp only [Act.put]
              refine till_go 9 (v := .int .i64 (yn : Int)) rfl (by decide) (by kernel_rfl) (by kernel_rfl) (by kernel_rfl) (fun _ _ _ h => h) (Or.inl ⟨by rfl, fun V _ => (by go_simp)⟩) hHeld ?_
              try simp only [Act.put]
              refine till_go 10 (v := .pointer (some ⟨b, off + yn * 2, none⟩)) rfl (by decide) (by kernel_rfl) (by kernel_rfl) (by kernel_rfl) (fun _ _ _ h => h) (Or.inl ⟨by rfl, fun V _ => (by go_simp)⟩) hHeld ?_
              try simp only [Act.put]
              refine till_go 11 (v := .pointer (some ⟨b, off + yn * 2, none⟩)) rfl (by decide) (by kernel_rfl) (by kernel_rfl) (by kernel_rfl) (fun _ _ _ h => h) (Or.inl ⟨by rfl, fun V _ => (by go_simp)⟩) hHeld ?_
              try simp only [Act.put]
              refine till_take 12 (v := .slice a3 n3 c3) rfl (by decide) (by kernel_rfl) (by kernel_rfl) (by kernel_rfl) (by kernel_rfl) (by kernel_rfl) (fun _ _ _ h => h) (Or.inl ⟨by rfl, fun V hV => (by obtain ⟨v0, v1, v2⟩ := hV; go_simp)⟩) hHeld ?_
              try simp only [Act.put]
              refine till_step 13 rfl (by decide) (by kernel_rfl) (fun K hK => ?_)
              go_simp
              go_wp2_with (go_at_call 102; refine (KM.out _ HBd.out).mono ?_; rintro e w7 ⟨ra, rn, rc, kb, kn, kc, rfl, rr, rle, rmx, ⟨rnil, ro⟩, kr, kle, kmx, b7⟩)
              have q7 : Below V6.heap.size V6 w7 := HBd.out.trans b7
              refine hK.out _ _ (HSU.out _ q7) (fun hHeld => ?_)
              clear hK K
              refine till_go 14 (v := .tuple #[.slice ra rn rc, .slice kb kn kc, .int .i64 E]) rfl (by decide) (by kernel_rfl) (by kernel_rfl) (by kernel_rfl) (fun _ _ _ h => h) (Or.inl ⟨by rfl, fun V _ => (by go_simp)⟩) hHeld ?_
              try simp only [Act.put]
              refine till_go 15 (v := .slice ra rn rc) rfl (by decide) (by kernel_rfl) (by kernel_rfl) (by kernel_rfl) (fun _ _ _ h => h) (Or.inl ⟨by rfl, fun V _ => (by go_simp)⟩) hHeld ?_
              try simp only [Act.put]
              refine till_go 16 (v := .slice kb kn kc) rfl (by decide) (by kernel_rfl) (by kernel_rfl) (by kernel_rfl) (fun _ _ _ h => h) (Or.inl ⟨by rfl, fun V _ => (by go_simp)⟩) hHeld ?_
              try simp only [Act.put]
              refine till_go 17 (v := .int .i64 E) rfl (by decide) (by kernel_rfl) (by kernel_rfl) (by kernel_rfl) (fun _ _ _ h => h) (Or.inl ⟨by rfl, fun V _ => (by go_simp)⟩) hHeld ?_
              try simp only [Act.put]
              refine till_go 18 (v := .slice ra rn rc) rfl (by decide) (by kernel_rfl) (by kernel_rfl) (by kernel_rfl) (fun _ _ _ h => h) (Or.inl ⟨by rfl, fun V _ => (by go_simp)⟩) hHeld ?_
              try simp only [Act.put]
              refine till_go 19 (v := .slice kb kn kc) rfl (by decide) (by kernel_rfl) (by kernel_rfl) (by kernel_rfl) (fun _ _ _ h => h) (Or.inl ⟨by rfl, fun V _ => (by go_simp)⟩) hHeld ?_
              try simp only [Act.put]
              refine till_last rfl (by kernel_rfl) (by kernel_rfl) (fun K hK => ?_) _
              go_simp
              refine hK.out _ _ ?_
              clear hK K
              have hb7 : Below w.heap.size w w7 := hb6.trans ((bV6.trans (q7.mono bV6.size)).mono hb6.size)
              have r7 : w7.heap[R]? = some (.cells #[.slice none 0 0, .slice none 0 0] 35 (0, 0)) := ((bV6.trans (q7.mono bV6.size)).block R (Array.getElem?_eq_some_iff.1 r6).1).trans r6
              have bW7 : Below W.heap.size W w7 := bW6.trans ((bV6.trans (q7.mono bV6.size)).mono bW6.size)
              have u7 := (HI.out.below bW7).c0
              have v7 := (HI.out.below bW7).c1
              have hV7 : w.heap.size ≤ V6.heap.size := (hb6.trans (bV6.mono hb6.size)).size
              have ro7 : Own w7 w.heap.size (.slice ra rn rc) (M.mergeV (M.baseR C xn yn) (C.getD xn ([], [])).1 (C.getD yn ([], [])).1) := Own.lower ro (by simpa using hV7)
              have HRo : Hid (Own w7 w.heap.size (.slice ra rn rc) (M.mergeV (M.baseR C xn yn) (C.getD xn ([], [])).1 (C.getD yn ([], [])).1)) := ro7
              have HKr : Hid (Ri w7 kb kn (M.mergeK (M.baseR C xn yn) (C.getD xn ([], [])).1 (C.getD yn ([], [])).1)) := kr
              clear ro ro7 rr rnil b7 q7 u6 v6 r6 KM HSU HSV hHeld
              by_cases hE0 : E = 0
              · subst hE0
                have hkl0 : (M.mergeK (M.baseR C xn yn) (C.getD xn ([], [])).1 (C.getD yn ([], [])).1).length = kn := HKr.out.1
                have hAt := HAt.out
                obtain ⟨hA1, hA2⟩ := hAt
                rw [if_neg (fun h => h HE.out.symm), hkl0] at hA1
                rw [if_neg (fun h => h HE.out.symm)] at hA2
                have HAt2 : Hid (M.joinE C H s t = (if kn ≠ 0 then 7 else 0) ∧ M.joinK C H s t = M.mergeK (M.baseR C xn yn) (C.getD xn ([], [])).1 (C.getD yn ([], [])).1) := ⟨hA1, hA2⟩
                clear hA1 hA2 hkl0
                by_cases hk0 : kn = 0
                · subst hk0
                  have E0 : Aside (M.joinE C H s t = 0) := by unfold Aside; rw [HAt2.out.1]; simp
                  have hg0 : (M.above C (M.hat C H t).toNat).getD (M.hat C H s).toNat false = false := by rw [← HX.out, ← HY.out]; exact HG2.out.symm
                  have EC : Aside (M.joinC C H s t = C ++ [(M.mergeV (M.baseR C xn yn) (C.getD xn ([], [])).1 (C.getD yn ([], [])).1, [min (xn : Int) (yn : Int), max (xn : Int) (yn : Int)])] ∧ M.joinH C H s t = M.setH H kk C.length ∧ M.joinK C H s t = []) := by
                    refine ⟨?_, ?_, ?_⟩
                    · unfold M.joinC
                      rw [if_neg (fun h => h E0.out), if_neg (by rw [hg0]; simp), ← HX.out, ← HY.out]; rfl
                    · unfold M.joinH
                      rw [if_neg (fun h => h E0.out), if_neg (by rw [hg0]; simp)]
                      unfold M.mv M.setH
                      rw [HKK.out]; rfl
                    · rw [HAt2.out.2]
                      exact List.eq_nil_of_length_eq_zero HKr.out.1
                  have HLen : Aside ((M.mergeV (M.baseR C xn yn) (C.getD xn ([], [])).1 (C.getD yn ([], [])).1).length ≤ 1000000) := by have := M.mergeV_len HE.out.symm; unfold Aside; omega
                  obtain ⟨W8, hW8⟩ : ∃ W8, W8 = w7.alloc (.cells #[.int .i64 (min (xn : Int) (yn : Int)), .int .i64 (max (xn : Int) (yn : Int))] 3) := ⟨_, rfl⟩
                  have b8 : Below w7.heap.size w7 W8 := by rw [hW8]; exact (Below.refl _ _).alloc (Nat.le_refl _) _
                  have KG : Hid (Calls Tryz.prog 98 #[.agg #[.slice (some ⟨b, off, none⟩) n cap, .slice a2 n2 cap2], .int .i64 (kk : Int), .slice ra rn rc, .slice (some ⟨w7.heap.size, 0, none⟩) 2 2] W8 fun e w' => ∃ v, e = .returned v ∧ RepoOwn w' w.heap.size v (C ++ [(M.mergeV (M.baseR C xn yn) (C.getD xn ([], [])).1 (C.getD yn ([], [])).1, [min (xn : Int) (yn : Int), max (xn : Int) (yn : Int)])]) (M.setH H kk C.length) ∧ Below W8.heap.size W8 w') :=
                    grown_any _ n cap C a2 n2 cap2 H kk ra _ rn rc 2 2 (_, [min (xn : Int) (yn : Int), max (xn : Int) (yn : Int)]) w.heap.size W8 ((HVW.out.later bW7).later b8) hr0 hkl (Nat.le_trans hb7.size b8.size) ⟨ownsRow_later HRo.out b8, by rw [hW8]; exact ownI_two w7 _ _ _ hb7.size, HLen.out, by simp⟩
                  have HW8 : Hid (W8 = w7.alloc (.cells #[.int .i64 (min (xn : Int) (yn : Int)), .int .i64 (max (xn : Int) (yn : Int))] 3)) := hW8
                  have hb8 : Below w.heap.size w W8 := hb7.trans (b8.mono hb7.size)
                  have r8 : W8.heap[R]? = some (.cells #[.slice none 0 0, .slice none 0 0] 35 (0, 0)) := (b8.block R (Array.getElem?_eq_some_iff.1 r7).1).trans r7
                  clear hW8 b8 r7
                  go_wp2_with fail
                  rw [← HW8.out]
                  refine KG.out.mono ?_
                  rintro e w9 ⟨v9, rfl, o9, b9⟩
                  have hb9 : Below w.heap.size w w9 := hb8.trans (b9.mono hb8.size)
                  have r9 : w9.heap[R]? = some (.cells #[.slice none 0 0, .slice none 0 0] 35 (0, 0)) := (b9.block R (Array.getElem?_eq_some_iff.1 r8).1).trans r8
                  obtain ⟨xa8, xc8, ya8, yc8, rfl, _⟩ := o9.v
                  generalize hln : (C ++ [(M.mergeV (M.baseR C xn yn) (C.getD xn ([], [])).1 (C.getD yn ([], [])).1, [min (xn : Int) (yn : Int), max (xn : Int) (yn : Int)])]).length = ln8 at *
                  generalize hlh : (M.setH H kk C.length).length = lh8 at *
                  obtain ⟨q1, q2, hqq, o91, o92⟩ := o9
                  obtain ⟨rfl, rfl⟩ : q1 = .slice xa8 ln8 xc8 ∧ q2 = .slice ya8 lh8 yc8 := by simp at hqq; exact ⟨hqq.1.symm, hqq.2.symm⟩
                  have HRO : Aside (RepoOwn ((w9.setCell ⟨R, 0, none⟩ (.slice xa8 ln8 xc8)).setCell ⟨R, 1, none⟩ (.slice ya8 lh8 yc8)) w.heap.size (.agg #[.slice xa8 ln8 xc8, .slice ya8 lh8 yc8]) (M.joinC C H s t) (M.joinH C H s t)) := by unfold Aside; rw [EC.out.1, EC.out.2.1]; exact repoOwn_set r9 o91 o92
                  obtain ⟨g1, g2, g3⟩ := res_set r9 (.slice xa8 ln8 xc8) (.slice ya8 lh8 yc8)
                  obtain ⟨X, hX⟩ : ∃ X, X = (w9.setCell ⟨R, 0, none⟩ (.slice xa8 ln8 xc8)).setCell ⟨R, 1, none⟩ (.slice ya8 lh8 yc8) := ⟨_, rfl⟩
                  rw [← hX] at g1 HRO
                  have bX : Below w.heap.size w X := by rw [hX]; exact (hb9.setCell (p := ⟨R, 0, none⟩) (by show _ ≤ R; have := HPR.out; omega) _).setCell (p := ⟨R, 1, none⟩) (by show _ ≤ R; have := HPR.out; omega) _
                  have HX9 : Hid (X = (w9.setCell ⟨R, 0, none⟩ (.slice xa8 ln8 xc8)).setCell ⟨R, 1, none⟩ (.slice ya8 lh8 yc8)) := hX
                  have HX0 : Aside (X.cell? ⟨R, 0, none⟩ = some (.slice xa8 ln8 xc8)) := by unfold Aside; rw [cell_of_row _ _ _ _ _ _ g1]; rfl
                  have HX1 : Aside (X.cell? ⟨R, 1, none⟩ = some (.slice ya8 lh8 yc8)) := by unfold Aside; rw [cell_of_row _ _ _ _ _ _ g1]; rfl
                  have x0 : w9.cell? ⟨R, 0, none⟩ = some (.slice none 0 0) := by rw [cell_of_row _ _ _ _ _ _ r9]; rfl
                  have x1 : w9.cell? ⟨R, 1, none⟩ = some (.slice none 0 0) := by rw [cell_of_row _ _ _ _ _ _ r9]; rfl
                  have f0 : w9.frozen? ⟨R, 0, none⟩ = false := frozen_of_row _ _ _ _ _ r9
                  have f1 : w9.frozen? ⟨R, 1, none⟩ = false := frozen_of_row _ _ _ _ _ r9
                  clear g1 g2 g3 hX r9 r8 o91 o92 hqq hln hlh b9 KG
                  go_wp2
                  rw [← HX9.out]
                  have y0 := HX0.out
                  have y1 := HX1.out
                  refine bodyPost_ret (v := .tuple #[.agg #[.slice xa8 ln8 xc8, .slice ya8 lh8 yc8], .slice none 0 0, .int .i64 0]) (by simp [results, Tryz.results52, go_sem, y0, y1]) rfl ?_
                  exact ⟨_, none, 0, 0, ret_three E0.out.symm, HRO.out, by rw [EC.out.2.2]; exact ⟨rfl, Or.inl rfl⟩, Nat.le_refl _, by simp [maxLen], bX⟩
                · have hk7 : kn ≠ 0 := hk0
                  have E7 : Aside (M.joinE C H s t = 7) := by unfold Aside; rw [HAt2.out.1, if_pos hk7]
                  obtain ⟨k1, rfl⟩ : ∃ k1, kn = k1 + 1 := ⟨kn - 1, by omega⟩
                  clear hk0 hk7
                  have HKj : Hid (Ri w7 kb (k1 + 1) (M.joinK C H s t)) := by unfold Hid; rw [HAt2.out.2]; exact HKr.out
                  have EC : Aside (M.joinC C H s t = [] ∧ M.joinH C H s t = [] ∧ M.joinK C H s t = M.joinK C H s t) := ⟨by unfold M.joinC; rw [if_pos (by rw [E7.out]; decide)], by unfold M.joinH; rw [if_pos (by rw [E7.out]; decide)], rfl⟩
                  obtain ⟨g1, g2, g3⟩ := res_set r7 (.slice none 0 0) (.slice none 0 0)
                  obtain ⟨X, hX⟩ : ∃ X, X = (w7.setCell ⟨R, 0, none⟩ (.slice none 0 0)).setCell ⟨R, 1, none⟩ (.slice none 0 0) := ⟨_, rfl⟩
                  have HKX : Hid (Ri X kb (k1 + 1) (M.joinK C H s t)) := by unfold Hid; rw [hX]; exact HKj.out.elsewhere r7 _ _
                  rw [← hX] at g1
                  have bX : Below w.heap.size w X := by rw [hX]; exact (hb7.setCell (p := ⟨R, 0, none⟩) (by show _ ≤ R; have := HPR.out; omega) _).setCell (p := ⟨R, 1, none⟩) (by show _ ≤ R; have := HPR.out; omega) _
                  have gX := g1
                  have HX9 : Hid (X = (w7.setCell ⟨R, 0, none⟩ (.slice none 0 0)).setCell ⟨R, 1, none⟩ (.slice none 0 0)) := hX
                  have HX0 : Aside (X.cell? ⟨R, 0, none⟩ = some (.slice none 0 0)) := by unfold Aside; rw [cell_of_row _ _ _ _ _ _ gX]; rfl
                  have HX1 : Aside (X.cell? ⟨R, 1, none⟩ = some (.slice none 0 0)) := by unfold Aside; rw [cell_of_row _ _ _ _ _ _ gX]; rfl
                  have x0 : w7.cell? ⟨R, 0, none⟩ = some (.slice none 0 0) := by rw [cell_of_row _ _ _ _ _ _ r7]; rfl
                  have x1 : w7.cell? ⟨R, 1, none⟩ = some (.slice none 0 0) := by rw [cell_of_row _ _ _ _ _ _ r7]; rfl
                  have f0 : w7.frozen? ⟨R, 0, none⟩ = false := frozen_of_row _ _ _ _ _ r7
                  have f1 : w7.frozen? ⟨R, 1, none⟩ = false := frozen_of_row _ _ _ _ _ r7
                  clear g1 g2 g3 hX gX r7 
                  go_wp2
                  rw [← HX9.out]
                  have y0 := HX0.out
                  have y1 := HX1.out
                  refine bodyPost_ret (v := .tuple #[.agg #[.slice none 0 0, .slice none 0 0], .slice kb (k1 + 1) kc, .int .i64 7]) (by simp [results, Tryz.results52, go_sem, y0, y1]) rfl ?_
                  refine ⟨_, kb, k1 + 1, kc, ret_three E7.out.symm, ?_, HKX.out, kle, kmx, bX⟩
                  rw [EC.out.1, EC.out.2.1]; exact RepoOwn.none _ _
              · have hEb : (E != 0) = true := by simp [hE0]
                have EE : Aside (M.joinE C H s t = E) := by unfold Aside; rw [HAt.out.1, ← HE.out, if_pos hE0]
                have EC : Aside (M.joinC C H s t = [] ∧ M.joinH C H s t = [] ∧ M.joinK C H s t = []) := ⟨by unfold M.joinC; rw [if_pos (by rw [EE.out]; exact hE0)], by unfold M.joinH; rw [if_pos (by rw [EE.out]; exact hE0)], by rw [HAt.out.2, ← HE.out, if_pos hE0]⟩
                clear hE0
                obtain ⟨g1, g2, g3⟩ := res_set r7 (.slice none 0 0) (.slice none 0 0)
                obtain ⟨X, hX⟩ : ∃ X, X = (w7.setCell ⟨R, 0, none⟩ (.slice none 0 0)).setCell ⟨R, 1, none⟩ (.slice none 0 0) := ⟨_, rfl⟩
                rw [← hX] at g1
                have bX : Below w.heap.size w X := by rw [hX]; exact (hb7.setCell (p := ⟨R, 0, none⟩) (by show _ ≤ R; have := HPR.out; omega) _).setCell (p := ⟨R, 1, none⟩) (by show _ ≤ R; have := HPR.out; omega) _
                have gX := g1
                have HX9 : Hid (X = (w7.setCell ⟨R, 0, none⟩ (.slice none 0 0)).setCell ⟨R, 1, none⟩ (.slice none 0 0)) := hX
                have HX0 : Aside (X.cell? ⟨R, 0, none⟩ = some (.slice none 0 0)) := by unfold Aside; rw [cell_of_row _ _ _ _ _ _ gX]; rfl
                have HX1 : Aside (X.cell? ⟨R, 1, none⟩ = some (.slice none 0 0)) := by unfold Aside; rw [cell_of_row _ _ _ _ _ _ gX]; rfl
                have x0 : w7.cell? ⟨R, 0, none⟩ = some (.slice none 0 0) := by rw [cell_of_row _ _ _ _ _ _ r7]; rfl
                have x1 : w7.cell? ⟨R, 1, none⟩ = some (.slice none 0 0) := by rw [cell_of_row _ _ _ _ _ _ r7]; rfl
                have f0 : w7.frozen? ⟨R, 0, none⟩ = false := frozen_of_row _ _ _ _ _ r7
                have f1 : w7.frozen? ⟨R, 1, none⟩ = false := frozen_of_row _ _ _ _ _ r7
                clear g1 g2 g3 hX gX r7 
                go_wp2
                rw [← HX9.out]
                have y0 := HX0.out
                have y1 := HX1.out
                refine bodyPost_ret (v := .tuple #[.agg #[.slice none 0 0, .slice none 0 0], .slice none 0 0, .int .i64 E]) (by simp [results, Tryz.results52, go_sem, y0, y1]) rfl ?_
                refine ⟨_, none, 0, 0, ret_three EE.out.symm, ?_, ?_, Nat.le_refl _, by simp [maxLen], bX⟩
                · rw [EC.out.1, EC.out.2.1]; exact RepoOwn.none _ _
                · rw [EC.out.2.2]; exact ⟨rfl, Or.inl rfl⟩
    · have hzb : (z2 != 0) = true := by simp [hz20]
      have EE : Aside (M.joinE C H s t = z2) := by unfold Aside; rw [(M.join_other HZ0.out (by rw [← HZ2.out]; exact hz20)).1, HZ2.out]
      have EC : Aside (M.joinC C H s t = [] ∧ M.joinH C H s t = [] ∧ M.joinK C H s t = []) := ⟨by unfold M.joinC; rw [if_pos (by rw [EE.out]; exact hz20)], by unfold M.joinH; rw [if_pos (by rw [EE.out]; exact hz20)], (M.join_other HZ0.out (by rw [← HZ2.out]; exact hz20)).2⟩
      clear hz20 J2
      obtain ⟨g1, g2, g3⟩ := res_set r2 (.slice none 0 0) (.slice none 0 0)
      obtain ⟨X, hX⟩ : ∃ X, X = (w2.setCell ⟨R, 0, none⟩ (.slice none 0 0)).setCell ⟨R, 1, none⟩ (.slice none 0 0) := ⟨_, rfl⟩
      rw [← hX] at g1
      have bX : Below w.heap.size w X := by rw [hX]; exact (hb2.setCell (p := ⟨R, 0, none⟩) (by show _ ≤ R; have := HPR.out; omega) _).setCell (p := ⟨R, 1, none⟩) (by show _ ≤ R; have := HPR.out; omega) _
      have gX := g1
      have HX9 : Hid (X = (w2.setCell ⟨R, 0, none⟩ (.slice none 0 0)).setCell ⟨R, 1, none⟩ (.slice none 0 0)) := hX
      have HX0 : Aside (X.cell? ⟨R, 0, none⟩ = some (.slice none 0 0)) := by unfold Aside; rw [cell_of_row _ _ _ _ _ _ gX]; rfl
      have HX1 : Aside (X.cell? ⟨R, 1, none⟩ = some (.slice none 0 0)) := by unfold Aside; rw [cell_of_row _ _ _ _ _ _ gX]; rfl
      have x0 : w2.cell? ⟨R, 0, none⟩ = some (.slice none 0 0) := by rw [cell_of_row _ _ _ _ _ _ r2]; rfl
      have x1 : w2.cell? ⟨R, 1, none⟩ = some (.slice none 0 0) := by rw [cell_of_row _ _ _ _ _ _ r2]; rfl
      have f0 : w2.frozen? ⟨R, 0, none⟩ = false := frozen_of_row _ _ _ _ _ r2
      have f1 : w2.frozen? ⟨R, 1, none⟩ = false := frozen_of_row _ _ _ _ _ r2
      clear g1 g2 g3 hX gX r2 
      go_wp2
      rw [← HX9.out]
      have y0 := HX0.out
      have y1 := HX1.out
      refine bodyPost_ret (v := .tuple #[.agg #[.slice none 0 0, .slice none 0 0], .slice none 0 0, .int .i64 z2]) (by simp [results, Tryz.results52, go_sem, y0, y1]) rfl ?_
      refine ⟨_, none, 0, 0, ret_three EE.out.symm, ?_, ?_, Nat.le_refl _, by simp [maxLen], bX⟩
      · rw [EC.out.1, EC.out.2.1]; exact RepoOwn.none _ _
      · rw [EC.out.2.2]; exact ⟨rfl, Or.inl rfl⟩
  · have hzb : (z != 0) = true := by simp [hz0]
    have EE : Aside (M.joinE C H s t = z) := by unfold Aside; rw [(M.join_one (by rw [← HZ.out]; exact hz0)).1, HZ.out]
    have EC : Aside (M.joinC C H s t = [] ∧ M.joinH C H s t = [] ∧ M.joinK C H s t = []) := ⟨by unfold M.joinC; rw [if_pos (by rw [EE.out]; exact hz0)], by unfold M.joinH; rw [if_pos (by rw [EE.out]; exact hz0)], (M.join_one (by rw [← HZ.out]; exact hz0)).2⟩
    clear hz0 J1 u1 v1 c0 c1 KH
    obtain ⟨g1, g2, g3⟩ := res_set r1 (.slice none 0 0) (.slice none 0 0)
    obtain ⟨X, hX⟩ : ∃ X, X = (w1.setCell ⟨R, 0, none⟩ (.slice none 0 0)).setCell ⟨R, 1, none⟩ (.slice none 0 0) := ⟨_, rfl⟩
    rw [← hX] at g1
    have bX : Below w.heap.size w X := by rw [hX]; exact (hb1.setCell (p := ⟨R, 0, none⟩) (by show _ ≤ R; have := HPR.out; omega) _).setCell (p := ⟨R, 1, none⟩) (by show _ ≤ R; have := HPR.out; omega) _
    have gX := g1
    have HX9 : Hid (X = (w1.setCell ⟨R, 0, none⟩ (.slice none 0 0)).setCell ⟨R, 1, none⟩ (.slice none 0 0)) := hX
    have HX0 : Aside (X.cell? ⟨R, 0, none⟩ = some (.slice none 0 0)) := by unfold Aside; rw [cell_of_row _ _ _ _ _ _ gX]; rfl
    have HX1 : Aside (X.cell? ⟨R, 1, none⟩ = some (.slice none 0 0)) := by unfold Aside; rw [cell_of_row _ _ _ _ _ _ gX]; rfl
    have x0 : w1.cell? ⟨R, 0, none⟩ = some (.slice none 0 0) := by rw [cell_of_row _ _ _ _ _ _ r1]; rfl
    have x1 : w1.cell? ⟨R, 1, none⟩ = some (.slice none 0 0) := by rw [cell_of_row _ _ _ _ _ _ r1]; rfl
    have f0 : w1.frozen? ⟨R, 0, none⟩ = false := frozen_of_row _ _ _ _ _ r1
    have f1 : w1.frozen? ⟨R, 1, none⟩ = false := frozen_of_row _ _ _ _ _ r1
    clear g1 g2 g3 hX gX r1 
    go_wp2
    rw [← HX9.out]
    have y0 := HX0.out
    have y1 := HX1.out
    refine bodyPost_ret (v := .tuple #[.agg #[.slice none 0 0, .slice none 0 0], .slice none 0 0, .int .i64 z]) (by simp [results, Tryz.results52, go_sem, y0, y1]) rfl ?_
    refine ⟨_, none, 0, 0, ret_three EE.out.symm, ?_, ?_, Nat.le_refl _, by simp [maxLen], bX⟩
    · rw [EC.out.1, EC.out.2.1]; exact RepoOwn.none _ _
    · rw [EC.out.2.2]; exact ⟨rfl, Or.inl rfl⟩
set_option maxRecDepth 100000 in
set_option maxHeartbeats 16000000 in
theorem doOf_any (a : Option Addr) (n cap : Nat) (C : List M.Com) (a2 : Option Addr) (n2 cap2 : Nat) (H : List M.Hd) (x : M.Act) (a3 : Option Addr) (m3 cap3 : Nat) (w : World) (hV : RepoV w a n cap C a2 n2 cap2 H) (hc2 : n2 ≤ cap2) (hcm : cap2 ≤ maxLen) (hrc : Rc w a3 m3 x.chs) (hm3 : m3 ≤ 9223372036854775807) (hss : (M.str x.one).size ≤ 9223372036854775807) :
    Calls Tryz.prog 19 #[.agg #[.slice a n cap, .slice a2 n2 cap2], actV x a3 m3 cap3] w fun e w' => ∃ v, e = .returned (.tuple #[v, .int .i64 (M.doE C H x)]) ∧ RepoOwn w' w.heap.size v (M.doC C H x) (M.doH C H x) ∧ Below w.heap.size w w' := by
  obtain ⟨p, hp⟩ : ∃ p, p = w.heap.size := ⟨_, rfl⟩
  obtain ⟨k, hk⟩ : ∃ k, k = x.kind := ⟨_, rfl⟩
  obtain ⟨s, hs⟩ : ∃ s, s = M.str x.one := ⟨_, rfl⟩
  obtain ⟨t, ht⟩ : ∃ t, t = M.str x.two := ⟨_, rfl⟩
  obtain ⟨d, hd⟩ : ∃ d, d = x.chs := ⟨_, rfl⟩
  obtain ⟨E, hE⟩ : ∃ E, E = M.doE C H x := ⟨_, rfl⟩
  obtain ⟨C', hC'⟩ : ∃ C', C' = M.doC C H x := ⟨_, rfl⟩
  obtain ⟨H', hH'⟩ : ∃ H', H' = M.doH C H x := ⟨_, rfl⟩
  have HEs : Hid (E = (if k = 1 then M.wpE C H s d else if k = 2 then M.brE C H s t else if k = 3 then M.joinE C H s t else if k = 4 then M.dropE C H s else 8) ∧ C' = (if k = 1 then M.wpC C H s d else if k = 2 then M.brC C H s t else if k = 3 then M.joinC C H s t else if k = 4 then M.dropC C H s else []) ∧ H' = (if k = 1 then M.wpH C H s d else if k = 2 then M.brH C H s t else if k = 3 then M.joinH C H s t else if k = 4 then M.dropH C H s else [])) := by
    unfold Hid
    rw [hE, hC', hH', hk, hs, ht, hd]
    exact ⟨rfl, rfl, rfl⟩
  rw [← hd] at hrc
  rw [← hs] at hss
  unfold actV
  rw [← hE, ← hC', ← hH', ← hk, ← hs, ← ht]
  obtain ⟨W, hW⟩ : ∃ W, W = ((w.alloc (.cells #[.slice a n cap, .slice a2 n2 cap2] 35)).alloc (.cells #[.int .i64 k, .string s, .string t, .slice a3 m3 cap3] 30)).alloc (.cells #[.slice none 0 0, .slice none 0 0] 35) := ⟨_, rfl⟩
  obtain ⟨R, hR⟩ : ∃ R, R = p + 1 + 1 := ⟨_, rfl⟩
  have hb : Below w.heap.size w W := by rw [hW]; exact (((Below.refl _ _).alloc (Nat.le_refl _) _).alloc (by simp) _).alloc (by simp; omega) _
  have hsz : W.heap.size = R + 1 := by rw [hW, hR, hp]; simp
  have q2 : W.heap[R]? = some (.cells #[.slice none 0 0, .slice none 0 0] 35 (0, 0)) := by
    rw [hW, show R = ((w.alloc (.cells #[.slice a n cap, .slice a2 n2 cap2] 35)).alloc (.cells #[.int .i64 k, .string s, .string t, .slice a3 m3 cap3] 30)).heap.size by rw [hR, hp]; simp]
    exact heap_alloc_new _ _
  have c0 : W.cell? ⟨p, 0, none⟩ = some (.slice a n cap) := by rw [hW, hp]; simp [go_sem]
  have c1 : W.cell? ⟨p, 1, none⟩ = some (.slice a2 n2 cap2) := by rw [hW, hp]; simp [go_sem]
  have k0 : W.cell? ⟨p + 1, 0, none⟩ = some (.int .i64 k) := by rw [hW, hp]; simp [go_sem]
  have k1 : W.cell? ⟨p + 1, 1, none⟩ = some (.string s) := by rw [hW, hp]; simp [go_sem]
  have k2 : W.cell? ⟨p + 1, 2, none⟩ = some (.string t) := by rw [hW, hp]; simp [go_sem]
  have k3 : W.cell? ⟨p + 1, 3, none⟩ = some (.slice a3 m3 cap3) := by rw [hW, hp]; simp [go_sem]
  have F1 : Hid (Calls Tryz.prog 50 #[.agg #[.slice a n cap, .slice a2 n2 cap2], .string s, .slice a3 m3 cap3] W fun e w' => ∃ v, e = .returned (.tuple #[v, .int .i64 (M.wpE C H s d)]) ∧ RepoOwn w' W.heap.size v (M.wpC C H s d) (M.wpH C H s d) ∧ Below W.heap.size W w') := putTo_any a n cap C a2 n2 cap2 H s a3 m3 cap3 d W (hV.later hb) (hrc.below hb (Nat.le_refl _)) hm3
  have F2 : Hid (Calls Tryz.prog 51 #[.agg #[.slice a n cap, .slice a2 n2 cap2], .string s, .string t] W fun e w' => ∃ v, e = .returned (.tuple #[v, .int .i64 (M.brE C H s t)]) ∧ RepoOwn w' W.heap.size v (M.brC C H s t) (M.brH C H s t) ∧ Below W.heap.size W w') := branchOf_any a n cap C a2 n2 cap2 H s t W (hV.later hb) hss
  have F3 : Hid (Calls Tryz.prog 52 #[.agg #[.slice a n cap, .slice a2 n2 cap2], .string s, .string t] W fun e w' => ∃ v kb kn kc, e = .returned (.tuple #[v, .slice kb kn kc, .int .i64 (M.joinE C H s t)]) ∧ RepoOwn w' W.heap.size v (M.joinC C H s t) (M.joinH C H s t) ∧ Below W.heap.size W w') := (joinOf_any a n cap C a2 n2 cap2 H s t W (hV.later hb)).mono fun e w' ⟨v, kb, kn, kc, h1, h2, _, _, _, h3⟩ => ⟨v, kb, kn, kc, h1, h2, h3⟩
  have F4 : Hid (Calls Tryz.prog 53 #[.agg #[.slice a n cap, .slice a2 n2 cap2], .string s] W fun e w' => ∃ v, e = .returned (.tuple #[v, .int .i64 (M.dropE C H s)]) ∧ RepoOwn w' W.heap.size v (M.dropC C H s) (M.dropH C H s) ∧ Below W.heap.size W w') := dropOf_any a n cap C a2 n2 cap2 H s W (hV.later hb) hc2 hcm
  have HW : Hid (W = ((w.alloc (.cells #[.slice a n cap, .slice a2 n2 cap2] 35)).alloc (.cells #[.int .i64 k, .string s, .string t, .slice a3 m3 cap3] 30)).alloc (.cells #[.slice none 0 0, .slice none 0 0] 35)) := hW
  have HP : Aside (p = w.heap.size) := hp
  have HR : Aside (R = p + 1 + 1) := hR
  have HPR : Aside (w.heap.size ≤ p) := by unfold Aside; omega
  have HSz : Aside (W.heap.size = R + 1) := hsz
  have HQ2 : Hid (W.heap[R]? = some (.cells #[.slice none 0 0, .slice none 0 0] 35 (0, 0))) := q2
  have hpR : p + 1 < R := by omega
  clear hW hp hR hV hrc hss hk hs ht hd hE hC' hH' q2 hsz hc2 hcm
  by_cases h1 : k = 1
  · subst h1
    obtain ⟨E1, hE1⟩ : ∃ E1, E1 = M.wpE C H s d := ⟨_, rfl⟩
    rw [← hE1] at F1
    have HE1 : Aside (E1 = M.wpE C H s d) := hE1
    clear hE1 F2 F3 F4
    have hEE : E = E1 ∧ C' = (M.wpC C H s d) ∧ H' = (M.wpH C H s d) := by
      obtain ⟨h1, h2, h3⟩ := HEs.out
      simp at h1 h2 h3
      exact ⟨h1.trans HE1.out.symm, h2, h3⟩
    have HEE : Hid (E = E1 ∧ C' = (M.wpC C H s d) ∧ H' = (M.wpH C H s d)) := hEE
    clear hEE
    have c0r := c0
    have c1r := c1
    have k0r := k0
    have k1r := k1
    have k2r := k2
    have k3r := k3
    rw [HW.out, HP.out] at c0r c1r k0r k1r k2r k3r
    go_enter Tryz.func19, Tryz.ntmps19
    go_wp2_with fail
    rw [← HW.out, ← HP.out, ← HR.out]
    clear c0r c1r k0r k1r k2r k3r
    refine F1.out.mono ?_
    rintro e w1 ⟨v, rfl, o1, b1⟩
    have hb1 : Below w.heap.size w w1 := hb.trans (b1.mono hb.size)
    have r1 : w1.heap[R]? = some (.cells #[.slice none 0 0, .slice none 0 0] 35 (0, 0)) := (b1.block R (by have := HSz.out; omega)).trans HQ2.out
    obtain ⟨xa8, xc8, ya8, yc8, rfl, _⟩ := o1.v
    generalize hln : (M.wpC C H s d).length = ln8 at *
    generalize hlh : (M.wpH C H s d).length = lh8 at *
    obtain ⟨q1, q2, hqq, o91, o92⟩ := o1
    obtain ⟨rfl, rfl⟩ : q1 = .slice xa8 ln8 xc8 ∧ q2 = .slice ya8 lh8 yc8 := by simp at hqq; exact ⟨hqq.1.symm, hqq.2.symm⟩
    have HRO : Aside (RepoOwn ((w1.setCell ⟨R, 0, none⟩ (.slice xa8 ln8 xc8)).setCell ⟨R, 1, none⟩ (.slice ya8 lh8 yc8)) w.heap.size (.agg #[.slice xa8 ln8 xc8, .slice ya8 lh8 yc8]) C' H') := by unfold Aside; rw [HEE.out.2.1, HEE.out.2.2]; exact (repoOwn_set r1 o91 o92).lower hb.size
    obtain ⟨g1, g2, g3⟩ := res_set r1 (.slice xa8 ln8 xc8) (.slice ya8 lh8 yc8)
    obtain ⟨X, hX⟩ : ∃ X, X = (w1.setCell ⟨R, 0, none⟩ (.slice xa8 ln8 xc8)).setCell ⟨R, 1, none⟩ (.slice ya8 lh8 yc8) := ⟨_, rfl⟩
    rw [← hX] at g1 HRO
    have bX : Below w.heap.size w X := by rw [hX]; exact (hb1.setCell (p := ⟨R, 0, none⟩) (by show _ ≤ R; have := HPR.out; omega) _).setCell (p := ⟨R, 1, none⟩) (by show _ ≤ R; have := HPR.out; omega) _
    have HX9 : Hid (X = (w1.setCell ⟨R, 0, none⟩ (.slice xa8 ln8 xc8)).setCell ⟨R, 1, none⟩ (.slice ya8 lh8 yc8)) := hX
    have HX0 : Aside (X.cell? ⟨R, 0, none⟩ = some (.slice xa8 ln8 xc8)) := by unfold Aside; rw [cell_of_row _ _ _ _ _ _ g1]; rfl
    have HX1 : Aside (X.cell? ⟨R, 1, none⟩ = some (.slice ya8 lh8 yc8)) := by unfold Aside; rw [cell_of_row _ _ _ _ _ _ g1]; rfl
    have x0 : w1.cell? ⟨R, 0, none⟩ = some (.slice none 0 0) := by rw [cell_of_row _ _ _ _ _ _ r1]; rfl
    have x1 : w1.cell? ⟨R, 1, none⟩ = some (.slice none 0 0) := by rw [cell_of_row _ _ _ _ _ _ r1]; rfl
    have f0 : w1.frozen? ⟨R, 0, none⟩ = false := frozen_of_row _ _ _ _ _ r1
    have f1 : w1.frozen? ⟨R, 1, none⟩ = false := frozen_of_row _ _ _ _ _ r1
    clear g1 g2 g3 hX r1 o91 o92 hqq hln hlh b1 c0 c1 k0 k1 k2 k3
    go_wp2
    rw [← HX9.out]
    have y0 := HX0.out
    have y1 := HX1.out
    refine bodyPost_ret (v := .tuple #[.agg #[.slice xa8 ln8 xc8, .slice ya8 lh8 yc8], .int .i64 E1]) (by simp [results, Tryz.results19, go_sem, y0, y1]) rfl ?_
    exact ⟨_, ret_two' HEE.out.1.symm, HRO.out, bX⟩
  have h1b : (k == 1) = false := by simp [h1]
  by_cases h2 : k = 2
  · subst h2
    obtain ⟨E1, hE1⟩ : ∃ E1, E1 = M.brE C H s t := ⟨_, rfl⟩
    rw [← hE1] at F2
    have HE1 : Aside (E1 = M.brE C H s t) := hE1
    clear hE1 F1 F3 F4
    have hEE : E = E1 ∧ C' = (M.brC C H s t) ∧ H' = (M.brH C H s t) := by
      obtain ⟨h1, h2, h3⟩ := HEs.out
      simp at h1 h2 h3
      exact ⟨h1.trans HE1.out.symm, h2, h3⟩
    have HEE : Hid (E = E1 ∧ C' = (M.brC C H s t) ∧ H' = (M.brH C H s t)) := hEE
    clear hEE
    have c0r := c0
    have c1r := c1
    have k0r := k0
    have k1r := k1
    have k2r := k2
    have k3r := k3
    rw [HW.out, HP.out] at c0r c1r k0r k1r k2r k3r
    go_enter Tryz.func19, Tryz.ntmps19
    go_wp2_with fail
    rw [← HW.out, ← HP.out, ← HR.out]
    clear c0r c1r k0r k1r k2r k3r
    refine F2.out.mono ?_
    rintro e w1 ⟨v, rfl, o1, b1⟩
    have hb1 : Below w.heap.size w w1 := hb.trans (b1.mono hb.size)
    have r1 : w1.heap[R]? = some (.cells #[.slice none 0 0, .slice none 0 0] 35 (0, 0)) := (b1.block R (by have := HSz.out; omega)).trans HQ2.out
    obtain ⟨xa8, xc8, ya8, yc8, rfl, _⟩ := o1.v
    generalize hln : (M.brC C H s t).length = ln8 at *
    generalize hlh : (M.brH C H s t).length = lh8 at *
    obtain ⟨q1, q2, hqq, o91, o92⟩ := o1
    obtain ⟨rfl, rfl⟩ : q1 = .slice xa8 ln8 xc8 ∧ q2 = .slice ya8 lh8 yc8 := by simp at hqq; exact ⟨hqq.1.symm, hqq.2.symm⟩
    have HRO : Aside (RepoOwn ((w1.setCell ⟨R, 0, none⟩ (.slice xa8 ln8 xc8)).setCell ⟨R, 1, none⟩ (.slice ya8 lh8 yc8)) w.heap.size (.agg #[.slice xa8 ln8 xc8, .slice ya8 lh8 yc8]) C' H') := by unfold Aside; rw [HEE.out.2.1, HEE.out.2.2]; exact (repoOwn_set r1 o91 o92).lower hb.size
    obtain ⟨g1, g2, g3⟩ := res_set r1 (.slice xa8 ln8 xc8) (.slice ya8 lh8 yc8)
    obtain ⟨X, hX⟩ : ∃ X, X = (w1.setCell ⟨R, 0, none⟩ (.slice xa8 ln8 xc8)).setCell ⟨R, 1, none⟩ (.slice ya8 lh8 yc8) := ⟨_, rfl⟩
    rw [← hX] at g1 HRO
    have bX : Below w.heap.size w X := by rw [hX]; exact (hb1.setCell (p := ⟨R, 0, none⟩) (by show _ ≤ R; have := HPR.out; omega) _).setCell (p := ⟨R, 1, none⟩) (by show _ ≤ R; have := HPR.out; omega) _
    have HX9 : Hid (X = (w1.setCell ⟨R, 0, none⟩ (.slice xa8 ln8 xc8)).setCell ⟨R, 1, none⟩ (.slice ya8 lh8 yc8)) := hX
    have HX0 : Aside (X.cell? ⟨R, 0, none⟩ = some (.slice xa8 ln8 xc8)) := by unfold Aside; rw [cell_of_row _ _ _ _ _ _ g1]; rfl
    have HX1 : Aside (X.cell? ⟨R, 1, none⟩ = some (.slice ya8 lh8 yc8)) := by unfold Aside; rw [cell_of_row _ _ _ _ _ _ g1]; rfl
    have x0 : w1.cell? ⟨R, 0, none⟩ = some (.slice none 0 0) := by rw [cell_of_row _ _ _ _ _ _ r1]; rfl
    have x1 : w1.cell? ⟨R, 1, none⟩ = some (.slice none 0 0) := by rw [cell_of_row _ _ _ _ _ _ r1]; rfl
    have f0 : w1.frozen? ⟨R, 0, none⟩ = false := frozen_of_row _ _ _ _ _ r1
    have f1 : w1.frozen? ⟨R, 1, none⟩ = false := frozen_of_row _ _ _ _ _ r1
    clear g1 g2 g3 hX r1 o91 o92 hqq hln hlh b1 c0 c1 k0 k1 k2 k3
    go_wp2
    rw [← HX9.out]
    have y0 := HX0.out
    have y1 := HX1.out
    refine bodyPost_ret (v := .tuple #[.agg #[.slice xa8 ln8 xc8, .slice ya8 lh8 yc8], .int .i64 E1]) (by simp [results, Tryz.results19, go_sem, y0, y1]) rfl ?_
    exact ⟨_, ret_two' HEE.out.1.symm, HRO.out, bX⟩
  have h2b : (k == 2) = false := by simp [h2]
  by_cases h3 : k = 3
  · subst h3
    obtain ⟨E1, hE1⟩ : ∃ E1, E1 = M.joinE C H s t := ⟨_, rfl⟩
    rw [← hE1] at F3
    have HE1 : Aside (E1 = M.joinE C H s t) := hE1
    clear hE1 F1 F2 F4
    have hEE : E = E1 ∧ C' = (M.joinC C H s t) ∧ H' = (M.joinH C H s t) := by
      obtain ⟨h1, h2, h3⟩ := HEs.out
      simp at h1 h2 h3
      exact ⟨h1.trans HE1.out.symm, h2, h3⟩
    have HEE : Hid (E = E1 ∧ C' = (M.joinC C H s t) ∧ H' = (M.joinH C H s t)) := hEE
    clear hEE
    have c0r := c0
    have c1r := c1
    have k0r := k0
    have k1r := k1
    have k2r := k2
    have k3r := k3
    rw [HW.out, HP.out] at c0r c1r k0r k1r k2r k3r
    go_enter Tryz.func19, Tryz.ntmps19
    go_wp2_with fail
    rw [← HW.out, ← HP.out, ← HR.out]
    clear c0r c1r k0r k1r k2r k3r
    refine F3.out.mono ?_
    rintro e w1 ⟨v, kb, kn, kc, rfl, o1, b1⟩
    have hb1 : Below w.heap.size w w1 := hb.trans (b1.mono hb.size)
    have r1 : w1.heap[R]? = some (.cells #[.slice none 0 0, .slice none 0 0] 35 (0, 0)) := (b1.block R (by have := HSz.out; omega)).trans HQ2.out
    obtain ⟨xa8, xc8, ya8, yc8, rfl, _⟩ := o1.v
    generalize hln : (M.joinC C H s t).length = ln8 at *
    generalize hlh : (M.joinH C H s t).length = lh8 at *
    obtain ⟨q1, q2, hqq, o91, o92⟩ := o1
    obtain ⟨rfl, rfl⟩ : q1 = .slice xa8 ln8 xc8 ∧ q2 = .slice ya8 lh8 yc8 := by simp at hqq; exact ⟨hqq.1.symm, hqq.2.symm⟩
    obtain ⟨W2, hW2⟩ : ∃ W2, W2 = w1.alloc (.cells #[.slice xa8 ln8 xc8, .slice ya8 lh8 yc8] 35) := ⟨_, rfl⟩
    have b2 : Below w1.heap.size w1 W2 := by rw [hW2]; exact (Below.refl _ _).alloc (Nat.le_refl _) _
    have r2 : W2.heap[R]? = some (.cells #[.slice none 0 0, .slice none 0 0] 35 (0, 0)) := (b2.block R (Array.getElem?_eq_some_iff.1 r1).1).trans r1
    have hb2 : Below w.heap.size w W2 := hb1.trans (b2.mono hb1.size)
    have o91 := o91.later b2
    have o92 := o92.later b2
    have HW2 : Hid (W2 = w1.alloc (.cells #[.slice xa8 ln8 xc8, .slice ya8 lh8 yc8] 35)) := hW2
    have HRO : Aside (RepoOwn ((W2.setCell ⟨R, 0, none⟩ (.slice xa8 ln8 xc8)).setCell ⟨R, 1, none⟩ (.slice ya8 lh8 yc8)) w.heap.size (.agg #[.slice xa8 ln8 xc8, .slice ya8 lh8 yc8]) C' H') := by unfold Aside; rw [HEE.out.2.1, HEE.out.2.2]; exact (repoOwn_set r2 o91 o92).lower hb.size
    obtain ⟨g1, g2, g3⟩ := res_set r2 (.slice xa8 ln8 xc8) (.slice ya8 lh8 yc8)
    obtain ⟨X, hX⟩ : ∃ X, X = (W2.setCell ⟨R, 0, none⟩ (.slice xa8 ln8 xc8)).setCell ⟨R, 1, none⟩ (.slice ya8 lh8 yc8) := ⟨_, rfl⟩
    rw [← hX] at g1 HRO
    have bX : Below w.heap.size w X := by rw [hX]; exact (hb2.setCell (p := ⟨R, 0, none⟩) (by show _ ≤ R; have := HPR.out; omega) _).setCell (p := ⟨R, 1, none⟩) (by show _ ≤ R; have := HPR.out; omega) _
    have HX9 : Hid (X = (W2.setCell ⟨R, 0, none⟩ (.slice xa8 ln8 xc8)).setCell ⟨R, 1, none⟩ (.slice ya8 lh8 yc8)) := hX
    have HX0 : Aside (X.cell? ⟨R, 0, none⟩ = some (.slice xa8 ln8 xc8)) := by unfold Aside; rw [cell_of_row _ _ _ _ _ _ g1]; rfl
    have HX1 : Aside (X.cell? ⟨R, 1, none⟩ = some (.slice ya8 lh8 yc8)) := by unfold Aside; rw [cell_of_row _ _ _ _ _ _ g1]; rfl
    have x0 : W2.cell? ⟨R, 0, none⟩ = some (.slice none 0 0) := by rw [cell_of_row _ _ _ _ _ _ r2]; rfl
    have x1 : W2.cell? ⟨R, 1, none⟩ = some (.slice none 0 0) := by rw [cell_of_row _ _ _ _ _ _ r2]; rfl
    have f0 : W2.frozen? ⟨R, 0, none⟩ = false := frozen_of_row _ _ _ _ _ r2
    have f1 : W2.frozen? ⟨R, 1, none⟩ = false := frozen_of_row _ _ _ _ _ r2
    rw [hW2] at x0 x1 f0 f1
    clear g1 g2 g3 hX hW2 r1 r2 o91 o92 hqq hln hlh b1 b2 c0 c1 k0 k1 k2 k3
    go_wp2
    rw [← HW2.out, ← HX9.out]
    have y0 := HX0.out
    have y1 := HX1.out
    refine bodyPost_ret (v := .tuple #[.agg #[.slice xa8 ln8 xc8, .slice ya8 lh8 yc8], .int .i64 E1]) (by simp [results, Tryz.results19, go_sem, y0, y1]) rfl ?_
    exact ⟨_, ret_two' HEE.out.1.symm, HRO.out, bX⟩
  have h3b : (k == 3) = false := by simp [h3]
  by_cases h4 : k = 4
  · subst h4
    obtain ⟨E1, hE1⟩ : ∃ E1, E1 = M.dropE C H s := ⟨_, rfl⟩
    rw [← hE1] at F4
    have HE1 : Aside (E1 = M.dropE C H s) := hE1
    clear hE1 F1 F2 F3
    have hEE : E = E1 ∧ C' = (M.dropC C H s) ∧ H' = (M.dropH C H s) := by
      obtain ⟨h1, h2, h3⟩ := HEs.out
      simp at h1 h2 h3
      exact ⟨h1.trans HE1.out.symm, h2, h3⟩
    have HEE : Hid (E = E1 ∧ C' = (M.dropC C H s) ∧ H' = (M.dropH C H s)) := hEE
    clear hEE
    have c0r := c0
    have c1r := c1
    have k0r := k0
    have k1r := k1
    have k2r := k2
    have k3r := k3
    rw [HW.out, HP.out] at c0r c1r k0r k1r k2r k3r
    go_enter Tryz.func19, Tryz.ntmps19
    go_wp2_with fail
    rw [← HW.out, ← HP.out, ← HR.out]
    clear c0r c1r k0r k1r k2r k3r
    refine F4.out.mono ?_
    rintro e w1 ⟨v, rfl, o1, b1⟩
    have hb1 : Below w.heap.size w w1 := hb.trans (b1.mono hb.size)
    have r1 : w1.heap[R]? = some (.cells #[.slice none 0 0, .slice none 0 0] 35 (0, 0)) := (b1.block R (by have := HSz.out; omega)).trans HQ2.out
    obtain ⟨xa8, xc8, ya8, yc8, rfl, _⟩ := o1.v
    generalize hln : (M.dropC C H s).length = ln8 at *
    generalize hlh : (M.dropH C H s).length = lh8 at *
    obtain ⟨q1, q2, hqq, o91, o92⟩ := o1
    obtain ⟨rfl, rfl⟩ : q1 = .slice xa8 ln8 xc8 ∧ q2 = .slice ya8 lh8 yc8 := by simp at hqq; exact ⟨hqq.1.symm, hqq.2.symm⟩
    have HRO : Aside (RepoOwn ((w1.setCell ⟨R, 0, none⟩ (.slice xa8 ln8 xc8)).setCell ⟨R, 1, none⟩ (.slice ya8 lh8 yc8)) w.heap.size (.agg #[.slice xa8 ln8 xc8, .slice ya8 lh8 yc8]) C' H') := by unfold Aside; rw [HEE.out.2.1, HEE.out.2.2]; exact (repoOwn_set r1 o91 o92).lower hb.size
    obtain ⟨g1, g2, g3⟩ := res_set r1 (.slice xa8 ln8 xc8) (.slice ya8 lh8 yc8)
    obtain ⟨X, hX⟩ : ∃ X, X = (w1.setCell ⟨R, 0, none⟩ (.slice xa8 ln8 xc8)).setCell ⟨R, 1, none⟩ (.slice ya8 lh8 yc8) := ⟨_, rfl⟩
    rw [← hX] at g1 HRO
    have bX : Below w.heap.size w X := by rw [hX]; exact (hb1.setCell (p := ⟨R, 0, none⟩) (by show _ ≤ R; have := HPR.out; omega) _).setCell (p := ⟨R, 1, none⟩) (by show _ ≤ R; have := HPR.out; omega) _
    have HX9 : Hid (X = (w1.setCell ⟨R, 0, none⟩ (.slice xa8 ln8 xc8)).setCell ⟨R, 1, none⟩ (.slice ya8 lh8 yc8)) := hX
    have HX0 : Aside (X.cell? ⟨R, 0, none⟩ = some (.slice xa8 ln8 xc8)) := by unfold Aside; rw [cell_of_row _ _ _ _ _ _ g1]; rfl
    have HX1 : Aside (X.cell? ⟨R, 1, none⟩ = some (.slice ya8 lh8 yc8)) := by unfold Aside; rw [cell_of_row _ _ _ _ _ _ g1]; rfl
    have x0 : w1.cell? ⟨R, 0, none⟩ = some (.slice none 0 0) := by rw [cell_of_row _ _ _ _ _ _ r1]; rfl
    have x1 : w1.cell? ⟨R, 1, none⟩ = some (.slice none 0 0) := by rw [cell_of_row _ _ _ _ _ _ r1]; rfl
    have f0 : w1.frozen? ⟨R, 0, none⟩ = false := frozen_of_row _ _ _ _ _ r1
    have f1 : w1.frozen? ⟨R, 1, none⟩ = false := frozen_of_row _ _ _ _ _ r1
    clear g1 g2 g3 hX r1 o91 o92 hqq hln hlh b1 c0 c1 k0 k1 k2 k3
    go_wp2
    rw [← HX9.out]
    have y0 := HX0.out
    have y1 := HX1.out
    refine bodyPost_ret (v := .tuple #[.agg #[.slice xa8 ln8 xc8, .slice ya8 lh8 yc8], .int .i64 E1]) (by simp [results, Tryz.results19, go_sem, y0, y1]) rfl ?_
    exact ⟨_, ret_two' HEE.out.1.symm, HRO.out, bX⟩
  have h4b : (k == 4) = false := by simp [h4]
  have HEE : Hid (E = 8 ∧ C' = [] ∧ H' = []) := by
    obtain ⟨e1, e2, e3⟩ := HEs.out
    rw [if_neg h1, if_neg h2, if_neg h3, if_neg h4] at e1
    rw [if_neg h1, if_neg h2, if_neg h3, if_neg h4] at e2
    rw [if_neg h1, if_neg h2, if_neg h3, if_neg h4] at e3
    exact ⟨e1, e2, e3⟩
  have r1 := HQ2.out
  have HX0 : Aside (W.cell? ⟨R, 0, none⟩ = some (.slice none 0 0)) := by unfold Aside; rw [cell_of_row _ _ _ _ _ _ r1]; rfl
  have HX1 : Aside (W.cell? ⟨R, 1, none⟩ = some (.slice none 0 0)) := by unfold Aside; rw [cell_of_row _ _ _ _ _ _ r1]; rfl
  rw [HW.out, HP.out] at c0 c1 k0 k1 k2 k3
  clear r1 h1 h2 h3 h4 F1 F2 F3 F4
  go_enter Tryz.func19, Tryz.ntmps19
  go_wp2_with fail
  rw [← HW.out, ← HP.out, ← HR.out]
  have y0 := HX0.out
  have y1 := HX1.out
  rw [← HP.out] at hb
  refine bodyPost_ret (v := .tuple #[.agg #[.slice none 0 0, .slice none 0 0], .int .i64 8]) (by simp [results, Tryz.results19, go_sem, y0, y1]) rfl ?_
  refine ⟨_, ret_two' HEE.out.1.symm, ?_, hb⟩
  rw [HEE.out.2.1, HEE.out.2.2]; exact RepoOwn.none _ _
end Go.Proofs.YtcgpgflnihjpiagGreat
namespace Go.Proofs.YtcgpgflnihjpiagGreat
open Go.RowKit
theorem iret_no {p : Prop} [Decidable p] (h : ¬ p) : Ending.returned (.bool false) = .returned (.bool (decide p)) := by rw [decide_eq_false h]
theorem iret_yes {p : Prop} [Decidable p] (h : p) : Ending.returned (.bool true) = .returned (.bool (decide p)) := by rw [decide_eq_true h]
theorem isame_none (a a2 : Option Addr) (cap cap2 : Nat) (w : World) :
    Calls Tryz.prog 35 #[.slice a 0 cap, .slice a2 0 cap2] w fun e w' => e = .returned (.bool true) ∧ w' = w := by
  go_enter Tryz.func35, Tryz.ntmps35
  go_wp2
  refine wp_loop_rounds 1 ?_
  rw [rounds_succ]
  go_wp2
  go_ret
  exact ⟨rfl, rfl⟩
set_option maxHeartbeats 2000000 in
theorem isame_some (b off b2 off2 n cap cap2 : Nat) (l l2 : List Int) (w : World) (hm : n ≤ 9223372036854775807) (hl : l.length = n) (hl2 : l2.length = n)
    (hc : ∀ i, i < n → w.cell? ⟨b, off + i, none⟩ = some (.int .i64 (l.getD i 0)))
    (hc2 : ∀ i, i < n → w.cell? ⟨b2, off2 + i, none⟩ = some (.int .i64 (l2.getD i 0))) :
    Calls Tryz.prog 35 #[.slice (some ⟨b, off, none⟩) n cap, .slice (some ⟨b2, off2, none⟩) n cap2] w fun e w' => e = .returned (.bool (decide (l = l2))) ∧ ∃ m, w' = w.drewN m := by
  have HC : Aside (∀ i, i < n → w.cell? ⟨b, off + i, none⟩ = some (.int .i64 (l.getD i 0))) := hc
  have HC2 : Aside (∀ i, i < n → w.cell? ⟨b2, off2 + i, none⟩ = some (.int .i64 (l2.getD i 0))) := hc2
  have HL : Aside (l.length = n) := hl
  have HL2 : Aside (l2.length = n) := hl2
  clear hc hl hc2 hl2
  go_enter Tryz.func35, Tryz.ntmps35
  go_wp2
  go_loopg [5] n (fun g i wr => ∃ k m : Nat, k + g = n ∧ i = .int .i64 k ∧ wr = w.drewN m ∧ Aside (l.drop k = l2.drop k ↔ l = l2))
  case atStart => exact ⟨0, 0, by omega, rfl, rfl, by simp [Aside]⟩
  case round =>
    obtain ⟨k, m, hk, rfl, rfl, A⟩ := hrel
    by_cases hlt : k < n
    · obtain ⟨x, hx⟩ : ∃ x, l.getD k 0 = x := ⟨_, rfl⟩
      obtain ⟨y, hy⟩ : ∃ y, l2.getD k 0 = y := ⟨_, rfl⟩
      have c0 : w.cell? ⟨b, off + k, none⟩ = some (.int .i64 x) := by rw [HC.out k hlt, hx]
      have d0 : w.cell? ⟨b2, off2 + k, none⟩ = some (.int .i64 y) := by rw [HC2.out k hlt, hy]
      have ed : (l.drop k = l2.drop k) ↔ x = y ∧ l.drop (k + 1) = l2.drop (k + 1) := by
        rw [M.idrop l k (by rw [HL.out]; exact hlt), M.idrop l2 k (by rw [HL2.out]; exact hlt), List.cons.injEq, hx, hy]
      rw [A.out] at ed
      have ED : Aside (l = l2 ↔ x = y ∧ l.drop (k + 1) = l2.drop (k + 1)) := ed
      clear hx hy ed A
      have hki : (k : Int) < (n : Int) := by omega
      by_cases hxy : x = y
      · have hxb : (x == y) = true := by simp [hxy]
        have A1 : Aside (l.drop (k + 1) = l2.drop (k + 1) ↔ l = l2) := by unfold Aside; rw [ED.out]; simp [hxy]
        clear hxy
        go_wp2_with fail
        go_quiet (fail)
        go_wp2
        go_roundg (gk - 1)
        case measure => omega
        case rel => exact ⟨k + 1, m + nq, by omega, by go_num, rfl, A1⟩
      · have hxb : (x == y) = false := by simp [hxy]
        have A1 : Aside (l ≠ l2) := by unfold Aside; intro e; exact hxy (ED.out.1 e).1
        clear hxy
        go_wp2_with fail
        go_quiet (fail)
        go_wp2
        go_ret
        exact ⟨iret_no A1.out, m + nq, World.drewN_drewN _ _ _⟩
    · go_wp2
      go_ret
      exact ⟨iret_yes (A.out.1 (by rw [List.drop_eq_nil_of_le (by rw [HL.out]; omega), List.drop_eq_nil_of_le (by rw [HL2.out]; omega)])), m, rfl⟩
end Go.Proofs.YtcgpgflnihjpiagGreat
