/- For every text, the law LogRecovers returns true and leaves its argument as it was: Recover answers what the document says of acts that are done one behind the other. No condition. -/
import Derived.Test.YtcgpgflnihjpiafGreatBLogRecovers11
import Derived.Test.YtcgpgflnihjpiafGreatBLogRecovers14
import Derived.Test.YtcgpgflnihjpiafGreatBLogRecovers15
import Derived.Test.YtcgpgflnihjpiafGreatBLogRecovers16
import Derived.Test.YtcgpgflnihjpiafGreatBLogRecovers12
import Derived.Test.YtcgpgflnihjpiafGreatBLogRecovers05
import Derived.Test.YtcgpgflnihjpiafGreatBLogRecovers07
namespace Go.Proofs.YtcgpgflnihjpiafGreat
open Go.RowKit Go.Shelf Go.Maps

set_option maxRecDepth 100000 in
set_option maxHeartbeats 16000000 in
theorem doOf_any (a : Option Addr) (n cap : Nat) (C : List M.Com) (a2 : Option Addr) (n2 cap2 : Nat) (H : List M.Hd) (x : M.Act) (a3 : Option Addr) (m3 cap3 : Nat) (w : World) (hV : RepoV w a n cap C a2 n2 cap2 H) (hc2 : n2 ≤ cap2) (hcm : cap2 ≤ maxLen) (hrc : Rc w a3 m3 x.chs) (hm3 : m3 ≤ 9223372036854775807) (hss : (M.str x.one).size ≤ 9223372036854775807) :
    Calls Tryz.prog 19 #[.agg #[.slice a n cap, .slice a2 n2 cap2], actV x a3 m3 cap3] w fun e w' => ∃ v, e = .returned (.tuple #[v, .int .i64 (M.doE C H x)]) ∧ RepoOwn w' w.heap.size v (M.doC C H x) (M.doH C H x) ∧ Below w.heap.size w w' := by
  obtain ⟨p, hp⟩ : ∃ p, p = w.heap.size := ⟨_, rfl⟩
  obtain ⟨k, hk⟩ : ∃ k, k = x.kind := ⟨_, rfl⟩
  obtain ⟨s, hs⟩ : ∃ s, s = M.str x.one := ⟨_, rfl⟩
  obtain ⟨t, ht⟩ : ∃ t, t = M.str x.two := ⟨_, rfl⟩
  obtain ⟨d, hd⟩ : ∃ d, d = x.chs := ⟨_, rfl⟩
  obtain ⟨E, hE⟩ : ∃ E, E = M.doE C H x := ⟨_, rfl⟩
  obtain ⟨C', hC'⟩ : ∃ C', C' = M.doC C H x := ⟨_, rfl⟩
  obtain ⟨H', hH'⟩ : ∃ H', H' = M.doH C H x := ⟨_, rfl⟩
  have HEs : Hid (E = (if k = 1 then M.wpE C H s d else if k = 2 then M.brE C H s t else if k = 3 then M.joinE C H s t else if k = 4 then M.dropE C H s else 8) ∧ C' = (if k = 1 then M.wpC C H s d else if k = 2 then M.brC C H s t else if k = 3 then M.joinC C H s t else if k = 4 then M.dropC C H s else []) ∧ H' = (if k = 1 then M.wpH C H s d else if k = 2 then M.brH C H s t else if k = 3 then M.joinH C H s t else if k = 4 then M.dropH C H s else [])) := by
    unfold Hid
    rw [hE, hC', hH', hk, hs, ht, hd]
    exact ⟨rfl, rfl, rfl⟩
  rw [← hd] at hrc
  rw [← hs] at hss
  unfold actV
  rw [← hE, ← hC', ← hH', ← hk, ← hs, ← ht]
  obtain ⟨W, hW⟩ : ∃ W, W = ((w.alloc (.cells #[.slice a n cap, .slice a2 n2 cap2] 25)).alloc (.cells #[.int .i64 k, .string s, .string t, .slice a3 m3 cap3] 28)).alloc (.cells #[.slice none 0 0, .slice none 0 0] 25) := ⟨_, rfl⟩
  obtain ⟨R, hR⟩ : ∃ R, R = p + 1 + 1 := ⟨_, rfl⟩
  have hb : Below w.heap.size w W := by rw [hW]; exact (((Below.refl _ _).alloc (Nat.le_refl _) _).alloc (by simp) _).alloc (by simp; omega) _
  have hsz : W.heap.size = R + 1 := by rw [hW, hR, hp]; simp
  have q2 : W.heap[R]? = some (.cells #[.slice none 0 0, .slice none 0 0] 25 (0, 0)) := by
    rw [hW, show R = ((w.alloc (.cells #[.slice a n cap, .slice a2 n2 cap2] 25)).alloc (.cells #[.int .i64 k, .string s, .string t, .slice a3 m3 cap3] 28)).heap.size by rw [hR, hp]; simp]
    exact heap_alloc_new _ _
  have c0 : W.cell? ⟨p, 0, none⟩ = some (.slice a n cap) := by rw [hW, hp]; simp [go_sem]
  have c1 : W.cell? ⟨p, 1, none⟩ = some (.slice a2 n2 cap2) := by rw [hW, hp]; simp [go_sem]
  have k0 : W.cell? ⟨p + 1, 0, none⟩ = some (.int .i64 k) := by rw [hW, hp]; simp [go_sem]
  have k1 : W.cell? ⟨p + 1, 1, none⟩ = some (.string s) := by rw [hW, hp]; simp [go_sem]
  have k2 : W.cell? ⟨p + 1, 2, none⟩ = some (.string t) := by rw [hW, hp]; simp [go_sem]
  have k3 : W.cell? ⟨p + 1, 3, none⟩ = some (.slice a3 m3 cap3) := by rw [hW, hp]; simp [go_sem]
  have F1 : Hid (Calls Tryz.prog 56 #[.agg #[.slice a n cap, .slice a2 n2 cap2], .string s, .slice a3 m3 cap3] W fun e w' => ∃ v, e = .returned (.tuple #[v, .int .i64 (M.wpE C H s d)]) ∧ RepoOwn w' W.heap.size v (M.wpC C H s d) (M.wpH C H s d) ∧ Below W.heap.size W w') := putTo_any a n cap C a2 n2 cap2 H s a3 m3 cap3 d W (hV.later hb) (hrc.below hb (Nat.le_refl _)) hm3
  have F2 : Hid (Calls Tryz.prog 57 #[.agg #[.slice a n cap, .slice a2 n2 cap2], .string s, .string t] W fun e w' => ∃ v, e = .returned (.tuple #[v, .int .i64 (M.brE C H s t)]) ∧ RepoOwn w' W.heap.size v (M.brC C H s t) (M.brH C H s t) ∧ Below W.heap.size W w') := branchOf_any a n cap C a2 n2 cap2 H s t W (hV.later hb) hss
  have F3 : Hid (Calls Tryz.prog 58 #[.agg #[.slice a n cap, .slice a2 n2 cap2], .string s, .string t] W fun e w' => ∃ v kb kn kc, e = .returned (.tuple #[v, .slice kb kn kc, .int .i64 (M.joinE C H s t)]) ∧ RepoOwn w' W.heap.size v (M.joinC C H s t) (M.joinH C H s t) ∧ Below W.heap.size W w') := (joinOf_any a n cap C a2 n2 cap2 H s t W (hV.later hb)).mono fun e w' ⟨v, kb, kn, kc, h1, h2, _, _, _, h3⟩ => ⟨v, kb, kn, kc, h1, h2, h3⟩
  have F4 : Hid (Calls Tryz.prog 59 #[.agg #[.slice a n cap, .slice a2 n2 cap2], .string s] W fun e w' => ∃ v, e = .returned (.tuple #[v, .int .i64 (M.dropE C H s)]) ∧ RepoOwn w' W.heap.size v (M.dropC C H s) (M.dropH C H s) ∧ Below W.heap.size W w') := dropOf_any a n cap C a2 n2 cap2 H s W (hV.later hb) hc2 hcm
  have HW : Hid (W = ((w.alloc (.cells #[.slice a n cap, .slice a2 n2 cap2] 25)).alloc (.cells #[.int .i64 k, .string s, .string t, .slice a3 m3 cap3] 28)).alloc (.cells #[.slice none 0 0, .slice none 0 0] 25)) := hW
  have HP : Aside (p = w.heap.size) := hp
  have HR : Aside (R = p + 1 + 1) := hR
  have HPR : Aside (w.heap.size ≤ p) := by unfold Aside; omega
  have HSz : Aside (W.heap.size = R + 1) := hsz
  have HQ2 : Hid (W.heap[R]? = some (.cells #[.slice none 0 0, .slice none 0 0] 25 (0, 0))) := q2
  have hpR : p + 1 < R := by omega
  clear hW hp hR hV hrc hss hk hs ht hd hE hC' hH' q2 hsz hc2 hcm
  by_cases h1 : k = 1
  · subst h1
    obtain ⟨E1, hE1⟩ : ∃ E1, E1 = M.wpE C H s d := ⟨_, rfl⟩
    rw [← hE1] at F1
    have HE1 : Aside (E1 = M.wpE C H s d) := hE1
    clear hE1 F2 F3 F4
    have hEE : E = E1 ∧ C' = (M.wpC C H s d) ∧ H' = (M.wpH C H s d) := by
      obtain ⟨h1, h2, h3⟩ := HEs.out
      simp at h1 h2 h3
      exact ⟨h1.trans HE1.out.symm, h2, h3⟩
    have HEE : Hid (E = E1 ∧ C' = (M.wpC C H s d) ∧ H' = (M.wpH C H s d)) := hEE
    clear hEE
    have c0r := c0
    have c1r := c1
    have k0r := k0
    have k1r := k1
    have k2r := k2
    have k3r := k3
    rw [HW.out, HP.out] at c0r c1r k0r k1r k2r k3r
    go_enter Tryz.func19, Tryz.ntmps19
    go_wp2_with fail
    rw [← HW.out, ← HP.out, ← HR.out]
    clear c0r c1r k0r k1r k2r k3r
    refine F1.out.mono ?_
    rintro e w1 ⟨v, rfl, o1, b1⟩
    have hb1 : Below w.heap.size w w1 := hb.trans (b1.mono hb.size)
    have r1 : w1.heap[R]? = some (.cells #[.slice none 0 0, .slice none 0 0] 25 (0, 0)) := (b1.block R (by have := HSz.out; omega)).trans HQ2.out
    obtain ⟨xa8, xc8, ya8, yc8, rfl, _⟩ := o1.v
    generalize hln : (M.wpC C H s d).length = ln8 at *
    generalize hlh : (M.wpH C H s d).length = lh8 at *
    obtain ⟨q1, q2, hqq, o91, o92⟩ := o1
    obtain ⟨rfl, rfl⟩ : q1 = .slice xa8 ln8 xc8 ∧ q2 = .slice ya8 lh8 yc8 := by simp at hqq; exact ⟨hqq.1.symm, hqq.2.symm⟩
    have HRO : Aside (RepoOwn ((w1.setCell ⟨R, 0, none⟩ (.slice xa8 ln8 xc8)).setCell ⟨R, 1, none⟩ (.slice ya8 lh8 yc8)) w.heap.size (.agg #[.slice xa8 ln8 xc8, .slice ya8 lh8 yc8]) C' H') := by unfold Aside; rw [HEE.out.2.1, HEE.out.2.2]; exact (repoOwn_set r1 o91 o92).lower hb.size
    obtain ⟨g1, g2, g3⟩ := res_set r1 (.slice xa8 ln8 xc8) (.slice ya8 lh8 yc8)
    obtain ⟨X, hX⟩ : ∃ X, X = (w1.setCell ⟨R, 0, none⟩ (.slice xa8 ln8 xc8)).setCell ⟨R, 1, none⟩ (.slice ya8 lh8 yc8) := ⟨_, rfl⟩
    rw [← hX] at g1 HRO
    have bX : Below w.heap.size w X := by rw [hX]; exact (hb1.setCell (p := ⟨R, 0, none⟩) (by show _ ≤ R; have := HPR.out; omega) _).setCell (p := ⟨R, 1, none⟩) (by show _ ≤ R; have := HPR.out; omega) _
    have HX9 : Hid (X = (w1.setCell ⟨R, 0, none⟩ (.slice xa8 ln8 xc8)).setCell ⟨R, 1, none⟩ (.slice ya8 lh8 yc8)) := hX
    have HX0 : Aside (X.cell? ⟨R, 0, none⟩ = some (.slice xa8 ln8 xc8)) := by unfold Aside; rw [cell_of_row _ _ _ _ _ _ g1]; rfl
    have HX1 : Aside (X.cell? ⟨R, 1, none⟩ = some (.slice ya8 lh8 yc8)) := by unfold Aside; rw [cell_of_row _ _ _ _ _ _ g1]; rfl
    have x0 : w1.cell? ⟨R, 0, none⟩ = some (.slice none 0 0) := by rw [cell_of_row _ _ _ _ _ _ r1]; rfl
    have x1 : w1.cell? ⟨R, 1, none⟩ = some (.slice none 0 0) := by rw [cell_of_row _ _ _ _ _ _ r1]; rfl
    have f0 : w1.frozen? ⟨R, 0, none⟩ = false := frozen_of_row _ _ _ _ _ r1
    have f1 : w1.frozen? ⟨R, 1, none⟩ = false := frozen_of_row _ _ _ _ _ r1
    clear g1 g2 g3 hX r1 o91 o92 hqq hln hlh b1 c0 c1 k0 k1 k2 k3
    go_wp2
    rw [← HX9.out]
    have y0 := HX0.out
    have y1 := HX1.out
    refine bodyPost_ret (v := .tuple #[.agg #[.slice xa8 ln8 xc8, .slice ya8 lh8 yc8], .int .i64 E1]) (by simp [results, Tryz.results19, go_sem, y0, y1]) rfl ?_
    exact ⟨_, ret_two' HEE.out.1.symm, HRO.out, bX⟩
  have h1b : (k == 1) = false := by simp [h1]
  by_cases h2 : k = 2
  · subst h2
    obtain ⟨E1, hE1⟩ : ∃ E1, E1 = M.brE C H s t := ⟨_, rfl⟩
    rw [← hE1] at F2
    have HE1 : Aside (E1 = M.brE C H s t) := hE1
    clear hE1 F1 F3 F4
    have hEE : E = E1 ∧ C' = (M.brC C H s t) ∧ H' = (M.brH C H s t) := by
      obtain ⟨h1, h2, h3⟩ := HEs.out
      simp at h1 h2 h3
      exact ⟨h1.trans HE1.out.symm, h2, h3⟩
    have HEE : Hid (E = E1 ∧ C' = (M.brC C H s t) ∧ H' = (M.brH C H s t)) := hEE
    clear hEE
    have c0r := c0
    have c1r := c1
    have k0r := k0
    have k1r := k1
    have k2r := k2
    have k3r := k3
    rw [HW.out, HP.out] at c0r c1r k0r k1r k2r k3r
    go_enter Tryz.func19, Tryz.ntmps19
    go_wp2_with fail
    rw [← HW.out, ← HP.out, ← HR.out]
    clear c0r c1r k0r k1r k2r k3r
    refine F2.out.mono ?_
    rintro e w1 ⟨v, rfl, o1, b1⟩
    have hb1 : Below w.heap.size w w1 := hb.trans (b1.mono hb.size)
    have r1 : w1.heap[R]? = some (.cells #[.slice none 0 0, .slice none 0 0] 25 (0, 0)) := (b1.block R (by have := HSz.out; omega)).trans HQ2.out
    obtain ⟨xa8, xc8, ya8, yc8, rfl, _⟩ := o1.v
    generalize hln : (M.brC C H s t).length = ln8 at *
    generalize hlh : (M.brH C H s t).length = lh8 at *
    obtain ⟨q1, q2, hqq, o91, o92⟩ := o1
    obtain ⟨rfl, rfl⟩ : q1 = .slice xa8 ln8 xc8 ∧ q2 = .slice ya8 lh8 yc8 := by simp at hqq; exact ⟨hqq.1.symm, hqq.2.symm⟩
    have HRO : Aside (RepoOwn ((w1.setCell ⟨R, 0, none⟩ (.slice xa8 ln8 xc8)).setCell ⟨R, 1, none⟩ (.slice ya8 lh8 yc8)) w.heap.size (.agg #[.slice xa8 ln8 xc8, .slice ya8 lh8 yc8]) C' H') := by unfold Aside; rw [HEE.out.2.1, HEE.out.2.2]; exact (repoOwn_set r1 o91 o92).lower hb.size
    obtain ⟨g1, g2, g3⟩ := res_set r1 (.slice xa8 ln8 xc8) (.slice ya8 lh8 yc8)
    obtain ⟨X, hX⟩ : ∃ X, X = (w1.setCell ⟨R, 0, none⟩ (.slice xa8 ln8 xc8)).setCell ⟨R, 1, none⟩ (.slice ya8 lh8 yc8) := ⟨_, rfl⟩
    rw [← hX] at g1 HRO
    have bX : Below w.heap.size w X := by rw [hX]; exact (hb1.setCell (p := ⟨R, 0, none⟩) (by show _ ≤ R; have := HPR.out; omega) _).setCell (p := ⟨R, 1, none⟩) (by show _ ≤ R; have := HPR.out; omega) _
    have HX9 : Hid (X = (w1.setCell ⟨R, 0, none⟩ (.slice xa8 ln8 xc8)).setCell ⟨R, 1, none⟩ (.slice ya8 lh8 yc8)) := hX
    have HX0 : Aside (X.cell? ⟨R, 0, none⟩ = some (.slice xa8 ln8 xc8)) := by unfold Aside; rw [cell_of_row _ _ _ _ _ _ g1]; rfl
    have HX1 : Aside (X.cell? ⟨R, 1, none⟩ = some (.slice ya8 lh8 yc8)) := by unfold Aside; rw [cell_of_row _ _ _ _ _ _ g1]; rfl
    have x0 : w1.cell? ⟨R, 0, none⟩ = some (.slice none 0 0) := by rw [cell_of_row _ _ _ _ _ _ r1]; rfl
    have x1 : w1.cell? ⟨R, 1, none⟩ = some (.slice none 0 0) := by rw [cell_of_row _ _ _ _ _ _ r1]; rfl
    have f0 : w1.frozen? ⟨R, 0, none⟩ = false := frozen_of_row _ _ _ _ _ r1
    have f1 : w1.frozen? ⟨R, 1, none⟩ = false := frozen_of_row _ _ _ _ _ r1
    clear g1 g2 g3 hX r1 o91 o92 hqq hln hlh b1 c0 c1 k0 k1 k2 k3
    go_wp2
    rw [← HX9.out]
    have y0 := HX0.out
    have y1 := HX1.out
    refine bodyPost_ret (v := .tuple #[.agg #[.slice xa8 ln8 xc8, .slice ya8 lh8 yc8], .int .i64 E1]) (by simp [results, Tryz.results19, go_sem, y0, y1]) rfl ?_
    exact ⟨_, ret_two' HEE.out.1.symm, HRO.out, bX⟩
  have h2b : (k == 2) = false := by simp [h2]
  by_cases h3 : k = 3
  · subst h3
    obtain ⟨E1, hE1⟩ : ∃ E1, E1 = M.joinE C H s t := ⟨_, rfl⟩
    rw [← hE1] at F3
    have HE1 : Aside (E1 = M.joinE C H s t) := hE1
    clear hE1 F1 F2 F4
    have hEE : E = E1 ∧ C' = (M.joinC C H s t) ∧ H' = (M.joinH C H s t) := by
      obtain ⟨h1, h2, h3⟩ := HEs.out
      simp at h1 h2 h3
      exact ⟨h1.trans HE1.out.symm, h2, h3⟩
    have HEE : Hid (E = E1 ∧ C' = (M.joinC C H s t) ∧ H' = (M.joinH C H s t)) := hEE
    clear hEE
    have c0r := c0
    have c1r := c1
    have k0r := k0
    have k1r := k1
    have k2r := k2
    have k3r := k3
    rw [HW.out, HP.out] at c0r c1r k0r k1r k2r k3r
    go_enter Tryz.func19, Tryz.ntmps19
    go_wp2_with fail
    rw [← HW.out, ← HP.out, ← HR.out]
    clear c0r c1r k0r k1r k2r k3r
    refine F3.out.mono ?_
    rintro e w1 ⟨v, kb, kn, kc, rfl, o1, b1⟩
    have hb1 : Below w.heap.size w w1 := hb.trans (b1.mono hb.size)
    have r1 : w1.heap[R]? = some (.cells #[.slice none 0 0, .slice none 0 0] 25 (0, 0)) := (b1.block R (by have := HSz.out; omega)).trans HQ2.out
    obtain ⟨xa8, xc8, ya8, yc8, rfl, _⟩ := o1.v
    generalize hln : (M.joinC C H s t).length = ln8 at *
    generalize hlh : (M.joinH C H s t).length = lh8 at *
    obtain ⟨q1, q2, hqq, o91, o92⟩ := o1
    obtain ⟨rfl, rfl⟩ : q1 = .slice xa8 ln8 xc8 ∧ q2 = .slice ya8 lh8 yc8 := by simp at hqq; exact ⟨hqq.1.symm, hqq.2.symm⟩
    obtain ⟨W2, hW2⟩ : ∃ W2, W2 = w1.alloc (.cells #[.slice xa8 ln8 xc8, .slice ya8 lh8 yc8] 25) := ⟨_, rfl⟩
    have b2 : Below w1.heap.size w1 W2 := by rw [hW2]; exact (Below.refl _ _).alloc (Nat.le_refl _) _
    have r2 : W2.heap[R]? = some (.cells #[.slice none 0 0, .slice none 0 0] 25 (0, 0)) := (b2.block R (Array.getElem?_eq_some_iff.1 r1).1).trans r1
    have hb2 : Below w.heap.size w W2 := hb1.trans (b2.mono hb1.size)
    have o91 := o91.later b2
    have o92 := o92.later b2
    have HW2 : Hid (W2 = w1.alloc (.cells #[.slice xa8 ln8 xc8, .slice ya8 lh8 yc8] 25)) := hW2
    have HRO : Aside (RepoOwn ((W2.setCell ⟨R, 0, none⟩ (.slice xa8 ln8 xc8)).setCell ⟨R, 1, none⟩ (.slice ya8 lh8 yc8)) w.heap.size (.agg #[.slice xa8 ln8 xc8, .slice ya8 lh8 yc8]) C' H') := by unfold Aside; rw [HEE.out.2.1, HEE.out.2.2]; exact (repoOwn_set r2 o91 o92).lower hb.size
    obtain ⟨g1, g2, g3⟩ := res_set r2 (.slice xa8 ln8 xc8) (.slice ya8 lh8 yc8)
    obtain ⟨X, hX⟩ : ∃ X, X = (W2.setCell ⟨R, 0, none⟩ (.slice xa8 ln8 xc8)).setCell ⟨R, 1, none⟩ (.slice ya8 lh8 yc8) := ⟨_, rfl⟩
    rw [← hX] at g1 HRO
    have bX : Below w.heap.size w X := by rw [hX]; exact (hb2.setCell (p := ⟨R, 0, none⟩) (by show _ ≤ R; have := HPR.out; omega) _).setCell (p := ⟨R, 1, none⟩) (by show _ ≤ R; have := HPR.out; omega) _
    have HX9 : Hid (X = (W2.setCell ⟨R, 0, none⟩ (.slice xa8 ln8 xc8)).setCell ⟨R, 1, none⟩ (.slice ya8 lh8 yc8)) := hX
    have HX0 : Aside (X.cell? ⟨R, 0, none⟩ = some (.slice xa8 ln8 xc8)) := by unfold Aside; rw [cell_of_row _ _ _ _ _ _ g1]; rfl
    have HX1 : Aside (X.cell? ⟨R, 1, none⟩ = some (.slice ya8 lh8 yc8)) := by unfold Aside; rw [cell_of_row _ _ _ _ _ _ g1]; rfl
    have x0 : W2.cell? ⟨R, 0, none⟩ = some (.slice none 0 0) := by rw [cell_of_row _ _ _ _ _ _ r2]; rfl
    have x1 : W2.cell? ⟨R, 1, none⟩ = some (.slice none 0 0) := by rw [cell_of_row _ _ _ _ _ _ r2]; rfl
    have f0 : W2.frozen? ⟨R, 0, none⟩ = false := frozen_of_row _ _ _ _ _ r2
    have f1 : W2.frozen? ⟨R, 1, none⟩ = false := frozen_of_row _ _ _ _ _ r2
    rw [hW2] at x0 x1 f0 f1
    clear g1 g2 g3 hX hW2 r1 r2 o91 o92 hqq hln hlh b1 b2 c0 c1 k0 k1 k2 k3
    go_wp2
    rw [← HW2.out, ← HX9.out]
    have y0 := HX0.out
    have y1 := HX1.out
    refine bodyPost_ret (v := .tuple #[.agg #[.slice xa8 ln8 xc8, .slice ya8 lh8 yc8], .int .i64 E1]) (by simp [results, Tryz.results19, go_sem, y0, y1]) rfl ?_
    exact ⟨_, ret_two' HEE.out.1.symm, HRO.out, bX⟩
  have h3b : (k == 3) = false := by simp [h3]
  by_cases h4 : k = 4
  · subst h4
    obtain ⟨E1, hE1⟩ : ∃ E1, E1 = M.dropE C H s := ⟨_, rfl⟩
    rw [← hE1] at F4
    have HE1 : Aside (E1 = M.dropE C H s) := hE1
    clear hE1 F1 F2 F3
    have hEE : E = E1 ∧ C' = (M.dropC C H s) ∧ H' = (M.dropH C H s) := by
      obtain ⟨h1, h2, h3⟩ := HEs.out
      simp at h1 h2 h3
      exact ⟨h1.trans HE1.out.symm, h2, h3⟩
    have HEE : Hid (E = E1 ∧ C' = (M.dropC C H s) ∧ H' = (M.dropH C H s)) := hEE
    clear hEE
    have c0r := c0
    have c1r := c1
    have k0r := k0
    have k1r := k1
    have k2r := k2
    have k3r := k3
    rw [HW.out, HP.out] at c0r c1r k0r k1r k2r k3r
    go_enter Tryz.func19, Tryz.ntmps19
    go_wp2_with fail
    rw [← HW.out, ← HP.out, ← HR.out]
    clear c0r c1r k0r k1r k2r k3r
    refine F4.out.mono ?_
    rintro e w1 ⟨v, rfl, o1, b1⟩
    have hb1 : Below w.heap.size w w1 := hb.trans (b1.mono hb.size)
    have r1 : w1.heap[R]? = some (.cells #[.slice none 0 0, .slice none 0 0] 25 (0, 0)) := (b1.block R (by have := HSz.out; omega)).trans HQ2.out
    obtain ⟨xa8, xc8, ya8, yc8, rfl, _⟩ := o1.v
    generalize hln : (M.dropC C H s).length = ln8 at *
    generalize hlh : (M.dropH C H s).length = lh8 at *
    obtain ⟨q1, q2, hqq, o91, o92⟩ := o1
    obtain ⟨rfl, rfl⟩ : q1 = .slice xa8 ln8 xc8 ∧ q2 = .slice ya8 lh8 yc8 := by simp at hqq; exact ⟨hqq.1.symm, hqq.2.symm⟩
    have HRO : Aside (RepoOwn ((w1.setCell ⟨R, 0, none⟩ (.slice xa8 ln8 xc8)).setCell ⟨R, 1, none⟩ (.slice ya8 lh8 yc8)) w.heap.size (.agg #[.slice xa8 ln8 xc8, .slice ya8 lh8 yc8]) C' H') := by unfold Aside; rw [HEE.out.2.1, HEE.out.2.2]; exact (repoOwn_set r1 o91 o92).lower hb.size
    obtain ⟨g1, g2, g3⟩ := res_set r1 (.slice xa8 ln8 xc8) (.slice ya8 lh8 yc8)
    obtain ⟨X, hX⟩ : ∃ X, X = (w1.setCell ⟨R, 0, none⟩ (.slice xa8 ln8 xc8)).setCell ⟨R, 1, none⟩ (.slice ya8 lh8 yc8) := ⟨_, rfl⟩
    rw [← hX] at g1 HRO
    have bX : Below w.heap.size w X := by rw [hX]; exact (hb1.setCell (p := ⟨R, 0, none⟩) (by show _ ≤ R; have := HPR.out; omega) _).setCell (p := ⟨R, 1, none⟩) (by show _ ≤ R; have := HPR.out; omega) _
    have HX9 : Hid (X = (w1.setCell ⟨R, 0, none⟩ (.slice xa8 ln8 xc8)).setCell ⟨R, 1, none⟩ (.slice ya8 lh8 yc8)) := hX
    have HX0 : Aside (X.cell? ⟨R, 0, none⟩ = some (.slice xa8 ln8 xc8)) := by unfold Aside; rw [cell_of_row _ _ _ _ _ _ g1]; rfl
    have HX1 : Aside (X.cell? ⟨R, 1, none⟩ = some (.slice ya8 lh8 yc8)) := by unfold Aside; rw [cell_of_row _ _ _ _ _ _ g1]; rfl
    have x0 : w1.cell? ⟨R, 0, none⟩ = some (.slice none 0 0) := by rw [cell_of_row _ _ _ _ _ _ r1]; rfl
    have x1 : w1.cell? ⟨R, 1, none⟩ = some (.slice none 0 0) := by rw [cell_of_row _ _ _ _ _ _ r1]; rfl
    have f0 : w1.frozen? ⟨R, 0, none⟩ = false := frozen_of_row _ _ _ _ _ r1
    have f1 : w1.frozen? ⟨R, 1, none⟩ = false := frozen_of_row _ _ _ _ _ r1
    clear g1 g2 g3 hX r1 o91 o92 hqq hln hlh b1 c0 c1 k0 k1 k2 k3
    go_wp2
    rw [← HX9.out]
    have y0 := HX0.out
    have y1 := HX1.out
    refine bodyPost_ret (v := .tuple #[.agg #[.slice xa8 ln8 xc8, .slice ya8 lh8 yc8], .int .i64 E1]) (by simp [results, Tryz.results19, go_sem, y0, y1]) rfl ?_
    exact ⟨_, ret_two' HEE.out.1.symm, HRO.out, bX⟩
  have h4b : (k == 4) = false := by simp [h4]
  have HEE : Hid (E = 8 ∧ C' = [] ∧ H' = []) := by
    obtain ⟨e1, e2, e3⟩ := HEs.out
    rw [if_neg h1, if_neg h2, if_neg h3, if_neg h4] at e1
    rw [if_neg h1, if_neg h2, if_neg h3, if_neg h4] at e2
    rw [if_neg h1, if_neg h2, if_neg h3, if_neg h4] at e3
    exact ⟨e1, e2, e3⟩
  have r1 := HQ2.out
  have HX0 : Aside (W.cell? ⟨R, 0, none⟩ = some (.slice none 0 0)) := by unfold Aside; rw [cell_of_row _ _ _ _ _ _ r1]; rfl
  have HX1 : Aside (W.cell? ⟨R, 1, none⟩ = some (.slice none 0 0)) := by unfold Aside; rw [cell_of_row _ _ _ _ _ _ r1]; rfl
  rw [HW.out, HP.out] at c0 c1 k0 k1 k2 k3
  clear r1 h1 h2 h3 h4 F1 F2 F3 F4
  go_enter Tryz.func19, Tryz.ntmps19
  go_wp2_with fail
  rw [← HW.out, ← HP.out, ← HR.out]
  have y0 := HX0.out
  have y1 := HX1.out
  rw [← HP.out] at hb
  refine bodyPost_ret (v := .tuple #[.agg #[.slice none 0 0, .slice none 0 0], .int .i64 8]) (by simp [results, Tryz.results19, go_sem, y0, y1]) rfl ?_
  refine ⟨_, ret_two' HEE.out.1.symm, ?_, hb⟩
  rw [HEE.out.2.1, HEE.out.2.2]; exact RepoOwn.none _ _
end Go.Proofs.YtcgpgflnihjpiafGreat

/- The reference's DoneOf. -/
namespace Go.Proofs.YtcgpgflnihjpiafGreat
open Go.RowKit Go.Shelf

theorem beginOf_own (w : World) : Calls Tryz.prog 72 #[] w fun e w' => ∃ v, e = .returned v ∧ RepoOwn w' w.heap.size v M.begC M.begH ∧ Below w.heap.size w w' := by
  go_enter Tryz.func72, Tryz.ntmps72
  go_wp2
  refine bodyPost_ret (v := .agg #[.slice (some ⟨w.heap.size + 1, 0, none⟩) 1 1, .slice (some ⟨w.heap.size + 1 + 1, 0, none⟩) 1 1]) (by simp [results, Tryz.results72, go_sem]) rfl ?_
  refine ⟨_, rfl, ⟨_, _, rfl, ⟨[vp0], rfl, ⟨rfl, Or.inr ⟨w.heap.size + 1, 1, #[.slice none 0 0, .slice none 0 0], rfl, by omega, ?_, Nat.le_refl _, by simp [maxLen], rfl, rfl⟩⟩, fun i hi => ?_⟩, ⟨⟨rfl, Or.inr ⟨w.heap.size + 1 + 1, 1, #[.string ⟨#[109, 97, 105, 110]⟩, .int .i64 0], rfl, by omega, ?_, Nat.le_refl _, by simp [maxLen], rfl, rfl⟩⟩, fun x hx => ?_⟩⟩, (((Below.refl _ _).alloc (Nat.le_refl _) _).alloc (by simp) _).alloc (by simp; omega) _⟩
  · rw [Below.heap_alloc _ _ _ (by simp)]
    have := heap_alloc_new (w.alloc (.cells #[.slice (some ⟨w.heap.size + 1, 0, none⟩) 1 1, .slice (some ⟨w.heap.size + 1 + 1, 0, none⟩) 1 1] 25)) (.cells #[.slice none 0 0, .slice none 0 0] 51)
    simpa using this
  · obtain rfl : i = 0 := by simp [M.begC] at hi; omega
    exact ⟨World.ownsRow_nil _ _ _ _, World.ownsRow_nil _ _ _ _, by simp [M.begC], by simp [M.begC]⟩
  · have := heap_alloc_new ((w.alloc (.cells #[.slice (some ⟨w.heap.size + 1, 0, none⟩) 1 1, .slice (some ⟨w.heap.size + 1 + 1, 0, none⟩) 1 1] 25)).alloc (.cells #[.slice none 0 0, .slice none 0 0] 51)) (.cells #[.string ⟨#[109, 97, 105, 110]⟩, .int .i64 0] 71)
    simpa using this
  · obtain rfl : x = (⟨#[109, 97, 105, 110]⟩, 0) := by simpa [M.begH] using hx
    decide

set_option maxRecDepth 100000 in
set_option maxHeartbeats 8000000 in
theorem doneOf_any (va : Option Addr) (n vc : Nat) (xs : List M.Act) (w : World) (hac : Ac w va n xs) (hnn : n ≤ 9223372036854775807) (hok : ∀ x ∈ xs, (M.str x.one).size ≤ 9223372036854775807) :
    Calls Tryz.prog 27 #[.slice va n vc] w fun e w' => ∃ v, e = .returned v ∧ RepoOwn w' w.heap.size v (M.done xs).1 (M.done xs).2 ∧ Below w.heap.size w w' := by
  obtain ⟨R, hR⟩ : ∃ R, R = w.heap.size := ⟨_, rfl⟩
  obtain ⟨W, hW⟩ : ∃ W, W = w.alloc (.cells #[.slice none 0 0, .slice none 0 0] 25) := ⟨_, rfl⟩
  have hb : Below w.heap.size w W := by rw [hW]; exact (Below.refl _ _).alloc (Nat.le_refl _) _
  have q0 : W.heap[R]? = some (.cells #[.slice none 0 0, .slice none 0 0] 25 (0, 0)) := by rw [hW, hR]; exact heap_alloc_new _ _
  have HQ0 : Hid (W.heap[R]? = some (.cells #[.slice none 0 0, .slice none 0 0] 25 (0, 0))) := q0
  have HAc : Hid (Ac W va n xs) := hac.below hb
  have HOk : Hid (∀ x ∈ xs, (M.str x.one).size ≤ 9223372036854775807) := hok
  have HN : Aside (n = xs.length) := hac.1.symm
  have KB : Hid (Calls Tryz.prog 72 #[] W fun e w' => ∃ v, e = .returned v ∧ RepoOwn w' W.heap.size v M.begC M.begH ∧ Below W.heap.size W w') := beginOf_own W
  have HW : Hid (W = w.alloc (.cells #[.slice none 0 0, .slice none 0 0] 25)) := hW
  have HR : Aside (R = w.heap.size) := hR
  clear hW hR q0 hac hok
  go_enter Tryz.func27, Tryz.ntmps27
  go_wp2_with fail
  rw [← HW.out, ← HR.out]
  refine KB.out.mono ?_
  rintro e w2 ⟨v2, rfl, o2, b2⟩
  have o2w : RepoOwn w2 w.heap.size v2 M.begC M.begH := o2.lower hb.size
  obtain ⟨x2, y2, rfl, k2, h2⟩ := o2w
  obtain ⟨xa, xc, rfl, _⟩ := k2.cm
  obtain ⟨ya, yc, rfl, _⟩ := h2.hs
  obtain ⟨D, hD⟩ : ∃ D, D = w2.heap.size := ⟨_, rfl⟩
  obtain ⟨W3, hW3⟩ : ∃ W3, W3 = w2.alloc (.cells #[.slice xa M.begC.length xc, .slice ya M.begH.length yc] 25) := ⟨_, rfl⟩
  have b3 : Below w2.heap.size w2 W3 := by rw [hW3]; exact (Below.refl _ _).alloc (Nat.le_refl _) _
  have hb3 : Below W.heap.size W W3 := b2.trans (b3.mono b2.size)
  have B3 : RBox w D M.begC M.begH W3 := ⟨hb.trans (hb3.mono hb.size), _, _, by rw [hW3, hD]; exact heap_alloc_new _ _, ⟨_, _, rfl, k2.later b3, h2.later b3⟩⟩
  have HB3 : Aside (RBox w D M.begC M.begH W3) := B3
  have HW3 : Hid (W3 = w2.alloc (.cells #[.slice xa M.begC.length xc, .slice ya M.begH.length yc] 25)) := hW3
  have HD : Aside (D = w2.heap.size) := hD
  have r3 : W3.heap[R]? = some (.cells #[.slice none 0 0, .slice none 0 0] 25 (0, 0)) := (hb3.block R (Array.getElem?_eq_some_iff.1 HQ0.out).1).trans HQ0.out
  have HR3 : Hid (W3.heap[R]? = some (.cells #[.slice none 0 0, .slice none 0 0] 25 (0, 0))) := r3
  have hRD : R < D := by rw [hD]; exact Nat.lt_of_lt_of_le (Array.getElem?_eq_some_iff.1 HQ0.out).1 b2.size
  have HB13 : Hid (Below W.heap.size W W3) := hb3
  have HW1D : Hid (W.heap.size ≤ D) := by unfold Hid; rw [hD]; exact b2.size
  have HBW1 : Hid (Below w.heap.size w W) := hb
  clear o2 k2 h2 hW3 hD B3 r3 KB b3 hb3 b2
  go_wp2_with fail
  rw [← HW3.out, ← HD.out]
  go_loopg [4] n (fun g i wr => ∃ k : Nat, k + g = n ∧ i = .int .i64 k ∧ Aside (RBox w D (M.done (xs.take k)).1 (M.done (xs.take k)).2 wr) ∧ (∀ j, j < W3.heap.size → j ≠ D → wr.heap[j]? = W3.heap[j]?) ∧ W3.heap.size ≤ wr.heap.size)
  case atStart => exact ⟨0, by omega, rfl, HB3, fun _ _ _ => rfl, Nat.le_refl _⟩
  case round =>
    obtain ⟨k, hk, rfl, HBk, hkeep, hsz⟩ := hrel
    have HKp : Hid (∀ j, j < W3.heap.size → j ≠ D → wr.heap[j]? = W3.heap[j]?) := hkeep
    clear hkeep
    obtain ⟨Ck, hCk⟩ : ∃ Ck, Ck = (M.done (xs.take k)).1 := ⟨_, rfl⟩
    obtain ⟨Hk, hHk⟩ : ∃ Hk, Hk = (M.done (xs.take k)).2 := ⟨_, rfl⟩
    rw [← hCk, ← hHk] at HBk
    have hDl := HBk.out.lt
    have hbel := HBk.out.bel
    obtain ⟨x4, y4, blk4, o4⟩ := HBk.out.v
    have o4' := o4
    obtain ⟨xa4, xc4, ya4, yc4, e4, V4, hc4, hm4⟩ := o4'.v2
    obtain ⟨rfl, rfl⟩ : x4 = .slice xa4 Ck.length xc4 ∧ y4 = .slice ya4 Hk.length yc4 := by simp at e4; exact e4
    obtain ⟨m, hm⟩ : ∃ m, m = Ck.length := ⟨_, rfl⟩
    obtain ⟨mh, hmh⟩ : ∃ mh, mh = Hk.length := ⟨_, rfl⟩
    rw [← hm, ← hmh] at blk4 V4
    rw [← hmh] at hc4
    have d0 : wr.cell? ⟨D, 0, none⟩ = some (.slice xa4 m xc4) := by rw [cell_of_row _ _ _ _ _ _ blk4]; rfl
    have d1 : wr.cell? ⟨D, 1, none⟩ = some (.slice ya4 mh yc4) := by rw [cell_of_row _ _ _ _ _ _ blk4]; rfl
    by_cases hkn : k < n
    · have hki : (k : Int) < (n : Int) := by omega
      have hkx : k < xs.length := by rw [← HN.out]; exact hkn
      have B1 : Below W.heap.size W wr := ⟨hbel.os.trans HBW1.out.os.symm, hbel.tape.trans HBW1.out.tape.symm, hbel.output.trans HBW1.out.output.symm, Nat.le_trans HB13.out.size hsz, fun j hj => (HKp.out j (Nat.lt_of_lt_of_le hj HB13.out.size) (by have := HW1D.out; omega)).trans (HB13.out.block j hj)⟩
      obtain ⟨_, h0 | ⟨b, off, rfl, hbl, hc⟩⟩ := HAc.out.below B1
      · omega
      obtain ⟨ca, cn, cc, t0, t1, t2, t3, trc, tcn⟩ := hc k hkn
      obtain ⟨x, hx⟩ : ∃ x, x = xs.getD k act0 := ⟨_, rfl⟩
      rw [← hx] at t0 t1 t2 trc
      have hxk : xs[k] = x := by rw [hx]; simp [List.getD, hkx]
      have hokx : (M.str x.one).size ≤ 9223372036854775807 := by rw [← hxk]; exact HOk.out _ (List.getElem_mem hkx)
      have hdn := M.done_take xs k hkx
      rw [hxk, ← hCk, ← hHk] at hdn
      have HDn : Hid (M.done (xs.take (k + 1)) = if M.doE Ck Hk x = 0 then (M.doC Ck Hk x, M.doH Ck Hk x) else M.done (xs.take k)) := hdn
      have HDk : Hid ((M.done (xs.take k)).1 = Ck ∧ (M.done (xs.take k)).2 = Hk) := ⟨hCk.symm, hHk.symm⟩
      obtain ⟨E, hE⟩ : ∃ E, E = M.doE Ck Hk x := ⟨_, rfl⟩
      have KD : Hid (∀ V, Below wr.heap.size wr V → Calls Tryz.prog 19 #[.agg #[.slice xa4 m xc4, .slice ya4 mh yc4], actV x ca cn cc] V fun e w' => ∃ v, e = .returned (.tuple #[v, .int .i64 E]) ∧ RepoOwn w' V.heap.size v (M.doC Ck Hk x) (M.doH Ck Hk x) ∧ Below V.heap.size V w') := fun V hB => by rw [hE]; exact doOf_any xa4 m xc4 Ck ya4 mh yc4 Hk x ca cn cc V (V4.later hB) hc4 hm4 (trc.below hB (Nat.le_refl _)) tcn hokx
      unfold actV at KD
      obtain ⟨kd, hkd⟩ : ∃ kd, kd = x.kind := ⟨_, rfl⟩
      obtain ⟨so, hso⟩ : ∃ so, so = M.str x.one := ⟨_, rfl⟩
      obtain ⟨st, hst⟩ : ∃ st, st = M.str x.two := ⟨_, rfl⟩
      rw [← hkd, ← hso, ← hst] at KD
      rw [← hkd] at t0
      rw [← hso] at t1
      rw [← hst] at t2
      have HE : Aside (E = M.doE Ck Hk x) := hE
      have HSV : Hid (∀ V, Below wr.heap.size wr V → V.cell? ⟨D, 0, none⟩ = some (.slice xa4 m xc4) ∧ V.cell? ⟨D, 1, none⟩ = some (.slice ya4 mh yc4) ∧ V.cell? ⟨b, off + k * 4, none⟩ = some (.int .i64 kd) ∧ V.cell? ⟨b, off + k * 4 + 1, none⟩ = some (.string so) ∧ V.cell? ⟨b, off + k * 4 + 2, none⟩ = some (.string st) ∧ V.cell? ⟨b, off + k * 4 + 3, none⟩ = some (.slice ca cn cc)) := fun V hV => ⟨(hV.cell (p := ⟨D, 0, none⟩) hDl).trans d0, (hV.cell (p := ⟨D, 1, none⟩) hDl).trans d1, (hV.cell (p := ⟨b, off + k * 4, none⟩) hbl).trans t0, (hV.cell (p := ⟨b, off + k * 4 + 1, none⟩) hbl).trans t1, (hV.cell (p := ⟨b, off + k * 4 + 2, none⟩) hbl).trans t2, (hV.cell (p := ⟨b, off + k * 4 + 3, none⟩) hbl).trans t3⟩
      have HBd : Hid (Below wr.heap.size wr wr.drew) := (Below.refl _ _).drew
      have HBlk : Hid (wr.heap[D]? = some (.cells #[.slice xa4 m xc4, .slice ya4 mh yc4] 25 (0, 0))) := blk4
      clear hx hxk hokx hdn hCk hHk hkd hso hst hE V4 hc4 hm4 hm hmh e4 blk4 o4 trc tcn B1 hc d0 d1 t0 t1 t2 t3
      go_wp2_with fail
      refine wp_region_till 11 (fun V => V.cell? ⟨D, 0, none⟩ = some (.slice xa4 m xc4) ∧ V.cell? ⟨D, 1, none⟩ = some (.slice ya4 mh yc4) ∧ V.cell? ⟨b, off + k * 4, none⟩ = some (.int .i64 kd) ∧ V.cell? ⟨b, off + k * 4 + 1, none⟩ = some (.string so) ∧ V.cell? ⟨b, off + k * 4 + 2, none⟩ = some (.string st) ∧ V.cell? ⟨b, off + k * 4 + 3, none⟩ = some (.slice ca cn cc)) (by kernel_rfl) (HSV.out _ HBd.out) (fun hHeld => ?_)
      refine till_take 0 (v := .agg #[.slice xa4 m xc4, .slice ya4 mh yc4]) rfl (by decide) (by kernel_rfl) (by kernel_rfl) (by kernel_rfl) (by kernel_rfl) (by kernel_rfl) (fun _ _ _ h => h) (Or.inl ⟨by rfl, fun V hV => (by obtain ⟨v0, v1, v2, v3, v4, v5⟩ := hV; go_simp)⟩) hHeld ?_
      try simp only [Act.put]
      refine till_go 1 (v := .slice (some ⟨b, off, none⟩) n vc) rfl (by decide) (by kernel_rfl) (by kernel_rfl) (by kernel_rfl) (fun _ _ _ h => h) (Or.inl ⟨by rfl, fun V _ => (by go_simp)⟩) hHeld ?_
      try simp only [Act.put]
      refine till_go 2 (v := .int .i64 (k : Int)) rfl (by decide) (by kernel_rfl) (by kernel_rfl) (by kernel_rfl) (fun _ _ _ h => h) (Or.inl ⟨by rfl, fun V _ => (by go_simp)⟩) hHeld ?_
      try simp only [Act.put]
      refine till_go 3 (v := .pointer (some ⟨b, off + k * 4, none⟩)) rfl (by decide) (by kernel_rfl) (by kernel_rfl) (by kernel_rfl) (fun _ _ _ h => h) (Or.inl ⟨by rfl, fun V _ => (by go_simp)⟩) hHeld ?_
      try simp only [Act.put]
      refine till_take 4 (v := .agg #[.int .i64 kd, .string so, .string st, .slice ca cn cc]) rfl (by decide) (by kernel_rfl) (by kernel_rfl) (by kernel_rfl) (by kernel_rfl) (by kernel_rfl) (fun _ _ _ h => h) (Or.inl ⟨by rfl, fun V hV => (by obtain ⟨v0, v1, v2, v3, v4, v5⟩ := hV; go_simp)⟩) hHeld ?_
      try simp only [Act.put]
      refine till_two 5 9 rfl rfl (by decide) (by decide) (by kernel_rfl) (fun K hK => ?hA) (fun K hK => ?hB)
      case hA =>
        go_simp
        refine (KD.out _ HBd.out).mono ?_
        rintro e w6 ⟨v6, rfl, o6, b6⟩
        have q6 : Below wr.heap.size wr w6 := HBd.out.trans b6
        obtain ⟨q1, q2, rfl, ok6, oh6⟩ := o6
        obtain ⟨xa6, xc6, rfl, _⟩ := ok6.cm
        obtain ⟨ya6, yc6, rfl, _⟩ := oh6.hs
        obtain ⟨m6, hm6⟩ : ∃ m6, m6 = (M.doC Ck Hk x).length := ⟨_, rfl⟩
        obtain ⟨n6, hn6⟩ : ∃ n6, n6 = (M.doH Ck Hk x).length := ⟨_, rfl⟩
        rw [← hm6, ← hn6]
        rw [← hm6] at ok6
        rw [← hn6] at oh6
        clear hm6 hn6
        refine hK.out _ _ (HSV.out _ q6) (fun hHeld => ?_)
        clear hK K
        refine till_go 6 (v := .tuple #[.agg #[.slice xa6 m6 xc6, .slice ya6 n6 yc6], .int .i64 E]) rfl (by decide) (by kernel_rfl) (by kernel_rfl) (by kernel_rfl) (fun _ _ _ h => h) (Or.inl ⟨by rfl, fun V _ => (by go_simp)⟩) hHeld ?_
        try simp only [Act.put]
        refine till_go 7 (v := .agg #[.slice xa6 m6 xc6, .slice ya6 n6 yc6]) rfl (by decide) (by kernel_rfl) (by kernel_rfl) (by kernel_rfl) (fun _ _ _ h => h) (Or.inl ⟨by rfl, fun V _ => (by go_simp)⟩) hHeld ?_
        try simp only [Act.put]
        refine till_go 8 (v := .int .i64 E) rfl (by decide) (by kernel_rfl) (by kernel_rfl) (by kernel_rfl) (fun _ _ _ h => h) (Or.inl ⟨by rfl, fun V _ => (by go_simp)⟩) hHeld ?_
        try simp only [Act.put]
        refine till_step 9 rfl (by decide) (by kernel_rfl) (fun K hK => ?_)
        go_simp
        have p9 : Below wr.heap.size wr (w6.alloc (.cells #[.slice none 0 0, .slice none 0 0] 25)) := q6.alloc q6.size _
        refine hK.out _ _ (HSV.out _ p9) (fun hHeld => ?_)
        clear hK K p9
        obtain ⟨X7, hX7⟩ : ∃ X7, X7 = w6.alloc (.cells #[.slice xa6 m6 xc6, .slice ya6 n6 yc6] 25) := ⟨_, rfl⟩
        have b7 : Below w6.heap.size w6 X7 := by rw [hX7]; exact (Below.refl _ _).alloc (Nat.le_refl _) _
        have q7 : Below wr.heap.size wr X7 := by rw [hX7]; exact q6.alloc q6.size _
        have blkP : X7.heap[w6.heap.size]? = some (.cells #[.slice xa6 m6 xc6, .slice ya6 n6 yc6] 25 (0, 0)) := by rw [hX7]; exact heap_alloc_new _ _
        have OK7 := ok6.later b7
        have OH7 := oh6.later b7
        have HX7 : Hid (X7 = w6.alloc (.cells #[.slice xa6 m6 xc6, .slice ya6 n6 yc6] 25)) := hX7
        clear hX7 b7 ok6 oh6 b6 q6
        refine till_step 10 rfl (by decide) (by kernel_rfl) (fun K hK => ?_)
        go_simp
        rw [← HX7.out]
        refine hK.out _ _ (HSV.out _ q7) (fun hHeld => ?_)
        clear hK K
        refine till_last rfl (by kernel_rfl) (by kernel_rfl) (fun K hK => ?_) _
        go_simp
        refine hK.out _ _ ?_
        clear hK K hHeld
        have HB7 : Aside (RBox w D Ck Hk X7) := HBk.out.later q7
        have blk7 : X7.heap[D]? = some (.cells #[.slice xa4 m xc4, .slice ya4 mh yc4] 25 (0, 0)) := (q7.block D hDl).trans HBlk.out
        have HK7 : Hid (∀ j, j < W3.heap.size → j ≠ D → X7.heap[j]? = W3.heap[j]?) := fun j h1 h2 => (q7.block j (Nat.lt_of_lt_of_le h1 hsz)).trans (HKp.out j h1 h2)
        have hs7 : W3.heap.size ≤ X7.heap.size := Nat.le_trans hsz q7.size
        have hWw : w.heap.size ≤ wr.heap.size := hbel.size
        have y0 : X7.cell? ⟨w6.heap.size, 0, none⟩ = some (.slice xa6 m6 xc6) := by rw [cell_of_row _ _ _ _ _ _ blkP]; rfl
        have y1 : X7.cell? ⟨w6.heap.size, 1, none⟩ = some (.slice ya6 n6 yc6) := by rw [cell_of_row _ _ _ _ _ _ blkP]; rfl
        by_cases hE0 : E = 0
        · subst hE0
          have ok7 := OK7.lower hWw
          have oh7 := OH7.lower hWw
          have HRO := repoOwn_set blk7 ok7 oh7
          obtain ⟨X, hX⟩ : ∃ X, X = (X7.setCell ⟨D, 0, none⟩ (.slice xa6 m6 xc6)).setCell ⟨D, 1, none⟩ (.slice ya6 n6 yc6) := ⟨_, rfl⟩
          obtain ⟨g1, g2, g3⟩ := res_set blk7 (.slice xa6 m6 xc6) (.slice ya6 n6 yc6)
          rw [← hX] at HRO g1 g2 g3
          have HBX : Aside (RBox w D (M.done (xs.take (k + 1))).1 (M.done (xs.take (k + 1))).2 X) := by
            unfold Aside
            rw [HDn.out, if_pos HE.out.symm]
            refine ⟨?_, _, _, g1, HRO⟩
            rw [hX]
            have hwD : w.heap.size ≤ D := by have := HBW1.out.size; have := HW1D.out; omega
            exact (HB7.out.bel.setCell (p := ⟨D, 0, none⟩) hwD _).setCell (p := ⟨D, 1, none⟩) hwD _
          have HKX : Hid (∀ j, j < W3.heap.size → j ≠ D → X.heap[j]? = W3.heap[j]?) := fun j h1 h2 => (g2 j h2).trans (HK7.out j h1 h2)
          have hsX : W3.heap.size ≤ X.heap.size := by rw [g3]; exact hs7
          have HX9 : Hid (X = (X7.setCell ⟨D, 0, none⟩ (.slice xa6 m6 xc6)).setCell ⟨D, 1, none⟩ (.slice ya6 n6 yc6)) := hX
          have x0 : X7.cell? ⟨D, 0, none⟩ = some (.slice xa4 m xc4) := by rw [cell_of_row _ _ _ _ _ _ blk7]; rfl
          have x1 : X7.cell? ⟨D, 1, none⟩ = some (.slice ya4 mh yc4) := by rw [cell_of_row _ _ _ _ _ _ blk7]; rfl
          have f0 : X7.frozen? ⟨D, 0, none⟩ = false := frozen_of_row _ _ _ _ _ blk7
          have f1 : X7.frozen? ⟨D, 1, none⟩ = false := frozen_of_row _ _ _ _ _ blk7
          clear ok7 oh7 OK7 OH7 HRO hX g1 g2 g3 blk7 q7 KD blkP
          go_wp2
          rw [← HX9.out]
          go_roundg (gk - 1)
          case measure => omega
          case rel => exact ⟨k + 1, by omega, by go_num, HBX, HKX.out, hsX⟩
        · have hEb : (E == 0) = false := by simp [hE0]
          have HBX : Aside (RBox w D (M.done (xs.take (k + 1))).1 (M.done (xs.take (k + 1))).2 X7) := by
            unfold Aside
            rw [HDn.out, if_neg (by rw [← HE.out]; exact hE0), HDk.out.1, HDk.out.2]
            exact HB7.out
          clear OK7 OH7 blk7 q7 KD hE0 y0 y1 blkP
          go_wp2
          go_roundg (gk - 1)
          case measure => omega
          case rel => exact ⟨k + 1, by omega, by go_num, HBX, HK7.out, hs7⟩
      case hB =>
        go_simp
        have pb : Below wr.heap.size wr (wr.alloc (.cells #[.slice none 0 0, .slice none 0 0] 25)).drew := ((Below.refl _ _).alloc (Nat.le_refl _) _).drew
        have nb : (wr.alloc (.cells #[.slice none 0 0, .slice none 0 0] 25)).drew.heap[wr.heap.size]? = some (.cells #[.slice none 0 0, .slice none 0 0] 25 (0, 0)) := heap_alloc_new wr _
        refine hK.out _ _ (HSV.out _ pb) (fun hHeld => ?_)
        clear hK K
        refine till_step 5 rfl (by decide) (by kernel_rfl) (fun K hK => ?_)
        go_simp
        refine (KD.out _ pb).mono ?_
        rintro e w6 ⟨v6, rfl, o6, b6⟩
        have q6 : Below wr.heap.size wr w6 := pb.trans (b6.mono pb.size)
        have nb6 : w6.heap[wr.heap.size]? = some (.cells #[.slice none 0 0, .slice none 0 0] 25 (0, 0)) := (b6.block _ (Array.getElem?_eq_some_iff.1 nb).1).trans nb
        obtain ⟨q1, q2, rfl, ok6, oh6⟩ := o6
        obtain ⟨xa6, xc6, rfl, _⟩ := ok6.cm
        obtain ⟨ya6, yc6, rfl, _⟩ := oh6.hs
        obtain ⟨m6, hm6⟩ : ∃ m6, m6 = (M.doC Ck Hk x).length := ⟨_, rfl⟩
        obtain ⟨n6, hn6⟩ : ∃ n6, n6 = (M.doH Ck Hk x).length := ⟨_, rfl⟩
        rw [← hm6, ← hn6]
        rw [← hm6] at ok6
        rw [← hn6] at oh6
        clear hm6 hn6
        refine hK.out _ _ (HSV.out _ q6) (fun hHeld => ?_)
        clear hK K
        refine till_go 6 (v := .tuple #[.agg #[.slice xa6 m6 xc6, .slice ya6 n6 yc6], .int .i64 E]) rfl (by decide) (by kernel_rfl) (by kernel_rfl) (by kernel_rfl) (fun _ _ _ h => h) (Or.inl ⟨by rfl, fun V _ => (by go_simp)⟩) hHeld ?_
        try simp only [Act.put]
        refine till_go 7 (v := .agg #[.slice xa6 m6 xc6, .slice ya6 n6 yc6]) rfl (by decide) (by kernel_rfl) (by kernel_rfl) (by kernel_rfl) (fun _ _ _ h => h) (Or.inl ⟨by rfl, fun V _ => (by go_simp)⟩) hHeld ?_
        try simp only [Act.put]
        refine till_go 8 (v := .int .i64 E) rfl (by decide) (by kernel_rfl) (by kernel_rfl) (by kernel_rfl) (fun _ _ _ h => h) (Or.inl ⟨by rfl, fun V _ => (by go_simp)⟩) hHeld ?_
        try simp only [Act.put]
        obtain ⟨X7, hX7⟩ : ∃ X7, X7 = (w6.setCell ⟨wr.heap.size, 0, none⟩ (.slice xa6 m6 xc6)).setCell ⟨wr.heap.size, 1, none⟩ (.slice ya6 n6 yc6) := ⟨_, rfl⟩
        obtain ⟨blkP, g2, g3⟩ := res_set nb6 (.slice xa6 m6 xc6) (.slice ya6 n6 yc6)
        obtain ⟨c7, e7, hce, OK7, OH7⟩ := repoOwn_set nb6 ok6 oh6
        obtain ⟨rfl, rfl⟩ : c7 = .slice xa6 m6 xc6 ∧ e7 = .slice ya6 n6 yc6 := by simp at hce; exact ⟨hce.1.symm, hce.2.symm⟩
        have OK7 := OK7.lower (Nat.le_of_lt (Nat.lt_of_lt_of_le (Nat.lt_succ_self wr.heap.size) (by simp)))
        have OH7 := OH7.lower (Nat.le_of_lt (Nat.lt_of_lt_of_le (Nat.lt_succ_self wr.heap.size) (by simp)))
        have q7 : Below wr.heap.size wr X7 := by rw [hX7]; exact (q6.setCell (p := ⟨wr.heap.size, 0, none⟩) (Nat.le_refl _) _).setCell (p := ⟨wr.heap.size, 1, none⟩) (Nat.le_refl _) _
        rw [← hX7] at blkP OK7 OH7
        have n0 : w6.cell? ⟨wr.heap.size, 0, none⟩ = some (.slice none 0 0) := by rw [cell_of_row _ _ _ _ _ _ nb6]; rfl
        have n1 : w6.cell? ⟨wr.heap.size, 1, none⟩ = some (.slice none 0 0) := by rw [cell_of_row _ _ _ _ _ _ nb6]; rfl
        have n2 : w6.frozen? ⟨wr.heap.size, 0, none⟩ = false := frozen_of_row _ _ _ _ _ nb6
        have n3 : w6.frozen? ⟨wr.heap.size, 1, none⟩ = false := frozen_of_row _ _ _ _ _ nb6
        have HX7 : Hid (X7 = (w6.setCell ⟨wr.heap.size, 0, none⟩ (.slice xa6 m6 xc6)).setCell ⟨wr.heap.size, 1, none⟩ (.slice ya6 n6 yc6)) := hX7
        clear hX7 ok6 oh6 b6 q6 nb nb6 g2 g3 hce pb
        refine till_step 10 rfl (by decide) (by kernel_rfl) (fun K hK => ?_)
        go_simp
        rw [← HX7.out]
        refine hK.out _ _ (HSV.out _ q7) (fun hHeld => ?_)
        clear hK K n0 n1 n2 n3
        refine till_last rfl (by kernel_rfl) (by kernel_rfl) (fun K hK => ?_) _
        go_simp
        refine hK.out _ _ ?_
        clear hK K hHeld
        have HB7 : Aside (RBox w D Ck Hk X7) := HBk.out.later q7
        have blk7 : X7.heap[D]? = some (.cells #[.slice xa4 m xc4, .slice ya4 mh yc4] 25 (0, 0)) := (q7.block D hDl).trans HBlk.out
        have HK7 : Hid (∀ j, j < W3.heap.size → j ≠ D → X7.heap[j]? = W3.heap[j]?) := fun j h1 h2 => (q7.block j (Nat.lt_of_lt_of_le h1 hsz)).trans (HKp.out j h1 h2)
        have hs7 : W3.heap.size ≤ X7.heap.size := Nat.le_trans hsz q7.size
        have hWw : w.heap.size ≤ wr.heap.size := hbel.size
        have y0 : X7.cell? ⟨wr.heap.size, 0, none⟩ = some (.slice xa6 m6 xc6) := by rw [cell_of_row _ _ _ _ _ _ blkP]; rfl
        have y1 : X7.cell? ⟨wr.heap.size, 1, none⟩ = some (.slice ya6 n6 yc6) := by rw [cell_of_row _ _ _ _ _ _ blkP]; rfl
        by_cases hE0 : E = 0
        · subst hE0
          have ok7 := OK7.lower hWw
          have oh7 := OH7.lower hWw
          have HRO := repoOwn_set blk7 ok7 oh7
          obtain ⟨X, hX⟩ : ∃ X, X = (X7.setCell ⟨D, 0, none⟩ (.slice xa6 m6 xc6)).setCell ⟨D, 1, none⟩ (.slice ya6 n6 yc6) := ⟨_, rfl⟩
          obtain ⟨g1, g2, g3⟩ := res_set blk7 (.slice xa6 m6 xc6) (.slice ya6 n6 yc6)
          rw [← hX] at HRO g1 g2 g3
          have HBX : Aside (RBox w D (M.done (xs.take (k + 1))).1 (M.done (xs.take (k + 1))).2 X) := by
            unfold Aside
            rw [HDn.out, if_pos HE.out.symm]
            refine ⟨?_, _, _, g1, HRO⟩
            rw [hX]
            have hwD : w.heap.size ≤ D := by have := HBW1.out.size; have := HW1D.out; omega
            exact (HB7.out.bel.setCell (p := ⟨D, 0, none⟩) hwD _).setCell (p := ⟨D, 1, none⟩) hwD _
          have HKX : Hid (∀ j, j < W3.heap.size → j ≠ D → X.heap[j]? = W3.heap[j]?) := fun j h1 h2 => (g2 j h2).trans (HK7.out j h1 h2)
          have hsX : W3.heap.size ≤ X.heap.size := by rw [g3]; exact hs7
          have HX9 : Hid (X = (X7.setCell ⟨D, 0, none⟩ (.slice xa6 m6 xc6)).setCell ⟨D, 1, none⟩ (.slice ya6 n6 yc6)) := hX
          have x0 : X7.cell? ⟨D, 0, none⟩ = some (.slice xa4 m xc4) := by rw [cell_of_row _ _ _ _ _ _ blk7]; rfl
          have x1 : X7.cell? ⟨D, 1, none⟩ = some (.slice ya4 mh yc4) := by rw [cell_of_row _ _ _ _ _ _ blk7]; rfl
          have f0 : X7.frozen? ⟨D, 0, none⟩ = false := frozen_of_row _ _ _ _ _ blk7
          have f1 : X7.frozen? ⟨D, 1, none⟩ = false := frozen_of_row _ _ _ _ _ blk7
          clear ok7 oh7 OK7 OH7 HRO hX g1 g2 g3 blk7 q7 KD blkP
          go_wp2
          rw [← HX9.out]
          go_roundg (gk - 1)
          case measure => omega
          case rel => exact ⟨k + 1, by omega, by go_num, HBX, HKX.out, hsX⟩
        · have hEb : (E == 0) = false := by simp [hE0]
          have HBX : Aside (RBox w D (M.done (xs.take (k + 1))).1 (M.done (xs.take (k + 1))).2 X7) := by
            unfold Aside
            rw [HDn.out, if_neg (by rw [← HE.out]; exact hE0), HDk.out.1, HDk.out.2]
            exact HB7.out
          clear OK7 OH7 blk7 q7 KD hE0 y0 y1 blkP
          go_wp2
          go_roundg (gk - 1)
          case measure => omega
          case rel => exact ⟨k + 1, by omega, by go_num, HBX, HK7.out, hs7⟩
    · obtain rfl : k = n := by omega
      have hkk2 : decide ((k : Int) < (k : Int)) = false := by simp
      have eT : xs.take k = xs := List.take_of_length_le (by rw [HN.out]; exact Nat.le_refl _)
      rw [eT] at hCk hHk
      have r9 : wr.heap[R]? = some (.cells #[.slice none 0 0, .slice none 0 0] 25 (0, 0)) := (HKp.out R (Array.getElem?_eq_some_iff.1 HR3.out).1 (by omega)).trans HR3.out
      obtain ⟨q1, q2, hqq, ok4, oh4⟩ := o4
      rw [← hm, ← hmh] at hqq
      obtain ⟨rfl, rfl⟩ : q1 = .slice xa4 m xc4 ∧ q2 = .slice ya4 mh yc4 := by simp at hqq; exact ⟨hqq.1.symm, hqq.2.symm⟩
      have HRO : Aside (RepoOwn ((wr.setCell ⟨R, 0, none⟩ (.slice xa4 m xc4)).setCell ⟨R, 1, none⟩ (.slice ya4 mh yc4)) w.heap.size (.agg #[.slice xa4 m xc4, .slice ya4 mh yc4]) (M.done xs).1 (M.done xs).2) := by unfold Aside; rw [← hCk, ← hHk]; exact repoOwn_set r9 ok4 oh4
      obtain ⟨g1, g2, g3⟩ := res_set r9 (.slice xa4 m xc4) (.slice ya4 mh yc4)
      obtain ⟨X, hX⟩ : ∃ X, X = (wr.setCell ⟨R, 0, none⟩ (.slice xa4 m xc4)).setCell ⟨R, 1, none⟩ (.slice ya4 mh yc4) := ⟨_, rfl⟩
      rw [← hX] at g1 HRO
      have bX : Below w.heap.size w X := by rw [hX]; exact (hbel.setCell (p := ⟨R, 0, none⟩) (by show _ ≤ R; have := HR.out; omega) _).setCell (p := ⟨R, 1, none⟩) (by show _ ≤ R; have := HR.out; omega) _
      have HX9 : Hid (X = (wr.setCell ⟨R, 0, none⟩ (.slice xa4 m xc4)).setCell ⟨R, 1, none⟩ (.slice ya4 mh yc4)) := hX
      have HX0 : Aside (X.cell? ⟨R, 0, none⟩ = some (.slice xa4 m xc4)) := by unfold Aside; rw [cell_of_row _ _ _ _ _ _ g1]; rfl
      have HX1 : Aside (X.cell? ⟨R, 1, none⟩ = some (.slice ya4 mh yc4)) := by unfold Aside; rw [cell_of_row _ _ _ _ _ _ g1]; rfl
      have x0 : wr.cell? ⟨R, 0, none⟩ = some (.slice none 0 0) := by rw [cell_of_row _ _ _ _ _ _ r9]; rfl
      have x1 : wr.cell? ⟨R, 1, none⟩ = some (.slice none 0 0) := by rw [cell_of_row _ _ _ _ _ _ r9]; rfl
      have f0 : wr.frozen? ⟨R, 0, none⟩ = false := frozen_of_row _ _ _ _ _ r9
      have f1 : wr.frozen? ⟨R, 1, none⟩ = false := frozen_of_row _ _ _ _ _ r9
      clear g1 g2 g3 hX r9 blk4 ok4 oh4 hqq V4 hc4 hm4 hCk hHk hm hmh eT e4
      go_wp2
      rw [← HX9.out]
      have y0 := HX0.out
      have y1 := HX1.out
      refine bodyPost_ret (v := .agg #[.slice xa4 m xc4, .slice ya4 mh yc4]) (by simp [results, Tryz.results27, go_sem, y0, y1]) rfl ?_
      exact ⟨_, rfl, HRO.out, bX⟩
end Go.Proofs.YtcgpgflnihjpiafGreat

/- For every text, the law LogRecovers returns true and leaves its argument as it was: Recover answers what the document says of acts that are done one behind the other. No condition. -/
namespace Go.Proofs.YtcgpgflnihjpiafGreat
open Go.ChangeShapes Go.WideShapes Go.ChangeAt Go.RowKit

set_option maxRecDepth 100000 in
set_option maxHeartbeats 16000000 in
theorem logRecovers_walk (t : ByteArray) (w : World) (ht : t.size ≤ 9223372036854775807) :
    Calls Tryz.prog 8 #[.string t] w fun e w' => e = .returned (.bool true) ∧ Below w.heap.size w w' := by
  obtain ⟨l, hl⟩ : ∃ l, l = t.data.toList := ⟨_, rfl⟩
  have htl : M.str l = t := by rw [hl]; exact M.str_self t
  have hsz : t.size = l.length := by rw [← htl, M.str_size]
  have hl63 : l.length ≤ 9223372036854775807 := by omega
  have KC : ∀ V : World, Calls Tryz.prog 26 #[.string (M.str l)] V _ := fun V => recover_any l V hl63
  have KR : ∀ V : World, Calls Tryz.prog 24 #[.string (M.str l)] V _ := fun V => replayOf_any l V hl63
  rw [htl] at KC KR
  by_cases hbig : 4096 < l.length
  case pos =>
    have HKC : Hid (∀ V : World, Calls Tryz.prog 26 #[.string t] V fun e w' => e = .returned (.tuple #[.agg #[.slice none 0 0, .slice none 0 0], .int .i64 0, .int .i64 2]) ∧ Below V.heap.size V w') := fun V => by
      refine (KC V).mono ?_
      rintro e w' ⟨hb, ⟨_, rfl⟩ | ⟨h, _⟩⟩
      · exact ⟨rfl, hb⟩
      · omega
    have HKR : Hid (∀ V : World, Calls Tryz.prog 24 #[.string t] V fun e w' => e = .returned (.tuple #[.slice none 0 0, .int .i64 0, .int .i64 2]) ∧ Below V.heap.size V w') := fun V => by
      refine (KR V).mono ?_
      rintro e w' ⟨hb, ⟨_, rfl⟩ | ⟨h, _⟩⟩
      · exact ⟨rfl, hb⟩
      · omega
    clear KC KR hl htl hsz hl63 hbig
    go_enter Tryz.func8, Tryz.ntmps8
    go_wp2_with fail
    refine (HKC.out w).mono ?_
    rintro e w1 ⟨rfl, b1⟩
    obtain ⟨X1, hX1⟩ : ∃ X, X = w1.alloc (.cells #[.slice none 0 0, .slice none 0 0] 25) := ⟨_, rfl⟩
    obtain ⟨p1, hp1⟩ : ∃ p, p = w1.heap.size := ⟨_, rfl⟩
    have bX1 : Below w1.heap.size w1 X1 := by rw [hX1]; exact (Below.refl _ _).alloc (Nat.le_refl _) _
    have c1 := dbelow2 b1 bX1
    have hX10 : X1.heap[p1]? = some (.cells #[.slice none 0 0, .slice none 0 0] 25 (0, 0)) := by rw [hX1, hp1]; exact heap_alloc_new _ _
    have HB1 : Hid (∀ V, Below X1.heap.size X1 V → V.heap[p1]? = some (.cells #[.slice none 0 0, .slice none 0 0] 25 (0, 0))) := fun V hV => (hV.block p1 (Array.getElem?_eq_some_iff.1 hX10).1).trans hX10
    have HX1 : Hid (X1 = w1.alloc (.cells #[.slice none 0 0, .slice none 0 0] 25)) := hX1
    have HP1 : Aside (p1 = w1.heap.size) := hp1
    clear hX1 hp1 bX1 b1 hX10
    go_wp2_with fail
    rw [← HX1.out, ← HP1.out]
    refine (HKR.out X1).mono ?_
    rintro e w2 ⟨rfl, b2⟩
    obtain ⟨X2, hX2⟩ : ∃ X, X = w2.alloc (.cells #[.slice none 0 0, .slice none 0 0] 25) := ⟨_, rfl⟩
    obtain ⟨p2, hp2⟩ : ∃ p, p = w2.heap.size := ⟨_, rfl⟩
    have bX2 : Below w2.heap.size w2 X2 := by rw [hX2]; exact (Below.refl _ _).alloc (Nat.le_refl _) _
    have c2 := dbelow2 b2 bX2
    have hX20 : X2.heap[p2]? = some (.cells #[.slice none 0 0, .slice none 0 0] 25 (0, 0)) := by rw [hX2, hp2]; exact heap_alloc_new _ _
    have HX2 : Hid (X2 = w2.alloc (.cells #[.slice none 0 0, .slice none 0 0] 25)) := hX2
    have HP2 : Aside (p2 = w2.heap.size) := hp2
    have HB2 : Hid (∀ V, Below X2.heap.size X2 V → V.heap[p2]? = some (.cells #[.slice none 0 0, .slice none 0 0] 25 (0, 0))) := fun V hV => (hV.block p2 (Array.getElem?_eq_some_iff.1 hX20).1).trans hX20
    clear hX2 hp2 bX2 b2 hX20
    go_wp2_with fail
    rw [← HX2.out, ← HP2.out]
    refine (lbegun_any X2).mono ?_
    rintro e y1 ⟨rfl, z1⟩
    have k1 := HB1.out y1 (dbelow2 c2 z1)
    have k2 := HB2.out y1 z1
    have g0 : y1.cell? ⟨p1, 0, none⟩ = some (.slice none 0 0) := by rw [cell_of_row _ _ _ _ _ _ k1]; rfl
    have g1 : y1.cell? ⟨p1, 1, none⟩ = some (.slice none 0 0) := by rw [cell_of_row _ _ _ _ _ _ k1]; rfl
    have i0 : y1.cell? ⟨p2, 0, none⟩ = some (.slice none 0 0) := by rw [cell_of_row _ _ _ _ _ _ k2]; rfl
    have i1 : y1.cell? ⟨p2, 1, none⟩ = some (.slice none 0 0) := by rw [cell_of_row _ _ _ _ _ _ k2]; rfl
    have KS : Hid (Calls Tryz.prog 12 #[.agg #[.slice none 0 0, .slice none 0 0], .agg #[.slice none 0 0, .slice none 0 0]] y1 fun e w' => e = .returned (.bool true) ∧ Below y1.heap.size y1 w') := srepos_yes none none 0 0 0 [] none none 0 0 0 [] y1 ⟨rfl, Or.inl rfl⟩ ⟨rfl, Or.inl rfl⟩ (by omega) ⟨rfl, Or.inl rfl⟩ ⟨rfl, Or.inl rfl⟩ (by omega)
    have c3 : Below w.heap.size w y1 := dbelow2 c1 (dbelow2 c2 z1)
    clear k1 k2 z1
    go_wp2_with fail
    refine KS.out.mono ?_
    rintro e y2 ⟨rfl, z2⟩
    have bZ := dbelow2 c3 z2
    clear z2 g0 g1 i0 i1 KS
    go_wp2
    go_ret
    exact ⟨rfl, bZ⟩
  obtain ⟨xs, hxs⟩ : ∃ xs, xs = (M.rAs 60 l).1 := ⟨_, rfl⟩
  obtain ⟨m, hm⟩ : ∃ m, m = xs.length := ⟨_, rfl⟩
  have hm60 : m ≤ 60 := by rw [hm, hxs]; exact (M.rAs_len 60 l).1
  have hoks := M.rAs_ok 60 l
  rw [← hxs] at hoks
  obtain ⟨un, hun⟩ : ∃ un, un = (M.done xs).1.length := ⟨_, rfl⟩
  obtain ⟨uh, huh⟩ : ∃ uh, uh = (M.done xs).2.length := ⟨_, rfl⟩
  obtain ⟨bt, hbt⟩ : ∃ bt, bt = l.length - (M.rAs 60 l).2.length := ⟨_, rfl⟩
  have HKC : Hid (∀ V : World, Calls Tryz.prog 26 #[.string t] V fun e w' => ∃ a c b d, e = .returned (.tuple #[.agg #[.slice a un c, .slice b uh d], .int .i64 (m : Int), .int .i64 0]) ∧ RepoV w' a un c (M.done xs).1 b uh d (M.done xs).2 ∧ Below V.heap.size V w') := fun V => by
    refine (KC V).mono ?_
    rintro e w' ⟨hb, ⟨h, _⟩ | ⟨_, v, rfl, ho⟩⟩
    · omega
    · rw [← hxs] at ho ⊢
      obtain ⟨a, c, b, d, rfl, V4⟩ := ho.v
      rw [← hun, ← huh] at V4 ⊢
      exact ⟨a, c, b, d, by rw [hm], V4, hb⟩
  have HKR : Hid (∀ V : World, Calls Tryz.prog 24 #[.string t] V fun e w' => ∃ a c, e = .returned (.tuple #[.slice a m c, .int .i64 (bt : Int), .int .i64 0]) ∧ Ac w' a m xs ∧ Below V.heap.size V w') := fun V => by
    refine (KR V).mono ?_
    rintro e w' ⟨hb, ⟨h, _⟩ | ⟨_, v, rfl, ho⟩⟩
    · omega
    · rw [← hxs] at ho
      obtain ⟨a, c, rfl, h1, _⟩ := ho.ac
      rw [← hm] at h1 ⊢
      rw [← hbt]
      exact ⟨a, c, rfl, h1, hb⟩
  have HKD : Hid (∀ (V : World) (a : Option Addr) (c : Nat), Ac V a m xs → Calls Tryz.prog 27 #[.slice a m c] V fun e w' => ∃ x cx y cy, e = .returned (.agg #[.slice x un cx, .slice y uh cy]) ∧ OwnK w' V.heap.size (.slice x un cx) (M.done xs).1 ∧ OwnH w' V.heap.size (.slice y uh cy) (M.done xs).2 ∧ Below V.heap.size V w') := fun V a c hA => by
    refine (doneOf_any a m c xs V hA (by omega) (fun x hx => M.okA_size (hoks x hx))).mono ?_
    rintro e w' ⟨v, rfl, ⟨x, y, rfl, ok, oh⟩, hb⟩
    obtain ⟨xa, xc, rfl, _⟩ := ok.cm
    obtain ⟨ya, yc, rfl, _⟩ := oh.hs
    rw [← hun] at ok ⊢
    rw [← huh] at oh ⊢
    exact ⟨_, _, _, _, rfl, ok, oh, hb⟩
  have HRV : Hid (∀ (V : World) (base : Nat) (x y : Option Addr) (cx cy : Nat), RepoOwn V base (.agg #[.slice x un cx, .slice y uh cy]) (M.done xs).1 (M.done xs).2 → RepoV V x un cx (M.done xs).1 y uh cy (M.done xs).2) := fun V base x y cx cy h => by
    obtain ⟨a, c, b, d, e, V4⟩ := h.v
    rw [← hun, ← huh] at e V4
    simp at e
    obtain ⟨⟨rfl, rfl⟩, rfl, rfl⟩ := e
    exact V4
  clear KC KR hl htl hsz hl63 hbig hxs hm hun huh hoks hbt
  go_enter Tryz.func8, Tryz.ntmps8
  go_wp2_with fail
  refine (HKC.out w).mono ?_
  rintro e w1 ⟨ra, rc, rb, rd, rfl, V1, b1⟩
  obtain ⟨X1, hX1⟩ : ∃ X, X = w1.alloc (.cells #[.slice ra un rc, .slice rb uh rd] 25) := ⟨_, rfl⟩
  obtain ⟨p1, hp1⟩ : ∃ p, p = w1.heap.size := ⟨_, rfl⟩
  have bX1 : Below w1.heap.size w1 X1 := by rw [hX1]; exact (Below.refl _ _).alloc (Nat.le_refl _) _
  have c1 := dbelow2 b1 bX1
  have HB1 : Hid (KBox X1 p1 ra un rc (M.done xs).1 rb uh rd (M.done xs).2) := by rw [hX1, hp1]; exact KBox.new V1
  have HX1 : Hid (X1 = w1.alloc (.cells #[.slice ra un rc, .slice rb uh rd] 25)) := hX1
  have HP1 : Aside (p1 = w1.heap.size) := hp1
  clear hX1 hp1 bX1 b1 V1
  go_wp2_with fail
  rw [← HX1.out, ← HP1.out]
  refine (HKR.out X1).mono ?_
  rintro e w2 ⟨la, lc, rfl, hA2, b2⟩
  obtain ⟨X2, hX2⟩ : ∃ X, X = w2.alloc (.cells #[.slice none 0 0, .slice none 0 0] 25) := ⟨_, rfl⟩
  obtain ⟨p2, hp2⟩ : ∃ p, p = w2.heap.size := ⟨_, rfl⟩
  have bX2 : Below w2.heap.size w2 X2 := by rw [hX2]; exact (Below.refl _ _).alloc (Nat.le_refl _) _
  have c2 := dbelow2 b2 bX2
  have hX20 : X2.heap[p2]? = some (.cells #[.slice none 0 0, .slice none 0 0] 25 (0, 0)) := by rw [hX2, hp2]; exact heap_alloc_new _ _
  have HX2 : Hid (X2 = w2.alloc (.cells #[.slice none 0 0, .slice none 0 0] 25)) := hX2
  have HP2 : Aside (p2 = w2.heap.size) := hp2
  have HB2 : Hid (X2.heap[p2]? = some (.cells #[.slice none 0 0, .slice none 0 0] 25 (0, 0))) := hX20
  have HA2 : Hid (Ac X2 la m xs) := hA2.below bX2
  have hp12 : X1.heap.size ≤ p2 := by rw [hp2]; exact b2.size
  clear hX2 hp2 bX2 b2 hX20 hA2
  go_wp2_with fail
  rw [← HX2.out, ← HP2.out]
  refine (HKD.out X2 la lc HA2.out).mono ?_
  rintro e w3 ⟨x, cx, y, cy, rfl, ok3, oh3, b3⟩
  have blk3 : w3.heap[p2]? = some (.cells #[.slice none 0 0, .slice none 0 0] 25 (0, 0)) := (b3.block p2 (Array.getElem?_eq_some_iff.1 HB2.out).1).trans HB2.out
  have RO := repoOwn_set blk3 ok3 oh3
  obtain ⟨g1, g2, g3⟩ := res_set blk3 (.slice x un cx) (.slice y uh cy)
  have c3 : Below X1.heap.size X1 w3 := dbelow2 c2 b3
  have c4 : Below X1.heap.size X1 ((w3.setCell ⟨p2, 0, none⟩ (.slice x un cx)).setCell ⟨p2, 1, none⟩ (.slice y uh cy)) := (c3.setCell (p := ⟨p2, 0, none⟩) hp12 _).setCell (p := ⟨p2, 1, none⟩) hp12 _
  obtain ⟨X3, hX3⟩ : ∃ X, X = (w3.setCell ⟨p2, 0, none⟩ (.slice x un cx)).setCell ⟨p2, 1, none⟩ (.slice y uh cy) := ⟨_, rfl⟩
  rw [← hX3] at RO g1 g2 g3 c4
  have HX3 : Hid (X3 = (w3.setCell ⟨p2, 0, none⟩ (.slice x un cx)).setCell ⟨p2, 1, none⟩ (.slice y uh cy)) := hX3
  have f0 : w3.frozen? ⟨p2, 0, none⟩ = false := frozen_of_row _ _ _ _ _ blk3
  have f1 : w3.frozen? ⟨p2, 1, none⟩ = false := frozen_of_row _ _ _ _ _ blk3
  have e0 : w3.cell? ⟨p2, 0, none⟩ = some (.slice none 0 0) := by rw [cell_of_row _ _ _ _ _ _ blk3]; rfl
  have e1 : w3.cell? ⟨p2, 1, none⟩ = some (.slice none 0 0) := by rw [cell_of_row _ _ _ _ _ _ blk3]; rfl
  have HV3 : Hid (RepoV X3 x un cx (M.done xs).1 y uh cy (M.done xs).2) := HRV.out X3 _ x y cx cy RO
  have HG1 : Hid (∀ V, Below X3.heap.size X3 V → V.heap[p2]? = some (.cells #[.slice x un cx, .slice y uh cy] 25 (0, 0))) := fun V hV => (hV.block p2 (Array.getElem?_eq_some_iff.1 g1).1).trans g1
  clear blk3 RO g1 g2 g3 c3 hX3 ok3 oh3 b3 HA2
  go_wp2_with fail
  rw [← HX3.out]
  refine (lbegun_any X3).mono ?_
  rintro e y1 ⟨rfl, z1⟩
  clear f0 f1 e0 e1
  have kb := HB1.out.later (dbelow2 c4 z1)
  have kc := HG1.out y1 z1
  have v3 := HV3.out.later z1
  have g0 := kb.c0
  have g1 := kb.c1
  have i0 : y1.cell? ⟨p2, 0, none⟩ = some (.slice x un cx) := by rw [cell_of_row _ _ _ _ _ _ kc]; rfl
  have i1 : y1.cell? ⟨p2, 1, none⟩ = some (.slice y uh cy) := by rw [cell_of_row _ _ _ _ _ _ kc]; rfl
  have KS : Hid (Calls Tryz.prog 12 #[.agg #[.slice ra un rc, .slice rb uh rd], .agg #[.slice x un cx, .slice y uh cy]] y1 fun e w' => e = .returned (.bool true) ∧ Below y1.heap.size y1 w') := srepos_yes ra x un rc cx _ rb y uh rd cy _ y1 kb.v.cm v3.cm kb.v.nm kb.v.hs v3.hs kb.v.hm
  have c5 : Below w.heap.size w y1 := dbelow2 c1 (dbelow2 c4 z1)
  clear kb kc v3 z1
  go_wp2_with fail
  refine KS.out.mono ?_
  rintro e y2 ⟨rfl, z2⟩
  have bZ := dbelow2 c5 z2
  clear z2 g0 g1 i0 i1 KS
  go_wp2
  go_ret
  exact ⟨rfl, bZ⟩
set_option maxRecDepth 100000 in
theorem logRecovers_lifted (os : Os) (started : os.Started) (H : Type) (enc : TypeId × Value → H) :
    ReturnsInHanded {} Tryz.checked os 8 .any (Rows.logRecoversSpec.pre6 enc Tryz.prog Tryz.f8 Rows.logRecoversRow.domain false) (Rows.logRecoversSpec.post enc Tryz.prog Tryz.f8 false true false false) := by
  refine returnsInHanded_of_change (C := Tryz.checked) ownTry started (by kernel_rfl) Tryz.func8
    (ChangeSpec.witness6 (enc := enc) (C := Tryz.checked) false ⟨#[], #[.string ⟨#[]⟩], []⟩ 8 (by kernel_rfl) (by kernel_rfl) (by kernel_rfl) (by kernel_rfl)) ?_
  intro W base args ds gs before hval0 hW hcnd _
  have hval : ∀ (j : Nat) t v, Tryz.f8.params[j]? = some t → args[j]? = some v → Value.okWide Tryz.prog W .any base t v := hval0
  have hW' := hW
  obtain ⟨p, q, hA0, hV, rfl, hfz, hnd⟩ := hW
  have hA : DataW.TrodAll enc Tryz.prog W 0 (fun _ => true) true Tryz.f8.params.toList args.toList ds p := hA0
  rw [Tryz.params8] at hA hval
  obtain ⟨v0, vs0, d0, ds0, p0, q0, hargs, rfl, rfl, h0, r0⟩ := trodAll_cons hA
  obtain ⟨rfl, rfl, rfl⟩ := trodAll_nil r0
  obtain rfl : args = #[v0] := by cases args; simp_all
  obtain ⟨rfl, rfl⟩ := trodVars_none hV
  obtain ⟨s0, rfl, rfl, rfl, hs0⟩ := Go.ChangeMaps.open_string Tryz.underlying9 (hval 0 9 v0 rfl rfl) h0
  clear hA0 hval0
  refine (logRecovers_walk s0 W (by have := hs0; unfold maxLen at this; omega)).mono fun e W' ⟨he, bel⟩ => ?_
  subst he
  exact ⟨_, rfl, _, _, _, [], _, [], hW', trodAll_mk1 (shut_bool Tryz.underlying4 _), (trodAll_cons_mk (Go.ChangeMaps.shut_string Tryz.underlying9 hs0) trodAll_mk0), rfl, bel.frame _, fun h => by cases h⟩

theorem logRecovers_holds : Rows.LogRecoversSaid :=
  OpenClaim.holds_of_wide 8 Tryz.f8 rfl rfl rfl rfl rfl rfl rfl ⟨rfl, rfl, rfl, rfl, rfl⟩ rfl rfl rfl rfl rfl (by kernel_rfl) Tryz.func8 (by kernel_rfl)
    (of_decide_eq_true (by kernel_rfl)) (by unfold Func.isWrapper; first | (rw [if_pos (by decide +kernel)]; kernel_rfl) | (rw [if_neg (by decide +kernel)]; exact ⟨rfl, rfl⟩))
    (fun os started H enc _ => logRecovers_lifted os started H enc)
#print axioms logRecovers_holds
end Go.Proofs.YtcgpgflnihjpiafGreat
