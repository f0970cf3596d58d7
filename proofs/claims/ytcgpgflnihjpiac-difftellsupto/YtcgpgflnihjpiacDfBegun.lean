/- What must be in any case of differences: the law's begun. -/
import Derived.Test.YtcgpgflnihjpiacDiff3
namespace Go.Proofs.Ytcgpgflnihjpiac
open Go.RowKit

def dB : List (Int × Int) := [(2, 6), (8, 1), (9, 30)]
def dL : List M.Chg := [(2, 5, 6), (7, 0, -1), (8, -1, 1)]
def bL : List M.Chg := [(2, 6, 5), (7, -1, 0), (8, 1, -1)]
theorem rc_three (w : World) (a b c d e f g h i : Int) : Rc (w.alloc (.cells #[.int .i64 a, .int .i64 b, .int .i64 c, .int .i64 d, .int .i64 e, .int .i64 f, .int .i64 g, .int .i64 h, .int .i64 i] 50)) (some ⟨w.heap.size, 0, none⟩) 3 [(a, b, c), (d, e, f), (g, h, i)] := by
  refine ⟨rfl, Or.inr ⟨w.heap.size, 0, rfl, by simp, fun i hi => ?_⟩⟩
  match i, hi with
  | 0, _ => refine ⟨?_, ?_, ?_⟩ <;> simp [go_sem]
  | 1, _ => refine ⟨?_, ?_, ?_⟩ <;> simp [go_sem]
  | 2, _ => refine ⟨?_, ?_, ?_⟩ <;> simp [go_sem]
theorem few_ok : M.chk fewL = 0 := by decide +kernel
theorem dB_ok : M.chk dB = 0 := by decide +kernel
theorem sl3 {w : World} {b : Nat} {l : List (Int × Int)} (h : Rd w (some ⟨b, 0, none⟩) 3 l) : Sl w (some ⟨b, 0, none⟩) 3 3 l := ⟨h, by omega, by simp [maxLen], by simp⟩
theorem b_of (a1 a2 : Option Addr) (n1 n2 c1 c2 : Nat) (w : World) (h1 : TvS w a1 n1 c1 (M.build fewL)) (h2 : TvS w a2 n2 c2 (M.build dB)) :
    Calls Try.prog 19 #[.slice a1 n1 c1, .slice a2 n2 c2] w fun e w' => HandsC w w' dL 0 e := by
  have f := dof_any a1 a2 n1 n2 c1 c2 _ _ w h1 (build_big _ few_ok) h2 (build_big _ dB_ok)
  rwa [(difV_built few_ok dB_ok).1, (difV_built few_ok dB_ok).2, show M.dif fewL dB = dL by decide +kernel] at f
theorem b_patch1 (b : Nat) (a : Option Addr) (c : Nat) (w : World) (h1 : Rd w (some ⟨b, 0, none⟩) 3 fewL) (h2 : Rc w a 3 dL) :
    Calls Try.prog 23 #[.slice (some ⟨b, 0, none⟩) 3 3, .slice a 3 c] w fun e w' => Hands w w' dB 0 e := by
  have f := patch_any (some ⟨b, 0, none⟩) 3 3 fewL a 3 c dL w h1 (by omega) (by simp) h2 (by omega)
  rwa [show M.patchV fewL dL = dB by decide +kernel, show M.patchE fewL dL = 0 by decide +kernel] at f
theorem b_patch2 (b : Nat) (a : Option Addr) (c : Nat) (w : World) (h1 : Rd w (some ⟨b, 0, none⟩) 3 fewL) (h2 : Rc w a 3 bL) :
    Calls Try.prog 23 #[.slice (some ⟨b, 0, none⟩) 3 3, .slice a 3 c] w fun e w' => Hands w w' [] 7 e := by
  have f := patch_any (some ⟨b, 0, none⟩) 3 3 fewL a 3 c bL w h1 (by omega) (by simp) h2 (by omega)
  rwa [show M.patchV fewL bL = [] by decide +kernel, show M.patchE fewL bL = 7 by decide +kernel] at f
theorem b_back1 (a : Option Addr) (c : Nat) (w : World) (h2 : Rc w a 3 dL) :
    Calls Try.prog 24 #[.slice a 3 c] w fun e w' => HandsC w w' bL 0 e := by
  have f := back_any a 3 c dL w h2 (by omega)
  rwa [show M.backV dL = bL by decide +kernel, show M.backE dL = 0 by decide +kernel] at f
theorem b_back2 (a : Option Addr) (c : Nat) (w : World) (h2 : Rc w a 1 [(1, 2, 2)]) :
    Calls Try.prog 24 #[.slice a 1 c] w fun e w' => HandsC w w' [] 1 e := by
  have f := back_any a 1 c [(1, 2, 2)] w h2 (by omega)
  rwa [show M.backV [(1, 2, 2)] = [] by decide +kernel, show M.backE [(1, 2, 2)] = 1 by decide +kernel] at f

set_option maxHeartbeats 8000000 in
theorem diffBegun_any (w : World) : Calls Try.prog 21 #[] w fun e w' => e = .returned (.bool true) ∧ Below w.heap.size w w' := by
  go_enter Try.func21, Try.ntmps21
  go_wp2_with fail
  refine (fewL_any _).mono ?_
  rintro e w1 ⟨rfl, r, c1⟩
  have RF : Hid (Rd w1 (some ⟨w.heap.size, 0, none⟩) 3 fewL) := r
  clear r
  go_wp2_with fail
  refine (built _ _ _ _ _ (sl3 RF.out) few_ok).mono ?_
  rintro e w2 ⟨ta, tn, tc, rfl, t, ba⟩
  obtain ⟨V3, hV3⟩ : ∃ V3, V3 = w2.alloc (.cells #[.int .i64 2, .int .i64 6, .int .i64 8, .int .i64 1, .int .i64 9, .int .i64 30] 56) := ⟨_, rfl⟩
  have d3 : Below w2.heap.size w2 V3 := by rw [hV3]; exact (Below.refl _ _).alloc (Nat.le_refl _) _
  have RB : Hid (Rd V3 (some ⟨w2.heap.size, 0, none⟩) 3 dB) := by rw [hV3]; exact rd_three w2 2 6 8 1 9 30
  have T3 : Hid (TvS V3 ta tn tc (M.build fewL)) := t.below d3
  have c3 := below2 c1 (below2 ba d3)
  have HV3 : Hid (V3 = w2.alloc (.cells #[.int .i64 2, .int .i64 6, .int .i64 8, .int .i64 1, .int .i64 9, .int .i64 30] 56)) := hV3
  clear RF t ba c1 d3 hV3
  go_wp2_with fail
  rw [← HV3.out]
  refine (built _ _ _ _ _ (sl3 RB.out) dB_ok).mono ?_
  rintro e w4 ⟨ua, un, uc, rfl, t, ba⟩
  have U4 : Hid (TvS w4 ua un uc (M.build dB)) := t
  have T4 : Hid (TvS w4 ta tn tc (M.build fewL)) := T3.out.below ba
  have c4 := below2 c3 ba
  clear t ba T3 RB HV3 c3
  go_wp2_with fail
  refine (b_of _ _ _ _ _ _ _ T4.out U4.out).mono ?_
  rintro e w5 ⟨da, dn, dc, rfl, r, _, _, ba⟩
  obtain rfl : dn = 3 := r.1.symm
  have D5 : Hid (Rc w5 da 3 dL) := r
  have c5 := below2 c4 ba
  clear r ba T4 U4 c4
  go_wp2_with fail
  refine (fewL_any _).mono ?_
  rintro e w6 ⟨rfl, r, ba⟩
  have RF : Hid (Rd w6 (some ⟨w5.heap.size, 0, none⟩) 3 fewL) := r
  have D6 : Hid (Rc w6 da 3 dL) := D5.out.below ba (Nat.le_refl _)
  have c6 := below2 c5 ba
  clear r ba D5 c5
  go_wp2_with fail
  refine (b_patch1 _ _ _ _ RF.out D6.out).mono ?_
  rintro e w7 ⟨xa, xn, xc, rfl, r, _, _, _, ba⟩
  obtain rfl : xn = 3 := r.1.symm
  have X7 : Hid (Rd w7 xa 3 dB) := r
  have D7 : Hid (Rc w7 da 3 dL) := D6.out.below ba (Nat.le_refl _)
  have c7 := below2 c6 ba
  clear r ba D6 RF c6
  go_wp2_with fail
  refine (b_back1 _ _ _ D7.out).mono ?_
  rintro e w8 ⟨ya, yn, yc, rfl, r, _, _, ba⟩
  obtain rfl : yn = 3 := r.1.symm
  have Y8 : Hid (Rc w8 ya 3 bL) := r
  have D8 : Hid (Rc w8 da 3 dL) := D7.out.below ba (Nat.le_refl _)
  have X8 : Hid (Rd w8 xa 3 dB) := X7.out.below ba (Nat.le_refl _)
  have c8 := below2 c7 ba
  clear r ba D7 X7 c7
  go_wp2_with fail
  refine (fewL_any _).mono ?_
  rintro e w9 ⟨rfl, r, ba⟩
  have RF : Hid (Rd w9 (some ⟨w8.heap.size, 0, none⟩) 3 fewL) := r
  have D9 : Hid (Rc w9 da 3 dL) := D8.out.below ba (Nat.le_refl _)
  have X9 : Hid (Rd w9 xa 3 dB) := X8.out.below ba (Nat.le_refl _)
  have Y9 : Hid (Rc w9 ya 3 bL) := Y8.out.below ba (Nat.le_refl _)
  have c9 := below2 c8 ba
  clear r ba D8 X8 Y8 c8
  go_wp2_with fail
  refine (b_patch2 _ _ _ _ RF.out Y9.out).mono ?_
  rintro e wa ⟨za, zn, zc, rfl, r, _, _, _, ba⟩
  obtain ⟨Vb, hVb⟩ : ∃ Vb, Vb = wa.alloc (.cells #[.int .i64 1, .int .i64 2, .int .i64 2] 50) := ⟨_, rfl⟩
  have db : Below wa.heap.size wa Vb := by rw [hVb]; exact (Below.refl _ _).alloc (Nat.le_refl _) _
  have RN : Hid (Rc Vb (some ⟨wa.heap.size, 0, none⟩) 1 [(1, 2, 2)]) := by rw [hVb]; exact ⟨rfl, Or.inr ⟨wa.heap.size, 0, rfl, by simp, rc_one wa 1 2 2⟩⟩
  have eb := below2 ba db
  have Db : Hid (Rc Vb da 3 dL) := D9.out.below eb (Nat.le_refl _)
  have Xb : Hid (Rd Vb xa 3 dB) := X9.out.below eb (Nat.le_refl _)
  have Yb : Hid (Rc Vb ya 3 bL) := Y9.out.below eb (Nat.le_refl _)
  have cb := below2 c9 eb
  have HVb : Hid (Vb = wa.alloc (.cells #[.int .i64 1, .int .i64 2, .int .i64 2] 50)) := hVb
  clear r ba db eb hVb D9 X9 Y9 RF c9
  go_wp2_with fail
  rw [← HVb.out]
  refine (b_back2 _ _ _ RN.out).mono ?_
  rintro e wc ⟨qa, qn, qc, rfl, r, _, _, ba⟩
  obtain ⟨Vd, hVd⟩ : ∃ Vd, Vd = wc.alloc (.cells #[.int .i64 2, .int .i64 5, .int .i64 6, .int .i64 7, .int .i64 0, .int .i64 (-1), .int .i64 8, .int .i64 (-1), .int .i64 1] 50) := ⟨_, rfl⟩
  have dd : Below wc.heap.size wc Vd := by rw [hVd]; exact (Below.refl _ _).alloc (Nat.le_refl _) _
  have RL : Hid (Rc Vd (some ⟨wc.heap.size, 0, none⟩) 3 dL) := by rw [hVd]; exact rc_three wc 2 5 6 7 0 (-1) 8 (-1) 1
  have ed := below2 ba dd
  have Dd : Hid (Rc Vd da 3 dL) := Db.out.below ed (Nat.le_refl _)
  have Xd : Hid (Rd Vd xa 3 dB) := Xb.out.below ed (Nat.le_refl _)
  have Yd : Hid (Rc Vd ya 3 bL) := Yb.out.below ed (Nat.le_refl _)
  have cd := below2 cb ed
  have HVd : Hid (Vd = wc.alloc (.cells #[.int .i64 2, .int .i64 5, .int .i64 6, .int .i64 7, .int .i64 0, .int .i64 (-1), .int .i64 8, .int .i64 (-1), .int .i64 1] 50)) := hVd
  clear r ba dd ed hVd Db Xb Yb RN HVb cb
  go_wp2_with fail
  rw [← HVd.out]
  refine (csame_any _ _ 3 3 _ _ _ _ _ Dd.out RL.out (by omega)).mono ?_
  rintro e we ⟨rfl, ba⟩
  have Xe : Rd we xa 3 dB := Xd.out.below ba (Nat.le_refl _)
  have Ye : Rc we ya 3 bL := Yd.out.below ba (Nat.le_refl _)
  have ce := below2 cd ba
  obtain ⟨xb, xo, rfl, hxB, hxc⟩ : ∃ b off, xa = some ⟨b, off, none⟩ ∧ b < we.heap.size ∧ ∀ i, i < 3 → we.cell? ⟨b, off + i * 2, none⟩ = some (.int .i64 (dB.getD i (0, 0)).1) ∧ we.cell? ⟨b, off + i * 2 + 1, none⟩ = some (.int .i64 (dB.getD i (0, 0)).2) := by
    rcases Xe.cases with ⟨h0, _⟩ | ⟨b, off, e, _, _, hB, hc⟩
    · omega
    · exact ⟨b, off, e, hB, hc⟩
  obtain ⟨yb, yo, rfl, hyB, hyc⟩ : ∃ b off, ya = some ⟨b, off, none⟩ ∧ b < we.heap.size ∧ ∀ i, i < 3 → we.cell? ⟨b, off + i * 3, none⟩ = some (.int .i64 (bL.getD i (0, 0, 0)).1) ∧ we.cell? ⟨b, off + i * 3 + 1, none⟩ = some (.int .i64 (bL.getD i (0, 0, 0)).2.1) ∧ we.cell? ⟨b, off + i * 3 + 2, none⟩ = some (.int .i64 (bL.getD i (0, 0, 0)).2.2) := by
    rcases Ye.cases with ⟨h0, _⟩ | ⟨b, off, e, _, _, hB, hc⟩
    · omega
    · exact ⟨b, off, e, hB, hc⟩
  have x1 : we.cell? ⟨xb, xo + 2, none⟩ = some (.int .i64 8) := (hxc 1 (by omega)).1
  have y1 : we.cell? ⟨yb, yo + 3, none⟩ = some (.int .i64 7) := (hyc 1 (by omega)).1
  have y2 : we.cell? ⟨yb, yo + 3 + 1, none⟩ = some (.int .i64 (-1)) := (hyc 1 (by omega)).2.1
  have y3 : we.cell? ⟨yb, yo + 3 + 2, none⟩ = some (.int .i64 0) := (hyc 1 (by omega)).2.2
  clear hxc hyc Xe Ye Xd Yd Dd RL HVd ba cd
  go_wp2
  go_ret
  exact ⟨rfl, ce⟩
end Go.Proofs.Ytcgpgflnihjpiac
