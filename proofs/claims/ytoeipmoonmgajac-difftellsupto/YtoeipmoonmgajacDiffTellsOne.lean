/- For every two trees whose reading is of bulk at most the given bound, the law DiffTells returns true and leaves its arguments as they were: Of of the landed diff package tells what the reference tells. -/
import Derived.Test.YtoeipmoonmgajacDiff3
import Derived.Test.YtoeipmoonmgajacRDiff1
import Derived.Test.YtoeipmoonmgajacTable
import Derived.Test.YtoeipmoonmgajacTree1
import Derived.Test.YtoeipmoonmgajacRBuild
import Derived.Test.YtoeipmoonmgajacRows
import Derived.Test.YtoeipmoonmgajacBase
import Derived.ProofKit
import Derived.OpenShut
import Derived.ChangeOld
import Derived.Deep.SlicePairs
import Derived.Deep.RegionHeld
import Derived.Test.YtoeipmoonmgajacTCheck
import Derived.JoinedCond
namespace Go.Proofs.Ytoeipmoonmgajac
open Go.RowKit

def dB : List (Int × Int) := [(2, 6), (8, 1), (9, 30)]
def dL : List M.Chg := [(2, 5, 6), (7, 0, -1), (8, -1, 1)]
def bL : List M.Chg := [(2, 6, 5), (7, -1, 0), (8, 1, -1)]
theorem rc_three (w : World) (a b c d e f g h i : Int) : Rc (w.alloc (.cells #[.int .i64 a, .int .i64 b, .int .i64 c, .int .i64 d, .int .i64 e, .int .i64 f, .int .i64 g, .int .i64 h, .int .i64 i] 50)) (some ⟨w.heap.size, 0, none⟩) 3 [(a, b, c), (d, e, f), (g, h, i)] := by
  refine ⟨rfl, Or.inr ⟨w.heap.size, 0, rfl, by simp, fun i hi => ?_⟩⟩
  match i, hi with
  | 0, _ => refine ⟨?_, ?_, ?_⟩ <;> simp [go_sem]
  | 1, _ => refine ⟨?_, ?_, ?_⟩ <;> simp [go_sem]
  | 2, _ => refine ⟨?_, ?_, ?_⟩ <;> simp [go_sem]
theorem few_ok : M.chk fewL = 0 := by decide +kernel
theorem dB_ok : M.chk dB = 0 := by decide +kernel
theorem sl3 {w : World} {b : Nat} {l : List (Int × Int)} (h : Rd w (some ⟨b, 0, none⟩) 3 l) : Sl w (some ⟨b, 0, none⟩) 3 3 l := ⟨h, by omega, by simp [maxLen], by simp⟩
theorem b_of (a1 a2 : Option Addr) (n1 n2 c1 c2 : Nat) (w : World) (h1 : TvS w a1 n1 c1 (M.build fewL)) (h2 : TvS w a2 n2 c2 (M.build dB)) :
    Calls Try.prog 19 #[.slice a1 n1 c1, .slice a2 n2 c2] w fun e w' => HandsC w w' dL 0 e := by
  have f := dof_any a1 a2 n1 n2 c1 c2 _ _ w h1 (build_big _ few_ok) h2 (build_big _ dB_ok)
  rwa [(difV_built few_ok dB_ok).1, (difV_built few_ok dB_ok).2, show M.dif fewL dB = dL by decide +kernel] at f
theorem b_patch1 (b : Nat) (a : Option Addr) (c : Nat) (w : World) (h1 : Rd w (some ⟨b, 0, none⟩) 3 fewL) (h2 : Rc w a 3 dL) :
    Calls Try.prog 23 #[.slice (some ⟨b, 0, none⟩) 3 3, .slice a 3 c] w fun e w' => Hands w w' dB 0 e := by
  have f := patch_any (some ⟨b, 0, none⟩) 3 3 fewL a 3 c dL w h1 (by omega) (by simp) h2 (by omega)
  rwa [show M.patchV fewL dL = dB by decide +kernel, show M.patchE fewL dL = 0 by decide +kernel] at f
theorem b_patch2 (b : Nat) (a : Option Addr) (c : Nat) (w : World) (h1 : Rd w (some ⟨b, 0, none⟩) 3 fewL) (h2 : Rc w a 3 bL) :
    Calls Try.prog 23 #[.slice (some ⟨b, 0, none⟩) 3 3, .slice a 3 c] w fun e w' => Hands w w' [] 7 e := by
  have f := patch_any (some ⟨b, 0, none⟩) 3 3 fewL a 3 c bL w h1 (by omega) (by simp) h2 (by omega)
  rwa [show M.patchV fewL bL = [] by decide +kernel, show M.patchE fewL bL = 7 by decide +kernel] at f
theorem b_back1 (a : Option Addr) (c : Nat) (w : World) (h2 : Rc w a 3 dL) :
    Calls Try.prog 24 #[.slice a 3 c] w fun e w' => HandsC w w' bL 0 e := by
  have f := back_any a 3 c dL w h2 (by omega)
  rwa [show M.backV dL = bL by decide +kernel, show M.backE dL = 0 by decide +kernel] at f
theorem b_back2 (a : Option Addr) (c : Nat) (w : World) (h2 : Rc w a 1 [(1, 2, 2)]) :
    Calls Try.prog 24 #[.slice a 1 c] w fun e w' => HandsC w w' [] 1 e := by
  have f := back_any a 1 c [(1, 2, 2)] w h2 (by omega)
  rwa [show M.backV [(1, 2, 2)] = [] by decide +kernel, show M.backE [(1, 2, 2)] = 1 by decide +kernel] at f

set_option maxHeartbeats 8000000 in
theorem diffBegun_any (w : World) : Calls Try.prog 21 #[] w fun e w' => e = .returned (.bool true) ∧ Below w.heap.size w w' := by
  go_enter Try.func21, Try.ntmps21
  go_wp2_with fail
  refine (fewL_any _).mono ?_
  rintro e w1 ⟨rfl, r, c1⟩
  have RF : Hid (Rd w1 (some ⟨w.heap.size, 0, none⟩) 3 fewL) := r
  clear r
  go_wp2_with fail
  refine (built _ _ _ _ _ (sl3 RF.out) few_ok).mono ?_
  rintro e w2 ⟨ta, tn, tc, rfl, t, ba⟩
  obtain ⟨V3, hV3⟩ : ∃ V3, V3 = w2.alloc (.cells #[.int .i64 2, .int .i64 6, .int .i64 8, .int .i64 1, .int .i64 9, .int .i64 30] 56) := ⟨_, rfl⟩
  have d3 : Below w2.heap.size w2 V3 := by rw [hV3]; exact (Below.refl _ _).alloc (Nat.le_refl _) _
  have RB : Hid (Rd V3 (some ⟨w2.heap.size, 0, none⟩) 3 dB) := by rw [hV3]; exact rd_three w2 2 6 8 1 9 30
  have T3 : Hid (TvS V3 ta tn tc (M.build fewL)) := t.below d3
  have c3 := below2 c1 (below2 ba d3)
  have HV3 : Hid (V3 = w2.alloc (.cells #[.int .i64 2, .int .i64 6, .int .i64 8, .int .i64 1, .int .i64 9, .int .i64 30] 56)) := hV3
  clear RF t ba c1 d3 hV3
  go_wp2_with fail
  rw [← HV3.out]
  refine (built _ _ _ _ _ (sl3 RB.out) dB_ok).mono ?_
  rintro e w4 ⟨ua, un, uc, rfl, t, ba⟩
  have U4 : Hid (TvS w4 ua un uc (M.build dB)) := t
  have T4 : Hid (TvS w4 ta tn tc (M.build fewL)) := T3.out.below ba
  have c4 := below2 c3 ba
  clear t ba T3 RB HV3 c3
  go_wp2_with fail
  refine (b_of _ _ _ _ _ _ _ T4.out U4.out).mono ?_
  rintro e w5 ⟨da, dn, dc, rfl, r, _, _, ba⟩
  obtain rfl : dn = 3 := r.1.symm
  have D5 : Hid (Rc w5 da 3 dL) := r
  have c5 := below2 c4 ba
  clear r ba T4 U4 c4
  go_wp2_with fail
  refine (fewL_any _).mono ?_
  rintro e w6 ⟨rfl, r, ba⟩
  have RF : Hid (Rd w6 (some ⟨w5.heap.size, 0, none⟩) 3 fewL) := r
  have D6 : Hid (Rc w6 da 3 dL) := D5.out.below ba (Nat.le_refl _)
  have c6 := below2 c5 ba
  clear r ba D5 c5
  go_wp2_with fail
  refine (b_patch1 _ _ _ _ RF.out D6.out).mono ?_
  rintro e w7 ⟨xa, xn, xc, rfl, r, _, _, _, ba⟩
  obtain rfl : xn = 3 := r.1.symm
  have X7 : Hid (Rd w7 xa 3 dB) := r
  have D7 : Hid (Rc w7 da 3 dL) := D6.out.below ba (Nat.le_refl _)
  have c7 := below2 c6 ba
  clear r ba D6 RF c6
  go_wp2_with fail
  refine (b_back1 _ _ _ D7.out).mono ?_
  rintro e w8 ⟨ya, yn, yc, rfl, r, _, _, ba⟩
  obtain rfl : yn = 3 := r.1.symm
  have Y8 : Hid (Rc w8 ya 3 bL) := r
  have D8 : Hid (Rc w8 da 3 dL) := D7.out.below ba (Nat.le_refl _)
  have X8 : Hid (Rd w8 xa 3 dB) := X7.out.below ba (Nat.le_refl _)
  have c8 := below2 c7 ba
  clear r ba D7 X7 c7
  go_wp2_with fail
  refine (fewL_any _).mono ?_
  rintro e w9 ⟨rfl, r, ba⟩
  have RF : Hid (Rd w9 (some ⟨w8.heap.size, 0, none⟩) 3 fewL) := r
  have D9 : Hid (Rc w9 da 3 dL) := D8.out.below ba (Nat.le_refl _)
  have X9 : Hid (Rd w9 xa 3 dB) := X8.out.below ba (Nat.le_refl _)
  have Y9 : Hid (Rc w9 ya 3 bL) := Y8.out.below ba (Nat.le_refl _)
  have c9 := below2 c8 ba
  clear r ba D8 X8 Y8 c8
  go_wp2_with fail
  refine (b_patch2 _ _ _ _ RF.out Y9.out).mono ?_
  rintro e wa ⟨za, zn, zc, rfl, r, _, _, _, ba⟩
  obtain ⟨Vb, hVb⟩ : ∃ Vb, Vb = wa.alloc (.cells #[.int .i64 1, .int .i64 2, .int .i64 2] 50) := ⟨_, rfl⟩
  have db : Below wa.heap.size wa Vb := by rw [hVb]; exact (Below.refl _ _).alloc (Nat.le_refl _) _
  have RN : Hid (Rc Vb (some ⟨wa.heap.size, 0, none⟩) 1 [(1, 2, 2)]) := by rw [hVb]; exact ⟨rfl, Or.inr ⟨wa.heap.size, 0, rfl, by simp, rc_one wa 1 2 2⟩⟩
  have eb := below2 ba db
  have Db : Hid (Rc Vb da 3 dL) := D9.out.below eb (Nat.le_refl _)
  have Xb : Hid (Rd Vb xa 3 dB) := X9.out.below eb (Nat.le_refl _)
  have Yb : Hid (Rc Vb ya 3 bL) := Y9.out.below eb (Nat.le_refl _)
  have cb := below2 c9 eb
  have HVb : Hid (Vb = wa.alloc (.cells #[.int .i64 1, .int .i64 2, .int .i64 2] 50)) := hVb
  clear r ba db eb hVb D9 X9 Y9 RF c9
  go_wp2_with fail
  rw [← HVb.out]
  refine (b_back2 _ _ _ RN.out).mono ?_
  rintro e wc ⟨qa, qn, qc, rfl, r, _, _, ba⟩
  obtain ⟨Vd, hVd⟩ : ∃ Vd, Vd = wc.alloc (.cells #[.int .i64 2, .int .i64 5, .int .i64 6, .int .i64 7, .int .i64 0, .int .i64 (-1), .int .i64 8, .int .i64 (-1), .int .i64 1] 50) := ⟨_, rfl⟩
  have dd : Below wc.heap.size wc Vd := by rw [hVd]; exact (Below.refl _ _).alloc (Nat.le_refl _) _
  have RL : Hid (Rc Vd (some ⟨wc.heap.size, 0, none⟩) 3 dL) := by rw [hVd]; exact rc_three wc 2 5 6 7 0 (-1) 8 (-1) 1
  have ed := below2 ba dd
  have Dd : Hid (Rc Vd da 3 dL) := Db.out.below ed (Nat.le_refl _)
  have Xd : Hid (Rd Vd xa 3 dB) := Xb.out.below ed (Nat.le_refl _)
  have Yd : Hid (Rc Vd ya 3 bL) := Yb.out.below ed (Nat.le_refl _)
  have cd := below2 cb ed
  have HVd : Hid (Vd = wc.alloc (.cells #[.int .i64 2, .int .i64 5, .int .i64 6, .int .i64 7, .int .i64 0, .int .i64 (-1), .int .i64 8, .int .i64 (-1), .int .i64 1] 50)) := hVd
  clear r ba dd ed hVd Db Xb Yb RN HVb cb
  go_wp2_with fail
  rw [← HVd.out]
  refine (csame_any _ _ 3 3 _ _ _ _ _ Dd.out RL.out (by omega)).mono ?_
  rintro e we ⟨rfl, ba⟩
  have Xe : Rd we xa 3 dB := Xd.out.below ba (Nat.le_refl _)
  have Ye : Rc we ya 3 bL := Yd.out.below ba (Nat.le_refl _)
  have ce := below2 cd ba
  obtain ⟨xb, xo, rfl, hxB, hxc⟩ : ∃ b off, xa = some ⟨b, off, none⟩ ∧ b < we.heap.size ∧ ∀ i, i < 3 → we.cell? ⟨b, off + i * 2, none⟩ = some (.int .i64 (dB.getD i (0, 0)).1) ∧ we.cell? ⟨b, off + i * 2 + 1, none⟩ = some (.int .i64 (dB.getD i (0, 0)).2) := by
    rcases Xe.cases with ⟨h0, _⟩ | ⟨b, off, e, _, _, hB, hc⟩
    · omega
    · exact ⟨b, off, e, hB, hc⟩
  obtain ⟨yb, yo, rfl, hyB, hyc⟩ : ∃ b off, ya = some ⟨b, off, none⟩ ∧ b < we.heap.size ∧ ∀ i, i < 3 → we.cell? ⟨b, off + i * 3, none⟩ = some (.int .i64 (bL.getD i (0, 0, 0)).1) ∧ we.cell? ⟨b, off + i * 3 + 1, none⟩ = some (.int .i64 (bL.getD i (0, 0, 0)).2.1) ∧ we.cell? ⟨b, off + i * 3 + 2, none⟩ = some (.int .i64 (bL.getD i (0, 0, 0)).2.2) := by
    rcases Ye.cases with ⟨h0, _⟩ | ⟨b, off, e, _, _, hB, hc⟩
    · omega
    · exact ⟨b, off, e, hB, hc⟩
  have x1 : we.cell? ⟨xb, xo + 2, none⟩ = some (.int .i64 8) := (hxc 1 (by omega)).1
  have y1 : we.cell? ⟨yb, yo + 3, none⟩ = some (.int .i64 7) := (hyc 1 (by omega)).1
  have y2 : we.cell? ⟨yb, yo + 3 + 1, none⟩ = some (.int .i64 (-1)) := (hyc 1 (by omega)).2.1
  have y3 : we.cell? ⟨yb, yo + 3 + 2, none⟩ = some (.int .i64 0) := (hyc 1 (by omega)).2.2
  clear hxc hyc Xe Ye Xd Yd Dd RL HVd ba cd
  go_wp2
  go_ret
  exact ⟨rfl, ce⟩
end Go.Proofs.Ytoeipmoonmgajac

namespace Go.Proofs.Ytoeipmoonmgajac
namespace M
theorem tab_step (f : Int → Int) (d : List Chg) (i : Nat) (h : i < d.length) (x y z : Int) (e : d.getD i (0, 0, 0) = (x, y, z)) (k : Int) : tab f (d.take (i + 1)) k = if k = x then z else tab f (d.take i) k := by
  rw [List.take_succ_eq_append_getElem h, tab_snoc]
  have e2 : d[i] = (x, y, z) := by rw [← e]; simp [List.getD, h]
  rw [e2]
theorem clash_step (l : List (Int × Int)) (d : List Chg) (i : Nat) (h : i < d.length) (x y z : Int) (e : d.getD i (0, 0, 0) = (x, y, z)) (hc : clashF l (d.take i) = false) (he : find x l = y) : clashF l (d.take (i + 1)) = false := by
  rw [List.take_succ_eq_append_getElem h]
  have e2 : d[i] = (x, y, z) := by rw [← e]; simp [List.getD, h]
  unfold clashF at hc ⊢
  rw [List.any_append, hc, e2]
  simp [he]
theorem clash_at (l : List (Int × Int)) (d : List Chg) (i : Nat) (h : i < d.length) (x y z : Int) (e : d.getD i (0, 0, 0) = (x, y, z)) (he : find x l ≠ y) : clashF l d = true := by
  unfold clashF
  rw [List.any_eq_true]
  refine ⟨(x, y, z), by rw [← e]; exact gmem d i h, by simpa using he⟩
theorem tab_fresh (f : Int → Int) (d : List Chg) (hf : Fine (-1) d) (i : Nat) (h : i < d.length) (x y z : Int) (e : d.getD i (0, 0, 0) = (x, y, z)) : tab f (d.take i) x = f x := by
  refine tab_none _ _ _ fun c hc hcx => ?_
  obtain ⟨j, hj, ej⟩ := List.mem_iff_getElem.1 hc
  rw [List.length_take] at hj
  have hji : j < i := by omega
  rw [List.getElem_take] at ej
  have hp := List.pairwise_iff_getElem.1 hf.2 j i (by omega) h hji
  have e2 : d[i] = (x, y, z) := by rw [← e]; simp [List.getD, h]
  rw [ej, e2] at hp
  have : c.1 < x := hp
  omega
end M
open Go.RowKit

theorem all_one (cs : Array Value) (f : Nat → Int) (h : cs.size = 100) (hc : ∀ i : Nat, i < 100 → cs[i]? = some (.int .i64 (f i))) : cs.all (·.oneCell') = true := by
  refine Array.all_eq_true_iff_forall_mem.2 fun v hv => ?_
  obtain ⟨j, hj, e⟩ := Array.mem_iff_getElem.1 hv
  have h2 := hc j (by rw [← h]; exact hj)
  rw [Array.getElem?_eq_getElem hj, e] at h2
  cases h2
  rfl

set_option maxRecDepth 100000 in
set_option maxHeartbeats 8000000 in
theorem patchOf_good (a : Option Addr) (n cap : Nat) (l : List (Int × Int)) (a2 : Option Addr) (m mcap : Nat) (d : List M.Chg) (w : World) (h : Rd w a n l) (hrc : Rc w a2 m d) (h0 : M.chk l = 0) (hf : M.fine d = true) :
    Calls Try.prog 25 #[.slice a n cap, .slice a2 m mcap] w fun e w' => Hands w w' (M.patchV l d) (M.patchE l d) e := by
  obtain ⟨Z, hZ, hz⟩ := zeroTable
  have hn40 : n ≤ 40 := by rw [← h.1]; exact ((M.chk_zero l).1 h0).1
  have HFi : Hid (M.Fine (-1) d) := (M.fine_iff d).1 hf
  have hm100 : m ≤ 100 := by have := HFi.out.len (by omega); have h1 := hrc.1; omega
  have H := error_any a n cap l w h (by omega)
  rw [h0] at H
  have HH : Hid (Calls Try.prog 52 #[.slice a n cap] w fun e w' => e = .returned (.int .i64 0) ∧ Below w.heap.size w w') := H
  have HR : Hid (Rd w a n l) := h
  have HD : Hid (Rc w a2 m d) := hrc
  have HE : Hid (M.patchE l d = if M.clashF l d = true then 7 else if 40 < (M.ofTab (M.tab (fun k => M.find k l) d)).length then 2 else 0) := by unfold Hid M.patchE; rw [h0, hf]; simp
  have HFn : Hid (M.fine d = true) := hf
  clear H h h0 hrc hf
  go_enter Try.func25, Try.ntmps25
  go_wp2_with fail
  refine HH.out.mono ?_
  rintro e w1 ⟨rfl, b1⟩
  have K := cfine_any a2 m mcap d w1 (HD.out.below b1 (Nat.le_refl _)) (by omega)
  rw [HFn.out] at K
  have KK : Hid (Calls Try.prog 53 #[.slice a2 m mcap] w1 fun e w' => e = .returned (.bool true) ∧ Below w1.heap.size w1 w') := K
  clear K
  go_wp2_with fail
  refine KK.out.mono ?_
  rintro e w1b ⟨rfl, b1b⟩
  have c1 := below2 b1 b1b
  clear KK b1 b1b
  go_wp2_with fail
  refine (spread_any a n cap l _ (HR.out.below c1 (Nat.le_refl _)) hn40).mono ?_
  rintro e w2 ⟨cs, rfl, hcs, hcf, b2⟩
  have q2 := below2 c1 b2
  have hs2 := q2.size
  have HCs : Aside (cs.size = 100) := hcs
  have HCf : Aside (∀ i : Nat, i < 100 → cs[i]? = some (.int .i64 (M.find i l))) := hcf
  clear hcs hcf c1 b2
  obtain ⟨S, hS⟩ : ∃ S, S = w2.heap.size := ⟨_, rfl⟩
  obtain ⟨W3, hW3⟩ : ∃ W3, W3 = (w2.alloc (.cells Z 80)).setRow S cs := ⟨_, rfl⟩
  have hrow3 : Aside (W3.heap[S]? = some (.cells cs 80 (0, 0))) := by unfold Aside; rw [hW3, hS]; exact setRow_heap _ _ Z cs _ _ (heap_alloc_new w2 _)
  have b3 : Below w2.heap.size w2 W3 := by rw [hW3, hS]; exact below_setRow ((Below.refl _ _).alloc (Nat.le_refl _) _) (Nat.le_refl _) cs
  have q3 := below2 q2 b3
  have hwS : w.heap.size ≤ S := by rw [hS]; exact hs2
  have HW3 : Hid (W3 = (w2.alloc (.cells Z 80)).setRow S cs) := hW3
  have HS : Hid (S = w2.heap.size) := hS
  have HZ0 : Hid (Z.size = 100) := hZ
  have hone : Hid (cs.all (·.oneCell') = true) := all_one cs _ HCs.out HCf.out
  clear hW3 hS hZ b3 q2 hs2
  go_wp2_with (refine wpList_store_row rfl 80 _ _ rfl w2.heap.size cs rfl rfl 80 Z (heap_alloc_new w2 _) (by rw [HCs.out]; exact infoTable) (by rw [HCs.out]; exact HZ0.out) hone.out ?_; rw [← HS.out, ← HW3.out])
  go_loopg [8] m (fun g ix wr => ∃ (i : Nat) (ys : Array Value), i + g = m ∧ ix = .int .i64 i ∧ Aside (wr.heap[S]? = some (.cells ys 80 (0, 0))) ∧ Aside (ys.size = 100) ∧ Aside (∀ k : Nat, k < 100 → ys[k]? = some (.int .i64 (M.tab (fun k => M.find k l) (d.take i) k))) ∧ Aside (M.clashF l (d.take i) = false) ∧ Below w.heap.size w wr)
  case atStart => exact ⟨0, cs, by omega, rfl, hrow3, HCs, fun k hk => HCf.out k hk, rfl, q3⟩
  case round =>
    obtain ⟨i, ys, hig, rfl, RY, HYs, HYf, HCl, hbel⟩ := hrel
    by_cases hlt : i < m
    · have hii : (i : Int) < (m : Int) := by omega
      have hid : i < d.length := by rw [HD.out.1]; exact hlt
      obtain ⟨b, off, rfl, hB, hc⟩ : ∃ b off, a2 = some ⟨b, off, none⟩ ∧ b < w.heap.size ∧ ∀ i, i < m → w.cell? ⟨b, off + i * 3, none⟩ = some (.int .i64 (d.getD i (0, 0, 0)).1) ∧ w.cell? ⟨b, off + i * 3 + 1, none⟩ = some (.int .i64 (d.getD i (0, 0, 0)).2.1) ∧ w.cell? ⟨b, off + i * 3 + 2, none⟩ = some (.int .i64 (d.getD i (0, 0, 0)).2.2) := by
        rcases HD.out.cases with ⟨h0, _⟩ | ⟨b, off, e, _, _, hB, hc⟩
        · omega
        · exact ⟨b, off, e, hB, hc⟩
      obtain ⟨x, y, z, hxyz⟩ : ∃ x y z, d.getD i (0, 0, 0) = (x, y, z) := ⟨_, _, _, rfl⟩
      have hx := HFi.out.1 _ (M.gmem d i hid)
      rw [hxyz] at hx
      obtain ⟨kx, rfl⟩ : ∃ kx : Nat, x = (kx : Int) := ⟨x.toNat, by have : -1 < x := hx.1; omega⟩
      have hkx : kx < 100 := by have : (kx : Int) ≤ 99 := hx.2.1; omega
      have hkxi : (kx : Int) < 100 := by omega
      obtain ⟨k1, k2, k3⟩ := hc i hlt
      rw [hxyz] at k1 k2 k3
      have p0 : wr.cell? ⟨b, off + i * 3, none⟩ = some (.int .i64 (kx : Int)) := (hbel.cell (p := ⟨b, off + i * 3, none⟩) hB).trans k1
      have p1 : wr.cell? ⟨b, off + i * 3 + 1, none⟩ = some (.int .i64 y) := (hbel.cell (p := ⟨b, off + i * 3 + 1, none⟩) hB).trans k2
      have p2 : wr.cell? ⟨b, off + i * 3 + 2, none⟩ = some (.int .i64 z) := (hbel.cell (p := ⟨b, off + i * 3 + 2, none⟩) hB).trans k3
      obtain ⟨u, hu⟩ : ∃ u, u = M.find (kx : Int) l := ⟨_, rfl⟩
      have cY : wr.cell? ⟨S, kx, none⟩ = some (.int .i64 u) := by rw [cell_of_row wr _ kx ys _ _ RY.out, HYf.out kx hkx, M.tab_fresh _ d HFi.out i hid _ y z hxyz, hu]
      have fY : wr.frozen? ⟨S, kx, none⟩ = false := frozen_of_row wr _ kx ys _ RY.out
      have hbS : b ≠ S := by omega
      have HX : Hid (d.getD i (0, 0, 0) = ((kx : Int), y, z)) := hxyz
      by_cases hy : u = y
      · have hyb : (u != y) = false := by simp [hy]
        have HCl2 : Aside (M.clashF l (d.take (i + 1)) = false) := M.clash_step l d i hid _ y z hxyz HCl.out (hu.symm.trans hy)
        have HYs' : Aside ((ys.setIfInBounds kx (.int .i64 z)).size = 100) := by simpa [Aside] using HYs.out
        have HYf' : Aside (∀ k : Nat, k < 100 → (ys.setIfInBounds kx (.int .i64 z))[k]? = some (.int .i64 (M.tab (fun k => M.find k l) (d.take (i + 1)) k))) := fun k hk => by
          rw [set_get ys kx k _ (by rw [HYs.out]; exact hkx), M.tab_step _ d i hid _ y z hxyz]
          by_cases e : kx = k
          · subst e; rw [if_pos rfl, if_pos rfl]
          · rw [if_neg e, if_neg (by omega)]; exact HYf.out k hk
        have RY2 : Hid (∀ W : World, W.heap = wr.heap → (W.setCell ⟨S, kx, none⟩ (.int .i64 z)).heap[S]? = some (.cells (ys.setIfInBounds kx (.int .i64 z)) 80 (0, 0))) := fun W hW => heap_setCell_same W _ kx ys _ _ (by rw [hW]; exact RY.out)
        clear hy hu hxyz hx hc k1 k2 k3
        go_wp2_with fail
        go_quiet (fail)
        go_wp2_with fail
        go_region
        go_wp2
        go_roundg (gk - 1)
        case measure => omega
        case rel => exact ⟨i + 1, _, by omega, by go_num, RY2.out _ rfl, HYs', HYf', HCl2, (below_drewN hbel _).setCell (p := ⟨S, kx, none⟩) hwS _⟩
      · have hyb : (u != y) = true := by simp [hy]
        have e1 : M.patchE l d = 7 := by rw [HE.out, if_pos (M.clash_at l d i hid _ y z hxyz (by rw [← hu]; exact hy))]
        have F : Hid (∀ W, Below w.heap.size w W → Hands w W (M.patchV l d) (M.patchE l d) (.returned (.tuple #[.slice none 0 0, .int .i64 7]))) := fun W hW => by unfold M.patchV; rw [e1, if_neg (by omega)]; exact Hands.err 7 hW
        clear hy hu hxyz hx hc k1 k2 k3 e1
        go_wp2_with fail
        go_quiet (fail)
        go_wp2
        go_ret2
        exact F.out _ (below_drewN hbel _)
    · have e1 : d.take i = d := List.take_of_length_le (by rw [HD.out.1]; omega)
      have HYf2 := HYf.out
      have HCl2 := HCl.out
      rw [e1] at HYf2 HCl2
      have HFo := folded_any ys (fun k : Nat => M.tab (fun k => M.find k l) d (k : Int)) wr HYf2
      have HFF : Hid (Calls Try.prog 55 #[.agg ys] wr fun e w' => ∃ v, e = .returned v ∧ Own w' (wr.heap.size + 1) v (M.ofTab (M.tab (fun k => M.find k l) d)) ∧ Below wr.heap.size wr w') := HFo
      have HCl3 : Hid (M.clashF l d = false) := HCl2
      clear e1 HYf2 HCl2 HFo
      go_wp2_with (refine wpList_load_row rfl 80 _ rfl S rfl 80 ys _ _ RY.out Try.underlying80 rfl (by rw [HYs.out]; exact infoTable) ?_)
      refine HFF.out.mono ?_
      rintro e w8 ⟨v, rfl, ho8, hb8⟩
      obtain ⟨ra, rc, rfl, hr8, hn8, hc8, hz8⟩ := ho8.rd
      obtain ⟨rn, hrn⟩ : ∃ rn, rn = (M.ofTab (M.tab (fun k => M.find k l) d)).length := ⟨_, rfl⟩
      rw [← hrn] at hr8 hn8 hz8 ⊢
      have b8 : Below w.heap.size w w8 := hbel.trans (hb8.mono hbel.size)
      have hrm : rn ≤ 9223372036854775807 := by unfold maxLen at hc8; omega
      by_cases h40 : 40 < rn
      · have e0 : M.patchE l d = 2 := by rw [HE.out, if_neg (by rw [HCl3.out]; simp), if_pos (by rw [← hrn]; exact h40)]
        have F : Hid (Hands w w8 (M.patchV l d) (M.patchE l d) (.returned (.tuple #[.slice none 0 0, .int .i64 2]))) := by
          unfold M.patchV
          rw [e0, if_neg (by omega)]
          exact Hands.err 2 b8
        clear e0 hr8 hz8 hb8 ho8 hrn HFF
        go_wp2
        go_ret2
        exact F.out
      · have e0 : M.patchE l d = 0 := by rw [HE.out, if_neg (by rw [HCl3.out]; simp), if_neg (by rw [← hrn]; exact h40)]
        have F : Hid (Hands w w8 (M.patchV l d) (M.patchE l d) (.returned (.tuple #[.slice ra rn rc, .int .i64 0]))) := by
          unfold M.patchV
          rw [e0, if_pos rfl]
          exact ⟨ra, rn, rc, rfl, hr8, hn8, hc8, hz8, b8⟩
        clear e0 hr8 hz8 hb8 ho8 hrn HFF
        go_wp2
        go_ret2
        exact F.out

set_option maxHeartbeats 4000000 in
theorem patchOf_any (a : Option Addr) (n cap : Nat) (l : List (Int × Int)) (a2 : Option Addr) (m mcap : Nat) (d : List M.Chg) (w : World) (h : Rd w a n l) (hn : n ≤ 9223372036854775807) (hrc : Rc w a2 m d) (hm : m ≤ 9223372036854775807) :
    Calls Try.prog 25 #[.slice a n cap, .slice a2 m mcap] w fun e w' => Hands w w' (M.patchV l d) (M.patchE l d) e := by
  by_cases h0 : M.chk l = 0
  · by_cases hf : M.fine d = true
    · exact patchOf_good a n cap l a2 m mcap d w h hrc h0 hf
    · have hf2 : M.fine d = false := by simpa using hf
      have e1 : M.patchE l d = 1 := by unfold M.patchE; rw [h0, hf2]; simp
      have e2 : M.patchV l d = [] := by unfold M.patchV; rw [e1]; simp
      rw [e1, e2]
      have H := error_any a n cap l w h hn
      rw [h0] at H
      have HH : Hid (Calls Try.prog 52 #[.slice a n cap] w fun e w' => e = .returned (.int .i64 0) ∧ Below w.heap.size w w') := H
      have HD : Hid (Rc w a2 m d) := hrc
      have HF : Hid (M.fine d = false) := hf2
      clear H h h0 hrc hf hf2 e1 e2
      go_enter Try.func25, Try.ntmps25
      go_wp2_with fail
      refine HH.out.mono ?_
      rintro e w1 ⟨rfl, b1⟩
      have K := cfine_any a2 m mcap d w1 (HD.out.below b1 (Nat.le_refl _)) hm
      rw [HF.out] at K
      have KK : Hid (Calls Try.prog 53 #[.slice a2 m mcap] w1 fun e w' => e = .returned (.bool false) ∧ Below w1.heap.size w1 w') := K
      clear K
      go_wp2_with fail
      refine KK.out.mono ?_
      rintro e w2 ⟨rfl, b2⟩
      have c2 := below2 b1 b2
      go_wp2
      go_ret2
      exact Hands.err 1 c2
  · have e1 : M.patchE l d = M.chk l := by unfold M.patchE; rw [if_pos h0]
    have e2 : M.patchV l d = [] := by unfold M.patchV; rw [e1, if_neg h0]
    rw [e1, e2]
    obtain ⟨E, hE⟩ : ∃ E, E = M.chk l := ⟨_, rfl⟩
    have H := error_any a n cap l w h hn
    rw [← hE] at H h0 ⊢
    have hEb : (E != 0) = true := by simp [h0]
    have HH : Hid (Calls Try.prog 52 #[.slice a n cap] w fun e w' => e = .returned (.int .i64 E) ∧ Below w.heap.size w w') := H
    clear H h h0 hrc e1 e2 hE
    go_enter Try.func25, Try.ntmps25
    go_wp2_with fail
    refine HH.out.mono ?_
    rintro e w1 ⟨rfl, b1⟩
    go_wp2
    go_ret2
    exact Hands.err E b1
end Go.Proofs.Ytoeipmoonmgajac

namespace Go.Proofs.Ytoeipmoonmgajac
open Go.RowKit

theorem rowsOf_none (a : Option Addr) (cap : Nat) (w : World) :
    Calls Try.prog 31 #[.slice a 0 cap] w fun e w' => e = .returned (.slice none 0 0) ∧ w' = w := by
  go_enter Try.func31, Try.ntmps31
  go_wp2
  refine wp_loop_rounds 1 ?_
  rw [rounds_succ]
  go_wp2
  go_ret
  exact ⟨rfl, rfl⟩

set_option maxRecDepth 100000 in
set_option maxHeartbeats 4000000 in
theorem rowsOf_some (tb to n cap : Nat) (T : List (List (List (Int × Int)))) (w : World) (hT : TvS w (some ⟨tb, to, none⟩) n cap T) (hn : 0 < n) (hfl : (flat T).length ≤ 900000) :
    Calls Try.prog 31 #[.slice (some ⟨tb, to, none⟩) n cap] w fun e w' => ∃ v, e = .returned v ∧ Own w' w.heap.size v (flat T) ∧ Below w.heap.size w w' := by
  obtain ⟨b', o', e, hB, hc⟩ := hT.1.at hn
  obtain ⟨rfl, rfl⟩ : tb = b' ∧ to = o' := by simpa using e
  obtain ⟨ka, kn, kc, qk, sk⟩ := hc 0 hn
  obtain ⟨U, hU⟩ : ∃ U, U = ground T := ⟨_, rfl⟩
  have sk' : LvS w ka kn kc U := by rw [hU]; exact sk
  have hnm := hT.len
  have hkm := sk.len
  have HFl : Aside (U.flatten.length ≤ 900000) := by unfold Aside; rw [hU]; exact hfl
  have HFF : Aside (flat T = U.flatten) := by unfold Aside; rw [hU]; rfl
  have HSk : Aside (LvS w ka kn kc U) := sk'
  have HUn : Aside (U.length = kn) := sk'.1.1
  have HQk : Aside (∀ W, Below w.heap.size w W → W.cell? ⟨tb, to, none⟩ = some (.slice ka kn kc)) := fun W hW => (hW.cell (p := ⟨tb, to, none⟩) hB).trans qk
  have hni : (0 : Int) < (n : Int) := by omega
  clear hT hc sk sk' qk hU hfl e
  go_enter Try.func31, Try.ntmps31
  go_wp2
  go_loopg [3, 4] kn (fun g v ix ws => ∃ t : Nat, t + g = kn ∧ ix = .int .i64 t ∧ Aside (Own ws w.heap.size v (U.take t).flatten) ∧ Below w.heap.size w ws)
  case atStart => exact ⟨0, by omega, rfl, World.ownsRow_nil _ _ _ _, Below.refl _ _⟩
  case round =>
    obtain ⟨t, htg, rfl, HO, hbel⟩ := hrel
    have hsz := hbel.size
    have hqk := HQk.out wr hbel
    by_cases hlt : t < kn
    · obtain ⟨kb, ko, rfl⟩ : ∃ b o, ka = some ⟨b, o, none⟩ := by
        rcases HSk.out.1.2 with e | ⟨b', o', e, _⟩
        · omega
        · exact ⟨b', o', e⟩
      obtain ⟨hkB, hkc⟩ := HSk.out.1.at (by omega)
      obtain ⟨ya, yn, yc, q2, s2⟩ := hkc t hlt
      obtain ⟨y, hy⟩ : ∃ y, y = U.getD t [] := ⟨_, rfl⟩
      rw [← hy] at s2
      have hq2 : wr.cell? ⟨kb, ko + t, none⟩ = some (.slice ya yn yc) := (hbel.cell (p := ⟨kb, ko + t, none⟩) hkB).trans q2
      have HSy : Aside (Sl wr ya yn yc y) := s2.below hbel
      have hft := flat_take U t (by rw [HUn.out]; exact hlt)
      rw [← hy] at hft
      have HFt : Aside ((U.take (t + 1)).flatten = (U.take t).flatten ++ y) := hft
      have HBg : Aside ((U.take t).flatten.length + yn ≤ 1000000) := by
        unfold Aside
        have e1 := flat_le U (t + 1)
        have e2 := HFl.out
        rw [hft, List.length_append, s2.1.1] at e1
        omega
      have hti : (t : Int) < (kn : Int) := by omega
      clear hkc q2 s2 hy hft
      go_wp2_with (at_builtin; refine append_rd rfl _ _ rfl w.heap.size _ (U.take t).flatten rfl HO.out ya yn yc y rfl HSy.out.1 HSy.out.2.2.2 HBg.out hbel.size ?_)
      intro v' w' ho' hb3
      have HO' : Aside (Own w' w.heap.size v' (U.take (t + 1)).flatten) := by unfold Aside; rw [HFt.out]; exact ho'
      have hb4 := hbel.trans hb3
      clear ho' hb3
      go_wp2
      go_roundg (gk - 1)
      case measure => omega
      case rel => exact ⟨t + 1, by omega, by go_num, HO', hb4⟩
    · obtain rfl : t = kn := by omega
      have HO1 : Aside (Own wr w.heap.size u3 (flat T)) := by
        have h5 := HO.out
        rw [List.take_of_length_le (by rw [HUn.out]; omega), ← HFF.out] at h5
        exact h5
      go_wp2
      go_ret
      exact ⟨_, rfl, HO1.out, hbel⟩

theorem rowsOf_any (a : Option Addr) (n cap : Nat) (T : List (List (List (Int × Int)))) (w : World) (hT : TvS w a n cap T) (hfl : (flat T).length ≤ 900000) :
    Calls Try.prog 31 #[.slice a n cap] w fun e w' => ∃ va vc, e = .returned (.slice va (flat T).length vc) ∧ Own w' w.heap.size (.slice va (flat T).length vc) (flat T) ∧ Sl w' va (flat T).length vc (flat T) ∧ Below w.heap.size w w' := by
  rcases Nat.eq_zero_or_pos n with rfl | hn
  · have e : T = [] := List.eq_nil_of_length_eq_zero hT.1.1
    subst e
    refine (rowsOf_none a cap w).mono ?_
    rintro e w' ⟨rfl, rfl⟩
    exact ⟨none, 0, rfl, World.ownsRow_nil _ _ _ _, ⟨Rd.zero rfl rfl, Nat.le_refl _, by simp [maxLen], fun _ => ⟨rfl, rfl⟩⟩, Below.refl _ _⟩
  · obtain ⟨tb, to, rfl, _⟩ := hT.1.at hn
    refine (rowsOf_some tb to n cap T w hT hn hfl).mono ?_
    rintro e w' ⟨v, rfl, ho, hb⟩
    obtain ⟨va, vc, rfl, hs⟩ := Own.sl ho
    exact ⟨va, vc, rfl, ho, hs, hb⟩

set_option maxHeartbeats 4000000 in
theorem treeError_any (a : Option Addr) (n cap : Nat) (T : List (List (List (Int × Int)))) (w : World) (hT : TvS w a n cap T) (hfl : (flat T).length ≤ 900000) :
    Calls Try.prog 29 #[.slice a n cap] w fun e w' => e = .returned (.int .i64 (treeE T)) ∧ Below w.heap.size w w' := by
  have HR := rowsOf_any a n cap T w hT hfl
  have HT : Aside (TvS w a n cap T) := hT
  have hnm := hT.len
  obtain ⟨l, hl⟩ : ∃ l, l = flat T := ⟨_, rfl⟩
  obtain ⟨L, hL⟩ : ∃ L, L = l.length := ⟨_, rfl⟩
  rw [← hl] at HR hfl
  rw [← hL] at HR hfl
  have HR1 : Aside (Calls Try.prog 31 #[.slice a n cap] w fun e w' => ∃ va vc, e = .returned (.slice va L vc) ∧ Own w' w.heap.size (.slice va L vc) l ∧ Sl w' va L vc l ∧ Below w.heap.size w w') := HR
  by_cases h0 : M.chk l = 0
  · obtain ⟨t, ht⟩ : ∃ t, t = decide (M.build l = T) := ⟨_, rfl⟩
    have HE : Aside (treeE T = if t = true then 0 else 1) := by
      unfold Aside treeE
      rw [← hl, ht]
      by_cases hh : M.build l = T
      · rw [if_pos ⟨h0, hh.symm⟩]; simp [hh]
      · rw [if_neg (fun h => hh h.2.symm)]; simp [hh]
    have HErr : Aside (∀ va vc W, Sl W va L vc l → Calls Try.prog 52 #[.slice va L vc] W fun e w' => e = .returned (.int .i64 0) ∧ Below W.heap.size W w') := fun va vc W hs => by
      have := error_any va L vc l W hs.1 (by omega)
      rwa [h0] at this
    have HBd : Aside (∀ va vc W, Sl W va L vc l → Below w.heap.size w W → Calls Try.prog 32 #[.slice va L vc] W fun e w' => ∃ ba bn bc, e = .returned (.slice ba bn bc) ∧ Aside (Calls Try.prog 12 #[.slice ba bn bc, .slice a n cap] w' fun e w'' => e = .returned (.bool t) ∧ Below w'.heap.size w' w'') ∧ Below W.heap.size W w') := fun va vc W hs hb => by
      refine (rbuild_any va L vc l W hs h0).mono ?_
      rintro e w' ⟨v, rfl, ho, hb2⟩
      obtain ⟨ba, bn, bc, rfl, htv⟩ := ho.tv
      refine ⟨ba, bn, bc, rfl, ?_, hb2⟩
      rw [ht]
      exact tsame_any ba a bn n bc cap (M.build l) T w' htv.1 ((HT.out.below (below2 hb hb2)).1) htv.len
    clear HR h0 hl hL ht hT hfl
    cases t with
    | true =>
      have HE1 : Aside (treeE T = 0) := by unfold Aside; rw [HE.out]; simp
      go_enter Try.func29, Try.ntmps29
      go_wp2_with fail
      refine HR1.out.mono ?_
      rintro e w1 ⟨va, vc, rfl, ho, hs, b1⟩
      have HS : Aside (Sl w1 va L vc l) := hs
      clear ho hs
      go_wp2_with fail
      refine (HErr.out va vc w1 HS.out).mono ?_
      rintro e w2 ⟨rfl, b2⟩
      have q2 := below2 b1 b2
      go_wp2_with fail
      refine (HBd.out va vc w2 (HS.out.below b2) q2).mono ?_
      rintro e w3 ⟨ba, bn, bc, rfl, HSame, b3⟩
      have q3 := below2 q2 b3
      go_wp2_with fail
      refine HSame.out.mono ?_
      rintro e w4 ⟨rfl, b4⟩
      have q4 := below2 q3 b4
      go_wp2
      go_ret
      exact ⟨by rw [HE1.out]; rfl, q4⟩
    | false =>
      have HE1 : Aside (treeE T = 1) := by unfold Aside; rw [HE.out]; simp
      go_enter Try.func29, Try.ntmps29
      go_wp2_with fail
      refine HR1.out.mono ?_
      rintro e w1 ⟨va, vc, rfl, ho, hs, b1⟩
      have HS : Aside (Sl w1 va L vc l) := hs
      clear ho hs
      go_wp2_with fail
      refine (HErr.out va vc w1 HS.out).mono ?_
      rintro e w2 ⟨rfl, b2⟩
      have q2 := below2 b1 b2
      go_wp2_with fail
      refine (HBd.out va vc w2 (HS.out.below b2) q2).mono ?_
      rintro e w3 ⟨ba, bn, bc, rfl, HSame, b3⟩
      have q3 := below2 q2 b3
      go_wp2_with fail
      refine HSame.out.mono ?_
      rintro e w4 ⟨rfl, b4⟩
      have q4 := below2 q3 b4
      go_wp2
      go_ret
      exact ⟨by rw [HE1.out]; rfl, q4⟩
  · have HE : Aside (treeE T = 1) := by unfold Aside treeE; rw [← hl, if_neg (fun h => h0 h.1)]
    obtain ⟨c, hc⟩ : ∃ c, c = M.chk l := ⟨_, rfl⟩
    have HErr : Aside (∀ va vc W, Sl W va L vc l → Calls Try.prog 52 #[.slice va L vc] W fun e w' => e = .returned (.int .i64 c) ∧ Below W.heap.size W w') := fun va vc W hs => by
      rw [hc]; exact error_any va L vc l W hs.1 (by omega)
    have hcb : (c != 0) = true := by rw [hc]; simp [h0]
    clear HR h0 hl hL hT hfl hc
    go_enter Try.func29, Try.ntmps29
    go_wp2_with fail
    refine HR1.out.mono ?_
    rintro e w1 ⟨va, vc, rfl, ho, hs, b1⟩
    have HS : Aside (Sl w1 va L vc l) := hs
    clear ho hs
    go_wp2_with fail
    refine (HErr.out va vc w1 HS.out).mono ?_
    rintro e w2 ⟨rfl, b2⟩
    have q2 := below2 b1 b2
    go_wp2
    go_ret
    exact ⟨by rw [HE.out]; rfl, q2⟩
end Go.Proofs.Ytoeipmoonmgajac

namespace Go.Proofs.Ytoeipmoonmgajac.M

theorem mem_dif (a b : List (Int × Int)) (c : Chg) : c ∈ dif a b ↔ ∃ k : Nat, k < 100 ∧ find (k : Int) a ≠ find (k : Int) b ∧ c = ((k : Int), find k a, find k b) := mem_difF a b 100 c
theorem dif_fine {a b : List (Int × Int)} (ha : Ok a) (hb : Ok b) : Fine (-1) (dif a b) := by
  refine ⟨fun c hc => ?_, difF_rise a b 100⟩
  obtain ⟨k, h1, h2, rfl⟩ := (mem_dif a b c).1 hc
  have r1 := find_range (key := (k : Int)) ha
  have r2 := find_range (key := (k : Int)) hb
  exact ⟨by show -1 < (k : Int); omega, by show (k : Int) ≤ 99; omega, r1.1, r1.2, r2.1, r2.2, h2⟩
theorem dif_clash (a b : List (Int × Int)) : clashF a (dif a b) = false := by
  unfold clashF
  rw [List.any_eq_false]
  intro c hc
  obtain ⟨k, h1, h2, rfl⟩ := (mem_dif a b c).1 hc
  simp
theorem dif_tab (a b : List (Int × Int)) (k : Nat) (hk : k < 100) : tab (fun x => find x a) (dif a b) (k : Int) = find k b := by
  rcases tab_cases (fun x => find x a) _ (difF_rise a b 100) (k : Int) with ⟨c, hc, e1, e2⟩ | ⟨hno, e2⟩
  · obtain ⟨j, h1, h2, rfl⟩ := (mem_dif a b c).1 hc
    have : (j : Int) = (k : Int) := e1
    have : j = k := by omega
    subst this
    exact e2
  · by_cases h : find (k : Int) a = find (k : Int) b
    · exact e2.trans h
    · exact absurd rfl (hno _ ((mem_dif a b _).2 ⟨k, hk, h, rfl⟩))
theorem dif_patch {a b : List (Int × Int)} (ha : chk a = 0) (hb : chk b = 0) : patchE a (dif a b) = 0 ∧ patchV a (dif a b) = b := by
  have oa := (chk_zero a).1 ha
  have ob := (chk_zero b).1 hb
  have e : ofTab (tab (fun k => find k a) (dif a b)) = b := ofTab_self ob.2 _ fun i hi => dif_tab a b i hi
  have e0 : patchE a (dif a b) = 0 := by
    unfold patchE
    rw [e, ha, (fine_iff _).2 (dif_fine oa.2 ob.2), dif_clash]
    have := ob.1
    simp
    omega
  refine ⟨e0, ?_⟩
  unfold patchV
  rw [if_pos e0, e]
theorem difF_swap (a b : List (Int × Int)) (n : Nat) : (difF a b n).map swapC = difF b a n := by
  induction n with
  | zero => rfl
  | succ n ih =>
    rw [difF, difF]
    by_cases h : find (n : Int) a = find (n : Int) b
    · rw [if_neg (by simp [h]), if_neg (by simp [h]), ih]
    · rw [if_pos h, if_pos (fun e => h e.symm), List.map_append, ih]; rfl
theorem dif_back {a b : List (Int × Int)} (ha : chk a = 0) (hb : chk b = 0) : backE (dif a b) = 0 ∧ backV (dif a b) = dif b a := by
  have hf := (fine_iff _).2 (dif_fine ((chk_zero a).1 ha).2 ((chk_zero b).1 hb).2)
  unfold backE backV
  rw [if_pos hf, if_pos hf]
  exact ⟨rfl, difF_swap a b 100⟩
theorem dif_nil {a b : List (Int × Int)} (ha : chk a = 0) (hb : chk b = 0) : dif a b = [] ↔ a = b := by
  have oa := ((chk_zero a).1 ha).2
  have ob := ((chk_zero b).1 hb).2
  constructor
  · intro h
    refine ext _ _ oa ob fun k => ?_
    by_cases hk : 0 ≤ k ∧ k ≤ 99
    · obtain ⟨i, rfl⟩ := Int.eq_ofNat_of_zero_le hk.1
      by_cases e : find (i : Int) a = find (i : Int) b
      · exact e
      · have := (mem_dif a b _).2 ⟨i, by omega, e, rfl⟩
        rw [h] at this
        simp at this
    · rw [find_out oa k (by omega), find_out ob k (by omega)]
  · rintro rfl
    refine List.eq_nil_iff_forall_not_mem.2 fun c hc => ?_
    obtain ⟨k, _, h, _⟩ := (mem_dif a a c).1 hc
    exact h rfl
theorem difF_le (a b : List (Int × Int)) (n : Nat) : (difF a b n).length ≤ (foldTo (fun i => find (i : Int) a) n).length + (foldTo (fun i => find (i : Int) b) n).length := by
  induction n with
  | zero => simp [difF]
  | succ n ih =>
    rw [difF, foldTo, foldTo]
    by_cases h : find (n : Int) a = find (n : Int) b
    · rw [if_neg (by simp [h])]
      split <;> split <;> (try simp) <;> omega
    · rw [if_pos h]
      by_cases h1 : find (n : Int) a = -1
      · rw [if_pos h1, if_neg (by omega)]; simp; omega
      · rw [if_neg h1]
        split <;> simp <;> omega
theorem dif_le {a b : List (Int × Int)} (ha : chk a = 0) (hb : chk b = 0) : (dif a b).length ≤ a.length + b.length := by
  have oa := ((chk_zero a).1 ha).2
  have ob := ((chk_zero b).1 hb).2
  have h := difF_le a b 100
  have e1 : foldTo (fun i => find (i : Int) a) 100 = a := ofTab_self oa (fun k => find k a) fun _ _ => rfl
  have e2 : foldTo (fun i => find (i : Int) b) 100 = b := ofTab_self ob (fun k => find k b) fun _ _ => rfl
  rw [e1, e2] at h
  exact h
theorem dif_at (a b : List (Int × Int)) (k : Nat) (h : k < (dif a b).length) : ∃ i : Nat, i < 100 ∧ find (i : Int) a ≠ find (i : Int) b ∧ (dif a b).getD k (0, 0, 0) = ((i : Int), find i a, find i b) := by
  obtain ⟨i, h1, h2, h3⟩ := (mem_dif a b _).1 (gmem (dif a b) k h)
  exact ⟨i, h1, h2, h3⟩

/-- What of the second's changes is not yet in the first. -/
def left (b l m : List (Int × Int)) : List Chg := (dif b m).filter (fun c => decide (find c.1 l ≠ c.2.2))
theorem difF_left (b l m : List (Int × Int)) (n : Nat) (h : ∀ k : Nat, k < n → mclash (find k b) (find k l) (find k m) = false) :
    (difF b m n).filter (fun c => decide (find c.1 l ≠ c.2.2)) = (sel (fun k => decide (find (k : Int) b ≠ find (k : Int) m)) n).filterMap (aloneC b l m) := by
  induction n with
  | zero => rfl
  | succ n ih =>
    have ih := ih fun k hk => h k (by omega)
    have hc := h n (by omega)
    unfold mclash at hc
    rw [decide_eq_false_iff_not] at hc
    rw [difF, sel]
    by_cases h1 : find (n : Int) b = find (n : Int) m
    · rw [if_neg (by simp [h1]), if_neg (by simp [h1]), ih]
    · rw [if_pos h1, if_pos (by simp [h1]), List.filter_append, List.filterMap_append, ih]
      congr 1
      by_cases h2 : find (n : Int) b = find (n : Int) l
      · have h3 : find (n : Int) l ≠ find (n : Int) m := by omega
        simp [aloneC, h2, h3]
      · have h3 : find (n : Int) l = find (n : Int) m := by omega
        simp [aloneC, h3, h1]
theorem left_alone (b l m : List (Int × Int)) (h : mkeys b l m = []) : left b l m = alone b l m := by
  refine difF_left b l m 100 fun k hk => ?_
  cases hm : mclash (find (k : Int) b) (find (k : Int) l) (find (k : Int) m) with
  | false => rfl
  | true =>
    have : (k : Int) ∈ mkeys b l m := (mem_sel _ _ _).2 ⟨k, hk, hm, rfl⟩
    rw [h] at this
    simp at this
theorem left_patch {b l m : List (Int × Int)} (hE : mergeE b l m = 0) (hK : mkeys b l m = []) : patchE l (left b l m) = 0 ∧ patchV l (left b l m) = mrows b l m := by
  have z1 : chk b = 0 := by unfold mergeE at hE; split at hE <;> omega
  have z2 : chk l = 0 := by unfold mergeE at hE; rw [if_neg (by omega)] at hE; split at hE <;> omega
  have z3 : chk m = 0 := by unfold mergeE at hE; rw [if_neg (by omega), if_neg (by omega)] at hE; split at hE <;> omega
  have h := alone_patch z1 z2 z3
  rw [left_alone b l m hK]
  have e0 : patchE l (alone b l m) = 0 := h.1.trans hE
  refine ⟨e0, ?_⟩
  unfold patchV
  rw [if_pos e0, h.2]
end Go.Proofs.Ytoeipmoonmgajac.M

namespace Go.Proofs.Ytoeipmoonmgajac
open Go.RowKit

set_option maxRecDepth 100000 in
set_option maxHeartbeats 16000000 in
theorem differ_any (a1 a2 : Option Addr) (n1 n2 c1 c2 : Nat) (l m : List (Int × Int)) (w : World) (h1 : Rd w a1 n1 l) (h2 : Rd w a2 n2 m) (z1 : M.chk l = 0) (z2 : M.chk m = 0) :
    Calls Try.prog 47 #[.slice a1 n1 c1, .slice a2 n2 c2] w fun e w' => ∃ va vn vc, e = .returned (.slice va vn vc) ∧ Rc w' va vn (M.dif l m) ∧ vn ≤ vc ∧ vc ≤ maxLen ∧ Below w.heap.size w w' := by
  obtain ⟨Z, hZ, hz⟩ := zeroTable
  have k1 : n1 ≤ 40 := by rw [← h1.1]; exact ((M.chk_zero l).1 z1).1
  have k2 : n2 ≤ 40 := by rw [← h2.1]; exact ((M.chk_zero m).1 z2).1
  have H2 : Hid (Rd w a2 n2 m) := h2
  have SP1 := spread_any a1 n1 c1 l w h1 k1
  clear h1 h2 z1 z2
  go_enter Try.func47, Try.ntmps47
  go_wp2_with fail
  refine SP1.mono ?_
  rintro e w4 ⟨cx, rfl, hcx, hfx, b4⟩
  have HCX : Aside (cx.size = 100) := hcx
  have HFX : Aside (∀ i : Nat, i < 100 → cx[i]? = some (.int .i64 (M.find i l))) := hfx
  clear hcx hfx SP1
  go_wp2_with fail
  refine (spread_any a2 n2 c2 m _ (H2.out.below b4 (Nat.le_refl _)) k2).mono ?_
  rintro e w5 ⟨cy, rfl, hcy, hfy, hb5⟩
  have b5 := below2 b4 hb5
  have HCY : Aside (cy.size = 100) := hcy
  have HFY : Aside (∀ i : Nat, i < 100 → cy[i]? = some (.int .i64 (M.find i m))) := hfy
  clear hcy hfy hb5 b4 H2
  obtain ⟨S, hS⟩ : ∃ S, S = w5.heap.size := ⟨_, rfl⟩
  obtain ⟨V3, hV3⟩ : ∃ V3, V3 = (w5.alloc (.cells Z 80)).alloc (.cells Z 80) := ⟨_, rfl⟩
  have g0 : V3.heap[S]? = some (.cells Z 80 (0, 0)) := by rw [hV3, hS]; exact (Below.heap_alloc _ _ _ (by simp)).trans (heap_alloc_new w5 _)
  have g1 : V3.heap[S + 1]? = some (.cells Z 80 (0, 0)) := by rw [hV3, hS, show w5.heap.size + 1 = (w5.alloc (.cells Z 80)).heap.size by simp]; exact heap_alloc_new _ _
  have bV3 : Below w5.heap.size w5 V3 := by rw [hV3]; exact ((Below.refl _ _).alloc (Nat.le_refl _) _).alloc (by simp) _
  obtain ⟨V4, hV4⟩ : ∃ V4, V4 = V3.setRow S cx := ⟨_, rfl⟩
  obtain ⟨V5, hV5⟩ : ∃ V5, V5 = V4.setRow (S + 1) cy := ⟨_, rfl⟩
  have g4 : V4.heap[S + 1]? = some (.cells Z 80 (0, 0)) := by rw [hV4]; exact (setRow_other _ _ _ _ (by omega)).trans g1
  have GX : Aside (V5.heap[S]? = some (.cells cx 80 (0, 0))) := by unfold Aside; rw [hV5, setRow_other _ _ _ _ (by omega), hV4]; exact setRow_heap _ _ Z cx _ _ g0
  have GY : Aside (V5.heap[S + 1]? = some (.cells cy 80 (0, 0))) := by unfold Aside; rw [hV5]; exact setRow_heap _ _ Z cy _ _ g4
  have hV5s : V5.heap.size = S + 1 + 1 := by rw [hV5, hV4, hV3, hS]; simp
  have bV5 : Below w5.heap.size w5 V5 := by rw [hV5, hV4]; exact below_setRow (below_setRow bV3 (by omega) _) (by omega) _
  have b7 : Below w.heap.size w V5 := b5.trans (bV5.mono b5.size)
  have hwS : w.heap.size ≤ S := by rw [hS]; exact b5.size
  have G0 : Hid (V3.heap[S]? = some (.cells Z 80 (0, 0))) := g0
  have G4 : Hid (V4.heap[S + 1]? = some (.cells Z 80 (0, 0))) := g4
  have HV3 : Hid (V3 = (w5.alloc (.cells Z 80)).alloc (.cells Z 80)) := hV3
  have HV4 : Hid (V4 = V3.setRow S cx) := hV4
  have HV5 : Hid (V5 = V4.setRow (S + 1) cy) := hV5
  have HS : Hid (S = w5.heap.size) := hS
  have HZs : Hid (Z.size = 100) := hZ
  have HVs : Aside (V5.heap.size = S + 1 + 1) := hV5s
  clear hV3 hV4 hV5 g0 g1 g4 hS hZ bV3 bV5 b5 hV5s
  have HOX : Hid (cx.all (·.oneCell') = true) := all_one cx _ HCX.out HFX.out
  have HOY : Hid (cy.all (·.oneCell') = true) := all_one cy _ HCY.out HFY.out
  have HCells : Hid (∀ W, Below V5.heap.size V5 W → ∀ k : Nat, k < 100 → W.cell? ⟨S, k, none⟩ = some (.int .i64 (M.find k l)) ∧ W.cell? ⟨S + 1, k, none⟩ = some (.int .i64 (M.find k m))) := fun W hW k hk => by
    have hs := HVs.out
    refine ⟨?_, ?_⟩
    · rw [hW.cell (p := ⟨S, k, none⟩) (by show S < _; omega), cell_of_row V5 _ k cx _ _ GX.out]; exact HFX.out k hk
    · rw [hW.cell (p := ⟨S + 1, k, none⟩) (by show S + 1 < _; omega), cell_of_row V5 _ k cy _ _ GY.out]; exact HFY.out k hk
  go_wp2_with (first
    | (refine wpList_store_row rfl 80 _ _ rfl w5.heap.size cx rfl rfl 80 Z (by rw [← HV3.out, ← HS.out]; exact G0.out) (by rw [HCX.out]; exact infoTable) (by rw [HCX.out]; exact HZs.out) HOX.out ?_; rw [← HV3.out, ← HS.out, ← HV4.out])
    | (refine wpList_store_row rfl 80 _ _ rfl (S + 1) cy rfl rfl 80 Z G4.out (by rw [HCY.out]; exact infoTable) (by rw [HCY.out]; exact HZs.out) HOY.out ?_; rw [← HV5.out]))
  go_loopg [7, 8] 100 (fun g v ix wr => ∃ k : Nat, k + g = 100 ∧ ix = .int .i64 k ∧ Aside (OwnC wr V5.heap.size v (M.difF l m k)) ∧ Below V5.heap.size V5 wr)
  case atStart => exact ⟨0, by omega, rfl, OwnC.nil _ _, Below.refl _ _⟩
  case round =>
    obtain ⟨k, hk, rfl, HO, hbel⟩ := hrel
    have hsz := hbel.size
    by_cases hlt : k < 100
    · have hki : (k : Int) ≤ 99 := by omega
      have hki2 : (k : Int) < 100 := by omega
      obtain ⟨cX, cY⟩ := HCells.out wr hbel k hlt
      have HK : Hid (∀ W, Below V5.heap.size wr W → W.cell? ⟨S, k, none⟩ = some (.int .i64 (M.find k l)) ∧ W.cell? ⟨S + 1, k, none⟩ = some (.int .i64 (M.find k m))) := fun W hW => HCells.out W (hbel.trans hW) k hlt
      have HStep : Hid (M.difF l m (k + 1) = if M.find (k : Int) l ≠ M.find (k : Int) m then M.difF l m k ++ [((k : Int), M.find k l, M.find k m)] else M.difF l m k) := rfl
      obtain ⟨x, hx⟩ : ∃ x, x = M.find (k : Int) l := ⟨_, rfl⟩
      obtain ⟨y, hy⟩ : ∃ y, y = M.find (k : Int) m := ⟨_, rfl⟩
      rw [← hx] at cX HK HStep
      rw [← hy] at cY HK HStep
      have HLe : Hid ((M.difF l m k).length + 1 ≤ 1000000) := by have := M.difF_len l m k; unfold Hid; omega
      clear hx hy
      by_cases hxy : x = y
      · have hb : (x != y) = false := by simp [hxy]
        have HO2 : Aside (OwnC wr V5.heap.size u7 (M.difF l m (k + 1))) := by unfold Aside; rw [HStep.out, if_neg (by simp [hxy])]; exact HO.out
        clear hxy HO HStep
        go_wp2_with fail
        go_quiet (fail)
        go_wp2
        go_roundg (gk - 1)
        case measure => omega
        case rel => exact ⟨k + 1, by omega, by go_num, keep_row HO2.out (fun _ _ _ => rfl), below_drewN hbel _⟩
      · have hb : (x != y) = true := by simp [hxy]
        have HS2 : Hid (M.difF l m (k + 1) = M.difF l m k ++ [((k : Int), x, y)]) := by unfold Hid; rw [HStep.out, if_pos hxy]
        have HOD : Hid (∀ W : World, W.heap = wr.heap → OwnC (W.alloc (.cells #[.int .i64 (k : Int), .int .i64 x, .int .i64 y] 50)) V5.heap.size u7 (M.difF l m k)) := fun W hW => HO.out.allocW hW _ _
        clear hxy HO HStep
        go_wp2_with fail
        go_quiet (fail)
        obtain ⟨Wq, hWq⟩ : ∃ Wq, Wq = wr.drewN nq := ⟨_, rfl⟩
        have hqb : Below V5.heap.size wr Wq := by rw [hWq]; exact below_drewN (Below.refl _ _) _
        have hqh : Wq.heap = wr.heap := by rw [hWq]; rfl
        have hqs : Wq.heap.size = wr.heap.size := by rw [hqh]
        obtain ⟨cX2, cY2⟩ := HK.out Wq hqb
        rw [← hWq]
        have HQH : Hid (Wq.heap = wr.heap) := hqh
        have HQB : Hid (Below V5.heap.size wr Wq) := hqb
        have hsq : V5.heap.size ≤ Wq.heap.size := by omega
        clear hWq hqb hqh hqs
        go_wp2_with fail
        go_region_held3 (fun W => W.cell? ⟨S, k, none⟩ = some (.int .i64 x) ∧ W.cell? ⟨S + 1, k, none⟩ = some (.int .i64 y)) (first | (simp [*]; done) | exact hA.out | go_keep) (first | (refine step_append_rc rfl _ _ rfl V5.heap.size _ (M.difF l m k) rfl (HOD.out _ HQH.out) Wq.heap.size (k : Int) x y rfl (rc_cells _ _ _ _) HLe.out (by simp; omega) ?_; intro v5 w6 ho5 hb5; have HB5 : Hid (Below V5.heap.size wr w6) := HQB.out.trans ((((Below.refl _ _).drew).alloc hsq _).trans hb5); have hA : Hid (w6.cell? ⟨S, k, none⟩ = some (.int .i64 x) ∧ w6.cell? ⟨S + 1, k, none⟩ = some (.int .i64 y)) := HK.out w6 HB5.out; obtain ⟨s0, s1⟩ := hA.out; have HO5 : Hid (OwnC w6 V5.heap.size v5 (M.difF l m k ++ [((k : Int), x, y)])) := ho5; clear ho5 hb5))
        have HO2 : Aside (OwnC w6 V5.heap.size v5 (M.difF l m (k + 1))) := by unfold Aside; rw [HS2.out]; exact HO5.out
        have hb4 : Below V5.heap.size V5 w6 := hbel.trans HB5.out
        clear HO5 hA
        go_wp2
        go_roundg (gk - 1)
        case measure => omega
        case rel => exact ⟨k + 1, by omega, by go_num, HO2, hb4⟩
    · obtain rfl : k = 100 := by omega
      obtain ⟨va, vc, hv, hr, hl, hm2⟩ := HO.out.rc
      have HV : Hid (u7 = .slice va (M.difF l m 100).length vc) := hv
      have HVr : Hid (Rc wr va (M.difF l m 100).length (M.difF l m 100)) := hr
      have hki : decide ((100 : Int) ≤ 99) = false := by decide
      clear hv hr
      go_wp2
      go_ret
      exact ⟨va, _, vc, HV.out ▸ rfl, HVr.out, hl, hm2, b7.trans (hbel.mono b7.size)⟩
end Go.Proofs.Ytoeipmoonmgajac

namespace Go.Proofs.Ytoeipmoonmgajac
open Go.RowKit

theorem treeE_chk {T : List (List (List (Int × Int)))} (h : treeE T = 0) : M.chk (flat T) = 0 := by
  unfold treeE at h
  by_cases e : M.chk (flat T) = 0 ∧ T = M.build (flat T)
  · exact e.1
  · rw [if_neg e] at h; omega
set_option maxHeartbeats 4000000 in
theorem diffOf_any (a1 a2 : Option Addr) (n1 n2 c1 c2 : Nat) (T U : List (List (List (Int × Int)))) (w : World) (h1 : TvS w a1 n1 c1 T) (f1 : (flat T).length ≤ 900000) (h2 : TvS w a2 n2 c2 U) (f2 : (flat U).length ≤ 900000) :
    Calls Try.prog 20 #[.slice a1 n1 c1, .slice a2 n2 c2] w fun e w' => HandsC w w' (difV T U) (difE T U) e := by
  have E1 : Hid (∀ W, Below w.heap.size w W → Calls Try.prog 29 #[.slice a1 n1 c1] W fun e w' => e = .returned (.int .i64 (treeE T)) ∧ Below W.heap.size W w') := fun W hW => treeError_any a1 n1 c1 T W (h1.below hW) f1
  have E2 : Hid (∀ W, Below w.heap.size w W → Calls Try.prog 29 #[.slice a2 n2 c2] W fun e w' => e = .returned (.int .i64 (treeE U)) ∧ Below W.heap.size W w') := fun W hW => treeError_any a2 n2 c2 U W (h2.below hW) f2
  have R1 : Hid (∀ W, Below w.heap.size w W → Calls Try.prog 31 #[.slice a1 n1 c1] W fun e w' => ∃ va vn vc, e = .returned (.slice va vn vc) ∧ Rd w' va vn (flat T) ∧ Below W.heap.size W w') := fun W hW => (rowsOf_any a1 n1 c1 T W (h1.below hW) f1).mono fun e w' ⟨va, vc, he, _, hs, hb⟩ => ⟨va, _, vc, he, hs.1, hb⟩
  have R2 : Hid (∀ W, Below w.heap.size w W → Calls Try.prog 31 #[.slice a2 n2 c2] W fun e w' => ∃ va vn vc, e = .returned (.slice va vn vc) ∧ Rd w' va vn (flat U) ∧ Below W.heap.size W w') := fun W hW => (rowsOf_any a2 n2 c2 U W (h2.below hW) f2).mono fun e w' ⟨va, vc, he, _, hs, hb⟩ => ⟨va, _, vc, he, hs.1, hb⟩
  clear h1 h2 f1 f2
  by_cases z1 : treeE T = 0
  · by_cases z2 : treeE U = 0
    · have e0 : difE T U = 0 := by unfold difE; rw [if_neg (by omega)]; exact z2
      unfold difV
      rw [e0, if_pos rfl]
      have Z1 : Hid (M.chk (flat T) = 0) := treeE_chk z1
      have Z2 : Hid (M.chk (flat U) = 0) := treeE_chk z2
      rw [z1] at E1
      rw [z2] at E2
      clear z1 z2 e0
      go_enter Try.func20, Try.ntmps20
      go_wp2_with fail
      refine (E1.out _ (Below.refl _ _)).mono ?_
      rintro e w1 ⟨rfl, q1⟩
      go_wp2_with fail
      refine (E2.out _ q1).mono ?_
      rintro e w2 ⟨rfl, ba⟩
      have q2 := below2 q1 ba
      clear ba q1
      go_wp2_with fail
      refine (R1.out _ q2).mono ?_
      rintro e w3 ⟨xa, xn, xc, rfl, r, ba⟩
      have X3 : Hid (Rd w3 xa xn (flat T)) := r
      have q3 := below2 q2 ba
      clear ba q2 r
      go_wp2_with fail
      refine (R2.out _ q3).mono ?_
      rintro e w4 ⟨ya, yn, yc, rfl, r, ba⟩
      have Y4 : Hid (Rd w4 ya yn (flat U)) := r
      have X4 : Hid (Rd w4 xa xn (flat T)) := X3.out.below ba (Nat.le_refl _)
      have q4 := below2 q3 ba
      clear ba q3 r X3
      go_wp2_with fail
      refine (differ_any _ _ _ _ _ _ _ _ _ X4.out Y4.out Z1.out Z2.out).mono ?_
      rintro e w5 ⟨va, vn, vc, rfl, r, g1, g2, ba⟩
      have V5 : Hid (Rc w5 va vn (M.dif (flat T) (flat U))) := r
      have q5 := below2 q4 ba
      clear ba q4 r
      go_wp2
      go_ret2
      exact ⟨va, vn, vc, rfl, V5.out, g1, g2, q5⟩
    · have e0 : difE T U = treeE U := by unfold difE; rw [if_neg (by omega)]
      unfold difV
      rw [e0, if_neg z2]
      obtain ⟨E, hE⟩ : ∃ E, E = treeE U := ⟨_, rfl⟩
      rw [← hE] at E2 z2 ⊢
      rw [z1] at E1
      have hEb : (E != 0) = true := by simp [z2]
      clear z1 z2 e0 hE
      go_enter Try.func20, Try.ntmps20
      go_wp2_with fail
      refine (E1.out _ (Below.refl _ _)).mono ?_
      rintro e w1 ⟨rfl, q1⟩
      go_wp2_with fail
      refine (E2.out _ q1).mono ?_
      rintro e w2 ⟨rfl, ba⟩
      have q2 := below2 q1 ba
      go_wp2
      go_ret2
      exact HandsC.err E q2
  · have e0 : difE T U = treeE T := by unfold difE; rw [if_pos z1]
    unfold difV
    rw [e0, if_neg z1]
    obtain ⟨E, hE⟩ : ∃ E, E = treeE T := ⟨_, rfl⟩
    rw [← hE] at E1 z1 ⊢
    have hEb : (E != 0) = true := by simp [z1]
    clear z1 e0 hE
    go_enter Try.func20, Try.ntmps20
    go_wp2_with fail
    refine (E1.out _ (Below.refl _ _)).mono ?_
    rintro e w1 ⟨rfl, q1⟩
    go_wp2
    go_ret2
    exact HandsC.err E q1
end Go.Proofs.Ytoeipmoonmgajac

namespace Go.Proofs.Ytoeipmoonmgajac
open Go.ChangeShapes Go.WideShapes Go.ChangeAt Go.RowKit Go.Deep

theorem ownTry : ownKnob Try.prog.godebug = none := by kernel_rfl
theorem laidTry : laidOutB Try.prog = true := by kernel_rfl

theorem open_rows {H : Type} {enc : TypeId × Value → H} {w : World} {base : Nat} {spare : Nat → Bool} {held : Bool} {fuel : Nat} {a : Option Addr} {len cap : Nat} {x : DataW H × List MemPlace}
    (h : DataW.trod enc Try.prog w base spare held fuel 32 [.slice a len cap] = some x) : ∃ l, Rd w a len l ∧ len ≤ cap ∧ cap ≤ maxLen ∧ (a = none → len = 0 ∧ cap = 0) := by
  rcases open_slice_pairs Try.underlying32 Try.underlying56 (by kernel_rfl) rfl rfl (by kernel_rfl) (by kernel_rfl) h with ⟨hcs, _⟩ | ⟨ad, len', cap', m, n, V0, V1, D0, D1, P0, P1, hcs, _, hl, hm, hmm, _, hc⟩
  · simp at hcs
    obtain ⟨rfl, rfl, rfl⟩ := hcs
    exact ⟨[], ⟨rfl, Or.inl rfl⟩, Nat.le_refl _, by simp [maxLen], fun _ => ⟨rfl, rfl⟩⟩
  · simp at hcs
    obtain ⟨rfl, rfl, rfl⟩ := hcs
    have hlm : len ≤ m := by rw [hmm]; split <;> omega
    have each : ∀ i, i < len → ∃ q : Int × Int, w.cell? (ad.add (i * 2)) = some (.int .i64 q.1) ∧ w.cell? (ad.add (i * 2 + 1)) = some (.int .i64 q.2) := by
      intro i hi
      obtain ⟨c0, c1, t0, t1⟩ := hc i (by omega)
      obtain ⟨x0, e0, _, _⟩ := DataW.trod_int (k := .i64) Try.underlying3 t0
      obtain ⟨x1, e1, _, _⟩ := DataW.trod_int (k := .i64) Try.underlying3 t1
      simp at e0 e1
      rw [e0] at c0
      rw [e1] at c1
      exact ⟨(x0, x1), c0, c1⟩
    obtain ⟨q, hq⟩ := choose_lt each
    refine ⟨(List.range len).map q, ⟨by simp, ?_⟩, hl, hm, fun h => by simp at h⟩
    by_cases h0 : len = 0
    · exact Or.inl h0
    · obtain ⟨b, off, spot⟩ := ad
      have hs : spot = none := by
        have h1 := (hq 0 (by omega)).1
        simpa [Addr.add] using World.cell?_spot h1
      subst hs
      refine Or.inr ⟨b, off, rfl, World.block_lt_of_cell? w _ (hq 0 (by omega)).1, fun i hi => ?_⟩
      have h1 := hq i hi
      rw [Addr.add_lit, Addr.add_lit, ← Nat.add_assoc] at h1
      have e : ((List.range len).map q).getD i (0, 0) = q i := by simp [List.getD, hi]
      rw [e]
      exact h1
end Go.Proofs.Ytoeipmoonmgajac

namespace Go.Proofs.Ytoeipmoonmgajac
theorem trod_int_mk {H : Type} {enc : TypeId × Value → H} {w : World} {base : Nat} {spare : Nat → Bool} {held : Bool} {x : Int} (wx : (Lit.int .i64 x).wf = true) :
    DataW.trod enc Try.prog w base spare held 1 3 [.int .i64 x] = some (.lit (.int .i64 x), []) := by
  simp [DataW.trod, Try.underlying3, wx]
end Go.Proofs.Ytoeipmoonmgajac

namespace Go.Proofs.Ytoeipmoonmgajac
open Go.ChangeShapes Go.WideShapes Go.ChangeAt Go.RowKit Go.Deep

theorem bulk_all {H : Type} (D : Nat → DataW H) (f : Nat → Nat) (is : List Nat) (h : ∀ i ∈ is, f i ≤ Rows.uptoBulk (D i)) : (is.map f).sum ≤ Rows.uptoBulkAll (is.map D) := by
  induction is with
  | nil => simp [Rows.uptoBulkAll]
  | cons i r ih =>
    have h1 := h i (by simp)
    have h2 := ih fun j hj => h j (by simp [hj])
    simp only [List.map_cons, Rows.uptoBulkAll, List.sum_cons]
    omega
theorem bulk_part {H : Type} (D : Nat → DataW H) (is : List Nat) (i : Nat) (h : i ∈ is) : Rows.uptoBulk (D i) ≤ Rows.uptoBulkAll (is.map D) := by
  induction is with
  | nil => simp at h
  | cons j r ih =>
    simp only [List.map_cons, Rows.uptoBulkAll]
    rcases List.mem_cons.1 h with rfl | h
    · omega
    · have := ih h; omega
theorem bulk_one {H : Type} (d : DataW H) : 1 ≤ Rows.uptoBulk d := by
  cases d with
  | lit l => cases l <;> simp [Rows.uptoBulk]
  | nil => simp [Rows.uptoBulk]
  | ptr d => simp [Rows.uptoBulk]
  | slice elems spare => simp [Rows.uptoBulk]
  | agg parts => simp [Rows.uptoBulk]
  | iface t d => simp [Rows.uptoBulk]
  | map entries => simp [Rows.uptoBulk]
  | held h => simp [Rows.uptoBulk]

section
variable {H : Type} {enc : TypeId × Value → H} {w : World} {base : Nat} {spare : Nat → Bool} {held : Bool}

theorem open_chunk {fuel : Nat} {cs : List Value} {x : DataW H × List MemPlace} (h : DataW.trod enc Try.prog w base spare held fuel 32 cs = some x) :
    ∃ a len cap l, cs = [.slice a len cap] ∧ Sl w a len cap l ∧ len * 3 ≤ Rows.uptoBulk x.1 := by
  rcases open_slice_pairs Try.underlying32 Try.underlying56 (by kernel_rfl) rfl rfl (by kernel_rfl) (by kernel_rfl) h with ⟨rfl, rfl⟩ | ⟨ad, len, cap, m, n, V0, V1, D0, D1, P0, P1, rfl, _, hl, hm, hmm, rfl, hc⟩
  · obtain ⟨l, r1, r2⟩ := open_rows h
    exact ⟨none, 0, 0, l, rfl, ⟨r1, r2⟩, by simp⟩
  · obtain ⟨l, r1, r2⟩ := open_rows h
    refine ⟨some ad, len, cap, l, rfl, ⟨r1, r2⟩, ?_⟩
    have := bulk_all (fun i => DataW.agg [D0 i, D1 i]) (fun _ => 3) (List.range len) (fun i _ => by
      have h1 := bulk_one (D0 i)
      have h2 := bulk_one (D1 i)
      simp only [Rows.uptoBulk, Rows.uptoBulkAll]; omega)
    simp only [Rows.uptoBulk]
    have e : (List.map (fun _ => 3) (List.range len)).sum = len * 3 := by
      rw [List.map_const', List.sum_replicate_nat]; simp
    omega

theorem open_level {fuel : Nat} {cs : List Value} {x : DataW H × List MemPlace} (h : DataW.trod enc Try.prog w base spare held fuel 58 cs = some x) :
    ∃ a len cap L, cs = [.slice a len cap] ∧ LvS w a len cap L ∧ L.flatten.length * 3 ≤ Rows.uptoBulk x.1 := by
  rcases open_slice1 Try.underlying58 (by kernel_rfl) h with ⟨rfl, rfl⟩ | ⟨ad, len, cap, m, n, V, D, Pl, rfl, _, hl, hm, hmm, rfl, hc⟩
  · exact ⟨none, 0, 0, [], rfl, ⟨⟨rfl, Or.inl rfl⟩, Nat.le_refl _, by simp [maxLen], fun _ => ⟨rfl, rfl⟩⟩, by simp⟩
  · have hlm : len ≤ m := by rw [hmm]; split <;> omega
    have each : ∀ i, i < len → ∃ q : (Option Addr × Nat × Nat) × List (Int × Int), w.cell? (ad.add i) = some (.slice q.1.1 q.1.2.1 q.1.2.2) ∧ Sl w q.1.1 q.1.2.1 q.1.2.2 q.2 ∧ q.2.length * 3 ≤ Rows.uptoBulk (D i) := by
      intro i hi
      obtain ⟨c0, t0⟩ := hc i (by omega)
      obtain ⟨a', n', c', l, e, hs, hb⟩ := open_chunk t0
      simp at e
      rw [e] at c0
      exact ⟨((a', n', c'), l), c0, hs, by rw [hs.1.1]; exact hb⟩
    obtain ⟨q, hq⟩ := choose_lt each
    refine ⟨some ad, len, cap, (List.range len).map fun i => (q i).2, rfl, ⟨⟨by simp, ?_⟩, hl, hm, fun h => by simp at h⟩, ?_⟩
    · by_cases h0 : len = 0
      · exact Or.inl h0
      · obtain ⟨b, off, spot⟩ := ad
        have hs : spot = none := by
          have h1 := (hq 0 (by omega)).1
          simpa [Addr.add] using World.cell?_spot h1
        subst hs
        refine Or.inr ⟨b, off, rfl, World.block_lt_of_cell? w _ (hq 0 (by omega)).1, fun i hi => ?_⟩
        have h1 := hq i hi
        rw [Addr.add_lit] at h1
        have e : ((List.range len).map fun i => (q i).2).getD i [] = (q i).2 := by simp [List.getD, hi]
        rw [e]
        exact ⟨_, _, _, h1.1, h1.2.1⟩
    · have := bulk_all D (fun i => (q i).2.length * 3) (List.range len) (fun i hi => (hq i (by simpa using hi)).2.2)
      simp only [Rows.uptoBulk]
      have e : ∀ is : List Nat, (is.map fun i => (q i).2).flatten.length * 3 = (is.map fun i => (q i).2.length * 3).sum := by
        intro is
        induction is with
        | nil => simp
        | cons i r ih => simp only [List.map_cons, List.flatten_cons, List.length_append, List.sum_cons]; omega
      rw [e]
      omega

theorem open_tree {fuel : Nat} {a : Option Addr} {len cap : Nat} {x : DataW H × List MemPlace} (h : DataW.trod enc Try.prog w base spare held fuel 22 [.slice a len cap] = some x) :
    ∃ T, TvS w a len cap T ∧ (flat T).length * 3 ≤ Rows.uptoBulk x.1 := by
  rcases open_slice1 Try.underlying22 (by kernel_rfl) h with ⟨hcs, rfl⟩ | ⟨ad, len', cap', m, n, V, D, Pl, hcs, _, hl, hm, hmm, rfl, hc⟩
  · simp at hcs
    obtain ⟨rfl, rfl, rfl⟩ := hcs
    exact ⟨[], ⟨⟨rfl, Or.inl rfl⟩, Nat.le_refl _, by simp [maxLen], fun _ => ⟨rfl, rfl⟩⟩, by simp [flat, ground]⟩
  · simp at hcs
    obtain ⟨rfl, rfl, rfl⟩ := hcs
    have hlm : len ≤ m := by rw [hmm]; split <;> omega
    have each : ∀ i, i < len → ∃ q : (Option Addr × Nat × Nat) × List (List (Int × Int)), w.cell? (ad.add i) = some (.slice q.1.1 q.1.2.1 q.1.2.2) ∧ LvS w q.1.1 q.1.2.1 q.1.2.2 q.2 ∧ q.2.flatten.length * 3 ≤ Rows.uptoBulk (D i) := by
      intro i hi
      obtain ⟨c0, t0⟩ := hc i (by omega)
      obtain ⟨a', n', c', l, e, hs, hb⟩ := open_level t0
      simp at e
      rw [e] at c0
      exact ⟨((a', n', c'), l), c0, hs, hb⟩
    obtain ⟨q, hq⟩ := choose_lt each
    refine ⟨(List.range len).map fun i => (q i).2, ⟨⟨by simp, ?_⟩, hl, hm, fun h => by simp at h⟩, ?_⟩
    · by_cases h0 : len = 0
      · exact Or.inl h0
      · obtain ⟨b, off, spot⟩ := ad
        have hs : spot = none := by
          have h1 := (hq 0 (by omega)).1
          simpa [Addr.add] using World.cell?_spot h1
        subst hs
        refine Or.inr ⟨b, off, rfl, World.block_lt_of_cell? w _ (hq 0 (by omega)).1, fun i hi => ?_⟩
        have h1 := hq i hi
        rw [Addr.add_lit] at h1
        have e : ((List.range len).map fun i => (q i).2).getD i [] = (q i).2 := by simp [List.getD, hi]
        rw [e]
        exact ⟨_, _, _, h1.1, h1.2.1⟩
    · by_cases h0 : 0 < len
      · have e : flat ((List.range len).map fun i => (q i).2) = (q 0).2.flatten := by
          unfold flat ground
          have : ((List.range len).map fun i => (q i).2).getD 0 [] = (q 0).2 := by simp [List.getD, h0]
          rw [this]
        rw [e]
        have h1 := (hq 0 h0).2.2
        have h2 := bulk_part D (List.range len) 0 (by simpa using h0)
        simp only [Rows.uptoBulk]
        omega
      · obtain rfl : len = 0 := by omega
        simp [flat, ground]
end

theorem big_of {T : List (List (List (Int × Int)))} (h : (flat T).length ≤ 900000) : Big T := by
  intro c hc
  have := (List.sublist_flatten_of_mem hc).length_le
  unfold flat at h
  omega
end Go.Proofs.Ytoeipmoonmgajac

namespace Go.Proofs.Ytoeipmoonmgajac
open Go.ChangeShapes Go.WideShapes Go.ChangeAt Go.RowKit

set_option maxHeartbeats 8000000 in
theorem diffTells_walk (a1 a2 : Option Addr) (n1 n2 c1 c2 : Nat) (T U : List (List (List (Int × Int)))) (w : World) (h1 : TvS w a1 n1 c1 T) (f1 : (flat T).length ≤ 900000) (h2 : TvS w a2 n2 c2 U) (f2 : (flat U).length ≤ 900000) :
    Calls Try.prog 7 #[.slice a1 n1 c1, .slice a2 n2 c2] w fun e w' => e = .returned (.bool true) ∧ Below w.heap.size w w' := by
  have begun : Hid (∀ W, Below w.heap.size w W → Calls Try.prog 21 #[] W fun e w' => e = .returned (.bool true) ∧ Below w.heap.size w w' ∧ Below W.heap.size W w') := fun W hW => (diffBegun_any W).mono fun e w' ⟨h, hb⟩ => ⟨h, below2 hW hb, hb⟩
  have P1 : Hid (Calls Try.prog 19 #[.slice a1 n1 c1, .slice a2 n2 c2] w fun e w' => HandsC w w' (difV T U) (difE T U) e) := dof_any a1 a2 n1 n2 c1 c2 T U w h1 (big_of f1) h2 (big_of f2)
  have P2 : Hid (∀ W, Below w.heap.size w W → Calls Try.prog 20 #[.slice a1 n1 c1, .slice a2 n2 c2] W fun e w' => HandsC W w' (difV T U) (difE T U) e) := fun W hW => diffOf_any a1 a2 n1 n2 c1 c2 T U W (h1.below hW) f1 (h2.below hW) f2
  obtain ⟨B, hBB⟩ : ∃ B, B = difV T U := ⟨_, rfl⟩
  obtain ⟨F, hF⟩ : ∃ F, F = difE T U := ⟨_, rfl⟩
  rw [← hBB, ← hF] at P1 P2
  clear h1 h2 f1 f2 hBB hF
  go_enter Try.func7, Try.ntmps7
  go_wp2_with fail
  refine P1.out.mono ?_
  rintro e w1 ⟨ya, yn, yc, rfl, r, g1, g2, q1⟩
  have hyn : yn ≤ 9223372036854775807 := by unfold maxLen at g2; omega
  have Y1 : Hid (Rc w1 ya yn B) := r
  clear r g1 g2
  go_wp2_with fail
  refine (P2.out _ q1).mono ?_
  rintro e w2 ⟨va, vn, vc, rfl, r, g1, g2, ba⟩
  have V2 : Hid (Rc w2 va vn B) := r
  have Y2 : Hid (Rc w2 ya yn B) := Y1.out.below ba (Nat.le_refl _)
  have q2 := below2 q1 ba
  clear r g1 g2 ba Y1 q1
  go_wp2_with fail
  refine (begun.out _ q2).mono ?_
  rintro e w3 ⟨rfl, q3, ba⟩
  have V3 : Hid (Rc w3 va vn B) := V2.out.below ba (Nat.le_refl _)
  have Y3 : Hid (Rc w3 ya yn B) := Y2.out.below ba (Nat.le_refl _)
  clear ba Y2 V2 q2
  go_wp2_with fail
  refine (csame_any _ _ _ _ _ _ _ _ _ Y3.out V3.out hyn).mono ?_
  rintro e w4 ⟨rfl, ba⟩
  have hd3 : decide (B = B) = true := by simp
  have hd4 : (F == F) = true := by simp
  have q4 := below2 q3 ba
  go_wp2
  go_ret
  exact ⟨by simp, q4⟩

set_option maxRecDepth 100000 in
theorem diffTells_contract (H : Type) (enc : TypeId × Value → H) (W : World) (base : Nat) (args : Array Value) (ds gs : List (DataW H)) (before : List MemPlace)
    (hval0 : ∀ (j : Nat) t v, Try.f7.params[j]? = some t → args[j]? = some v → Value.okWide Try.prog W .any base t v)
    (hW : DataW.Whole enc Try.prog Try.f7.params.toList Rows.diffTellsSpec.vars false W args.toList ds gs before) (hk : Rows.uptoSmall H (ds ++ gs) = true) :
    Calls Try.prog 7 args W fun e W' => ∃ v, e = .returned v ∧ Rows.diffTellsSpec.post enc Try.prog Try.f7 false true false false W args v W' := by
  have hval : ∀ (j : Nat) t v, Try.f7.params[j]? = some t → args[j]? = some v → Value.okWide Try.prog W .any base t v := hval0
  have hW' := hW
  obtain ⟨p, q, hA0, hV, rfl, hfz, hnd⟩ := hW
  have hA : DataW.TrodAll enc Try.prog W 0 (fun _ => true) true Try.f7.params.toList args.toList ds p := hA0
  rw [Try.params7] at hA hval
  obtain ⟨v0, vs0, d0, ds0, p0, q0, hargs, rfl, rfl, h0, r0⟩ := trodAll_cons hA
  obtain ⟨v1, vs1, d1, ds1, p1, q1, rfl, rfl, rfl, h1, r1⟩ := trodAll_cons r0
  obtain ⟨rfl, rfl, rfl⟩ := trodAll_nil r1
  obtain rfl : args = #[v0, v1] := by cases args; simp_all
  obtain ⟨rfl, rfl⟩ := trodVars_none hV
  have hk1 : Rows.uptoSmall H [d0, d1] = true := hk
  have hb : Rows.uptoBulkAll [d0, d1] ≤ 1048576 := of_decide_eq_true hk1
  simp only [Rows.uptoBulkAll] at hb
  obtain ⟨a0, len0, cap0, rfl⟩ := okWide_slice Try.underlying22 (hval 0 22 v0 rfl rfl)
  have k0 := h0
  have lt0 : ∀ x ∈ p0, x.block < W.heap.size := by obtain ⟨m, hm⟩ := k0; exact DataW.trod_lt m _ _ _ hm
  obtain ⟨T0, hT0, hfl0⟩ : ∃ T, TvS W a0 len0 cap0 T ∧ (flat T).length * 3 ≤ Rows.uptoBulk d0 := by
    obtain ⟨fuel, hf⟩ := h0
    exact open_tree (by simpa [Value.cells] using hf)
  obtain ⟨a1, len1, cap1, rfl⟩ := okWide_slice Try.underlying22 (hval 1 22 v1 rfl rfl)
  have k1 := h1
  have lt1 : ∀ x ∈ p1, x.block < W.heap.size := by obtain ⟨m, hm⟩ := k1; exact DataW.trod_lt m _ _ _ hm
  obtain ⟨T1, hT1, hfl1⟩ : ∃ T, TvS W a1 len1 cap1 T ∧ (flat T).length * 3 ≤ Rows.uptoBulk d1 := by
    obtain ⟨fuel, hf⟩ := h1
    exact open_tree (by simpa [Value.cells] using hf)
  have hf0 : (flat T0).length ≤ 900000 := by omega
  have hf1 : (flat T1).length ≤ 900000 := by omega
  clear hA0 hval0
  refine (diffTells_walk a0 a1 len0 len1 cap0 cap1 T0 T1 W hT0 hf0 hT1 hf1).mono fun e W' ⟨he, bel⟩ => ?_
  subst he
  exact ⟨_, rfl, _, _, _, [], _, [], hW', trodAll_mk1 (shut_bool Try.underlying4 _), (trodAll_cons_mk (Below.trod laidTry (by kernel_rfl) (of_decide_eq_true (by kernel_rfl)) k0 bel lt0) (trodAll_cons_mk (Below.trod laidTry (by kernel_rfl) (of_decide_eq_true (by kernel_rfl)) k1 bel lt1) trodAll_mk0)), rfl, bel.frame _, fun h => by cases h⟩

set_option maxRecDepth 100000 in
theorem diffTells_lifted (os : Os) (started : os.Started) (H : Type) (enc : TypeId × Value → H) (F : Stop.Interp) :
    ReturnsInHanded {} Try.checked os 7 .any ((Rows.OpenSpec.upto Rows.diffTellsSpec).pre6 enc Try.prog Try.f7 Rows.diffTellsUptoRow.domain false) (((Rows.OpenSpec.upto Rows.diffTellsSpec).at F).post enc Try.prog Try.f7 false true false false) := by
  refine returnsInHanded_of_cond (C := Try.checked) (s := Rows.OpenSpec.upto Rows.diffTellsSpec) (k := Rows.uptoSmall) rfl ownTry started (by kernel_rfl) Try.func7
    (OpenSpec.witness (enc := enc) (C := Try.checked) (s := Rows.OpenSpec.upto Rows.diffTellsSpec) (k := Rows.uptoSmall) rfl false ⟨#[], #[.slice none 0 0, .slice none 0 0], []⟩ 8 (by kernel_rfl) (by kernel_rfl) (by kernel_rfl)
      (x := ([.nil, .nil], [], [])) (by kernel_rfl) rfl (by kernel_rfl)) ?_
  intro W base args ds gs before hval hW _ hk _
  exact diffTells_contract H enc W base args ds gs before hval hW hk

theorem diffTells_holds : Rows.DiffTellsUptoSaid :=
  OpenClaim.holds_of_cond 7 Try.f7 rfl rfl rfl rfl rfl rfl rfl ⟨rfl, rfl, rfl, rfl, rfl⟩ rfl rfl rfl rfl rfl (by kernel_rfl) Try.func7 (by kernel_rfl)
    (of_decide_eq_true (by kernel_rfl)) (by unfold Func.isWrapper; first | (rw [if_pos (by decide +kernel)]; kernel_rfl) | (rw [if_neg (by decide +kernel)]; exact ⟨rfl, rfl⟩))
    (fun os started H enc _ F => diffTells_lifted os started H enc F)
#print axioms diffTells_holds
end Go.Proofs.Ytoeipmoonmgajac
