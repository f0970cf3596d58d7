/- The reference's MergeOf, whatever it is handed; what must be in any case of three ways. -/
import Derived.Test.YtoeipmoonmgajadRMerge
import Derived.Test.YtoeipmoonmgajadFew
import Derived.Test.YtoeipmoonmgajadSame
import Derived.Test.YtoeipmoonmgajadSameI
namespace Go.Proofs.Ytoeipmoonmgajad
open Go.RowKit

set_option maxRecDepth 100000 in
set_option maxHeartbeats 4000000 in
theorem mergeOf_any (a1 a2 a3 : Option Addr) (n1 n2 n3 c1 c2 c3 : Nat) (b l m : List (Int × Int)) (w : World) (h1 : Rd w a1 n1 b) (h2 : Rd w a2 n2 l) (h3 : Rd w a3 n3 m)
    (k1 : n1 ≤ 9223372036854775807) (k2 : n2 ≤ 9223372036854775807) (k3 : n3 ≤ 9223372036854775807) :
    Calls Try.prog 20 #[.slice a1 n1 c1, .slice a2 n2 c2, .slice a3 n3 c3] w fun e w' => Hands3 w w' (M.mergeV b l m) (M.mergeK b l m) (M.mergeE b l m) e := by
  by_cases hall : M.chk b = 0 ∧ M.chk l = 0 ∧ M.chk m = 0
  · exact mergeOf_good a1 a2 a3 n1 n2 n3 c1 c2 c3 b l m w h1 h2 h3 hall.1 hall.2.1 hall.2.2
  · have E1 : Hid (∀ W, Below w.heap.size w W → Calls Try.prog 46 #[.slice a1 n1 c1] W fun e w' => e = .returned (.int .i64 (M.chk b)) ∧ Below W.heap.size W w') := fun W hW => error_any a1 n1 c1 b W (h1.below hW (Nat.le_refl _)) k1
    have E2 : Hid (∀ W, Below w.heap.size w W → Calls Try.prog 46 #[.slice a2 n2 c2] W fun e w' => e = .returned (.int .i64 (M.chk l)) ∧ Below W.heap.size W w') := fun W hW => error_any a2 n2 c2 l W (h2.below hW (Nat.le_refl _)) k2
    have E3 : Hid (∀ W, Below w.heap.size w W → Calls Try.prog 46 #[.slice a3 n3 c3] W fun e w' => e = .returned (.int .i64 (M.chk m)) ∧ Below W.heap.size W w') := fun W hW => error_any a3 n3 c3 m W (h3.below hW (Nat.le_refl _)) k3
    have e0 : M.mergeE b l m = if M.chk b ≠ 0 then M.chk b else if M.chk l ≠ 0 then M.chk l else M.chk m := by
      unfold M.mergeE
      by_cases z1 : M.chk b = 0
      · by_cases z2 : M.chk l = 0
        · have z3 : M.chk m ≠ 0 := fun z3 => hall ⟨z1, z2, z3⟩
          simp [z1, z2, z3]
        · simp [z1, z2]
      · simp [z1]
    have hne : M.mergeE b l m ≠ 0 := by
      rw [e0]
      by_cases z1 : M.chk b = 0
      · by_cases z2 : M.chk l = 0
        · have z3 : M.chk m ≠ 0 := fun z3 => hall ⟨z1, z2, z3⟩
          simp [z1, z2, z3]
        · simp [z1, z2]
      · simp [z1]
    have e1 : M.mergeV b l m = [] := by unfold M.mergeV; rw [if_neg hne]
    have e2 : M.mergeK b l m = [] := by unfold M.mergeK; rw [if_neg hne]
    rw [e1, e2]
    obtain ⟨E, hE⟩ : ∃ E, E = M.mergeE b l m := ⟨_, rfl⟩
    rw [← hE] at e0 hne ⊢
    obtain ⟨x, hx⟩ : ∃ x, x = M.chk b := ⟨_, rfl⟩
    obtain ⟨y, hy⟩ : ∃ y, y = M.chk l := ⟨_, rfl⟩
    obtain ⟨z, hz⟩ : ∃ z, z = M.chk m := ⟨_, rfl⟩
    rw [← hx, ← hy, ← hz] at e0
    rw [← hx] at E1
    rw [← hy] at E2
    rw [← hz] at E3
    obtain ⟨Wa, hWa⟩ : ∃ Wa, Wa = w.alloc (.cells #[.slice a1 n1 c1, .slice a2 n2 c2, .slice a3 n3 c3] 22) := ⟨_, rfl⟩
    have ba : Below w.heap.size w Wa := by rw [hWa]; exact (Below.refl _ _).alloc (Nat.le_refl _) _
    have hWs : w.heap.size < Wa.heap.size := by rw [hWa]; simp
    have q0 : Wa.cell? ⟨w.heap.size, 0, none⟩ = some (.slice a1 n1 c1) := by rw [hWa]; simp [go_sem]
    have q1 : Wa.cell? ⟨w.heap.size, 1, none⟩ = some (.slice a2 n2 c2) := by rw [hWa]; simp [go_sem]
    have q2 : Wa.cell? ⟨w.heap.size, 2, none⟩ = some (.slice a3 n3 c3) := by rw [hWa]; simp [go_sem]
    have HWa : Hid (Wa = w.alloc (.cells #[.slice a1 n1 c1, .slice a2 n2 c2, .slice a3 n3 c3] 22)) := hWa
    have HE : Hid (E = if x ≠ 0 then x else if y ≠ 0 then y else z) := e0
    have HNE : Hid (E ≠ 0) := hne
    clear h1 h2 h3 e0 e1 e2 hE hx hy hz hWa hall hne
    go_enter Try.func20, Try.ntmps20
    go_wp2
    rw [← HWa.out]
    refine wp_loop_rounds 4 ?_
    rw [rounds_succ]
    go_wp2_with fail
    refine (E1.out _ ba).mono ?_
    rintro e w1 ⟨rfl, hb1⟩
    have b1 := ba.trans (hb1.mono ba.size)
    have p1 : w1.cell? ⟨w.heap.size, 1, none⟩ = some (.slice a2 n2 c2) := (hb1.cell (p := ⟨w.heap.size, 1, none⟩) hWs).trans q1
    have p2 : w1.cell? ⟨w.heap.size, 2, none⟩ = some (.slice a3 n3 c3) := (hb1.cell (p := ⟨w.heap.size, 2, none⟩) hWs).trans q2
    have hs1 : w.heap.size < w1.heap.size := Nat.lt_of_lt_of_le hWs hb1.size
    clear q0 q1 q2 hb1 hWs ba HWa
    by_cases hx : x = 0
    · have hxb : (x != 0) = false := by simp [hx]
      have HX : Hid (x = 0) := hx
      clear hx
      go_wp2
      rw [rounds_succ]
      go_wp2_with fail
      refine (E2.out _ b1).mono ?_
      rintro e w2 ⟨rfl, hb2⟩
      have b2 := b1.trans (hb2.mono b1.size)
      have r2 : w2.cell? ⟨w.heap.size, 2, none⟩ = some (.slice a3 n3 c3) := (hb2.cell (p := ⟨w.heap.size, 2, none⟩) hs1).trans p2
      clear p1 p2 hb2 b1 hs1
      by_cases hy : y = 0
      · have hyb : (y != 0) = false := by simp [hy]
        have HZ : Hid (E = z) := by have h := HE.out; rw [HX.out, hy] at h; simpa [Hid] using h
        have hzb : (z != 0) = true := by have h := HNE.out; rw [HZ.out] at h; simp [h]
        clear hy
        go_wp2
        rw [rounds_succ]
        go_wp2_with fail
        refine (E3.out _ b2).mono ?_
        rintro e w3 ⟨rfl, hb3⟩
        have b3 := b2.trans (hb3.mono b2.size)
        clear r2 hb3 b2
        go_wp2
        go_ret3
        rw [HZ.out]
        exact Hands3.err z b3
      · have hyb : (y != 0) = true := by simp [hy]
        have HZ : Hid (E = y) := by have h := HE.out; rw [HX.out] at h; simp [hy] at h; exact h
        clear hy
        go_wp2
        go_ret3
        rw [HZ.out]
        exact Hands3.err y b2
    · have hxb : (x != 0) = true := by simp [hx]
      have HZ : Hid (E = x) := by have h := HE.out; rw [if_pos hx] at h; exact h
      clear hx
      go_wp2
      go_ret3
      rw [HZ.out]
      exact Hands3.err x b1

/-! ### threeBegun -/
def tA : List (Int × Int) := [(2, 6), (7, 0), (9, 31)]
def tB : List (Int × Int) := [(2, 5), (8, 1), (9, 32)]
def tR : List (Int × Int) := [(2, 6), (8, 1), (9, 31)]
theorem merge1 (b1 b2 b3 : Nat) (w : World) (h1 : Rd w (some ⟨b1, 0, none⟩) 3 fewL) (h2 : Rd w (some ⟨b2, 0, none⟩) 3 tA) (h3 : Rd w (some ⟨b3, 0, none⟩) 3 tB) :
    Calls Try.prog 19 #[.slice (some ⟨b1, 0, none⟩) 3 3, .slice (some ⟨b2, 0, none⟩) 3 3, .slice (some ⟨b3, 0, none⟩) 3 3] w fun e w' => Hands3 w w' tR [9] 0 e := by
  have f := merge_any (some ⟨b1, 0, none⟩) (some ⟨b2, 0, none⟩) (some ⟨b3, 0, none⟩) 3 3 3 3 3 3 fewL tA tB w h1 h2 h3 (by omega) (by omega) (by omega) (by simp)
  rwa [show M.mergeV fewL tA tB = tR by decide +kernel, show M.mergeK fewL tA tB = [9] by decide +kernel, show M.mergeE fewL tA tB = 0 by decide +kernel] at f
theorem merge2 (b1 b2 : Nat) (w : World) (h1 : Rd w (some ⟨b1, 0, none⟩) 3 fewL) (h2 : Rd w (some ⟨b2, 0, none⟩) 3 tA) :
    Calls Try.prog 19 #[.slice (some ⟨b1, 0, none⟩) 3 3, .slice (some ⟨b2, 0, none⟩) 3 3, .slice (some ⟨b2, 0, none⟩) 3 3] w fun e w' => Hands3 w w' tA [] 0 e := by
  have f := merge_any (some ⟨b1, 0, none⟩) (some ⟨b2, 0, none⟩) (some ⟨b2, 0, none⟩) 3 3 3 3 3 3 fewL tA tA w h1 h2 h2 (by omega) (by omega) (by omega) (by simp)
  rwa [show M.mergeV fewL tA tA = tA by decide +kernel, show M.mergeK fewL tA tA = [] by decide +kernel, show M.mergeE fewL tA tA = 0 by decide +kernel] at f
theorem merge3 (b1 b2 b3 : Nat) (w : World) (h1 : Rd w (some ⟨b1, 0, none⟩) 3 fewL) (h2 : Rd w (some ⟨b2, 0, none⟩) 3 tA) (h3 : Rd w (some ⟨b3, 0, none⟩) 1 [(-1, 0)]) :
    Calls Try.prog 19 #[.slice (some ⟨b1, 0, none⟩) 3 3, .slice (some ⟨b2, 0, none⟩) 3 3, .slice (some ⟨b3, 0, none⟩) 1 1] w fun e w' => Hands3 w w' [] [] 1 e := by
  have f := merge_any (some ⟨b1, 0, none⟩) (some ⟨b2, 0, none⟩) (some ⟨b3, 0, none⟩) 3 3 1 3 3 1 fewL tA [(-1, 0)] w h1 h2 h3 (by omega) (by omega) (by omega) (by simp)
  rwa [show M.mergeV fewL tA [(-1, 0)] = [] by decide +kernel, show M.mergeK fewL tA [(-1, 0)] = [] by decide +kernel, show M.mergeE fewL tA [(-1, 0)] = 1 by decide +kernel] at f

set_option maxHeartbeats 8000000 in
theorem threeBegun_any (w : World) : Calls Try.prog 21 #[] w fun e w' => e = .returned (.bool true) ∧ Below w.heap.size w w' := by
  obtain ⟨V1, hV1⟩ : ∃ V1, V1 = w.alloc (.cells #[.int .i64 2, .int .i64 6, .int .i64 7, .int .i64 0, .int .i64 9, .int .i64 31] 63) := ⟨_, rfl⟩
  have c1 : Below w.heap.size w V1 := by rw [hV1]; exact (Below.refl _ _).alloc (Nat.le_refl _) _
  have rA : Rd V1 (some ⟨w.heap.size, 0, none⟩) 3 tA := by rw [hV1]; exact rd_three w 2 6 7 0 9 31
  have hs1 : V1.heap.size = w.heap.size + 1 := by rw [hV1]; simp
  obtain ⟨V2, hV2⟩ : ∃ V2, V2 = V1.alloc (.cells #[.int .i64 2, .int .i64 5, .int .i64 8, .int .i64 1, .int .i64 9, .int .i64 32] 63) := ⟨_, rfl⟩
  have d2 : Below V1.heap.size V1 V2 := by rw [hV2]; exact (Below.refl _ _).alloc (Nat.le_refl _) _
  have rB : Rd V2 (some ⟨w.heap.size + 1, 0, none⟩) 3 tB := by rw [hV2, ← hs1]; exact rd_three V1 2 5 8 1 9 32
  have RA : Hid (Rd V2 (some ⟨w.heap.size, 0, none⟩) 3 tA) := rA.below d2 (Nat.le_refl _)
  have RB : Hid (Rd V2 (some ⟨w.heap.size + 1, 0, none⟩) 3 tB) := rB
  have c2 : Below w.heap.size w V2 := below2 c1 d2
  have HV : Hid (V2 = (w.alloc (.cells #[.int .i64 2, .int .i64 6, .int .i64 7, .int .i64 0, .int .i64 9, .int .i64 31] 63)).alloc (.cells #[.int .i64 2, .int .i64 5, .int .i64 8, .int .i64 1, .int .i64 9, .int .i64 32] 63)) := by rw [hV2, hV1]; exact rfl
  clear hV1 hV2 rA rB hs1 d2 c1 V1
  go_enter Try.func21, Try.ntmps21
  go_wp2_with fail
  rw [← HV.out]
  refine (fewL_any _).mono ?_
  rintro e w1 ⟨rfl, r, ba⟩
  have RF : Hid (Rd w1 (some ⟨V2.heap.size, 0, none⟩) 3 fewL) := r
  have RA1 : Hid (Rd w1 (some ⟨w.heap.size, 0, none⟩) 3 tA) := RA.out.below ba (Nat.le_refl _)
  have RB1 : Hid (Rd w1 (some ⟨w.heap.size + 1, 0, none⟩) 3 tB) := RB.out.below ba (Nat.le_refl _)
  have c3 := below2 c2 ba
  clear r ba c2 RA RB HV
  go_wp2_with fail
  refine (merge1 _ _ _ _ RF.out RA1.out RB1.out).mono ?_
  rintro e w2 ⟨la, ln, lc, ca, cn, cc, rfl, rl, hlc, hlm, _, rc, hcc, hcm, ba⟩
  obtain rfl : ln = 3 := rl.1.symm
  obtain rfl : cn = 1 := rc.1.symm
  have RL2 : Hid (Rd w2 la 3 tR) := rl
  have RC2 : Hid (Ri w2 ca 1 [9]) := rc
  have RA2 : Hid (Rd w2 (some ⟨w.heap.size, 0, none⟩) 3 tA) := RA1.out.below ba (Nat.le_refl _)
  have c4 := below2 c3 ba
  clear rl rc ba c3 RF RA1 RB1 hcm hcc hlm hlc
  go_wp2_with fail
  refine (fewL_any _).mono ?_
  rintro e w3 ⟨rfl, r, ba⟩
  have RF : Hid (Rd w3 (some ⟨w2.heap.size, 0, none⟩) 3 fewL) := r
  have RA3 : Hid (Rd w3 (some ⟨w.heap.size, 0, none⟩) 3 tA) := RA2.out.below ba (Nat.le_refl _)
  have RL3 : Hid (Rd w3 la 3 tR) := RL2.out.below ba (Nat.le_refl _)
  have RC3 : Hid (Ri w3 ca 1 [9]) := RC2.out.below ba (Nat.le_refl _)
  have c5 := below2 c4 ba
  clear r ba c4 RA2 RL2 RC2
  go_wp2_with fail
  refine (merge2 _ _ _ RF.out RA3.out).mono ?_
  rintro e w4 ⟨ma, mn, mc, da, dn, dc, rfl, rm, hmc, hmm, _, rd, _, _, ba⟩
  obtain rfl : mn = 3 := rm.1.symm
  obtain rfl : dn = 0 := rd.1.symm
  have RM4 : Hid (Rd w4 ma 3 tA) := rm
  have RA4 : Hid (Rd w4 (some ⟨w.heap.size, 0, none⟩) 3 tA) := RA3.out.below ba (Nat.le_refl _)
  have RL4 : Hid (Rd w4 la 3 tR) := RL3.out.below ba (Nat.le_refl _)
  have RC4 : Hid (Ri w4 ca 1 [9]) := RC3.out.below ba (Nat.le_refl _)
  have c6 := below2 c5 ba
  clear rm rd ba c5 RF RA3 RL3 RC3 hmm hmc
  go_wp2_with fail
  refine (fewL_any _).mono ?_
  rintro e w5 ⟨rfl, r, ba⟩
  obtain ⟨V6, hV6⟩ : ∃ V6, V6 = w5.alloc (.cells #[.int .i64 (-1), .int .i64 0] 63) := ⟨_, rfl⟩
  have d6 : Below w5.heap.size w5 V6 := by rw [hV6]; exact (Below.refl _ _).alloc (Nat.le_refl _) _
  have HN : Hid (Rd V6 (some ⟨w5.heap.size, 0, none⟩) 1 [(-1, 0)]) := by rw [hV6]; exact one_rd w5 (-1) 0
  have e6 := below2 ba d6
  have RF : Hid (Rd V6 (some ⟨w4.heap.size, 0, none⟩) 3 fewL) := r.below d6 (Nat.le_refl _)
  have RA6 : Hid (Rd V6 (some ⟨w.heap.size, 0, none⟩) 3 tA) := RA4.out.below e6 (Nat.le_refl _)
  have RM6 : Hid (Rd V6 ma 3 tA) := RM4.out.below e6 (Nat.le_refl _)
  have RL6 : Hid (Rd V6 la 3 tR) := RL4.out.below e6 (Nat.le_refl _)
  have RC6 : Hid (Ri V6 ca 1 [9]) := RC4.out.below e6 (Nat.le_refl _)
  have c7 := below2 c6 e6
  have HV6 : Hid (V6 = w5.alloc (.cells #[.int .i64 (-1), .int .i64 0] 63)) := hV6
  clear r ba c6 RA4 RM4 RL4 RC4 e6 d6 hV6
  go_wp2_with fail
  rw [← HV6.out]
  refine (merge3 _ _ _ _ RF.out RA6.out HN.out).mono ?_
  rintro e w7 ⟨xa, xn, xc, ya, yn, yc, rfl, rx, _, _, _, ry, _, _, ba⟩
  obtain ⟨V8, hV8⟩ : ∃ V8, V8 = w7.alloc (.cells #[.int .i64 9] 3) := ⟨_, rfl⟩
  have d8 : Below w7.heap.size w7 V8 := by rw [hV8]; exact (Below.refl _ _).alloc (Nat.le_refl _) _
  have HN8 : Hid (Ri V8 (some ⟨w7.heap.size, 0, none⟩) 1 [9]) := by rw [hV8]; exact ⟨rfl, Or.inr ⟨w7.heap.size, 0, rfl, by simp, ri_one w7 9⟩⟩
  have e8 := below2 ba d8
  have RA8 : Hid (Rd V8 (some ⟨w.heap.size, 0, none⟩) 3 tA) := RA6.out.below e8 (Nat.le_refl _)
  have RM8 : Hid (Rd V8 ma 3 tA) := RM6.out.below e8 (Nat.le_refl _)
  have RL8 : Hid (Rd V8 la 3 tR) := RL6.out.below e8 (Nat.le_refl _)
  have RC8 : Hid (Ri V8 ca 1 [9]) := RC6.out.below e8 (Nat.le_refl _)
  have c9 := below2 c7 e8
  have HV8 : Hid (V8 = w7.alloc (.cells #[.int .i64 9] 3)) := hV8
  clear rx ry ba c7 RA6 RM6 RL6 RC6 e8 d8 hV8 RF HN
  go_wp2_with fail
  rw [← HV8.out]
  refine (isame_any _ _ 1 1 _ _ _ _ _ RC8.out HN8.out (by omega)).mono ?_
  rintro e w9 ⟨rfl, ba⟩
  obtain ⟨Va, hVa⟩ : ∃ Va, Va = w9.alloc (.cells #[.int .i64 2, .int .i64 6, .int .i64 8, .int .i64 1, .int .i64 9, .int .i64 31] 63) := ⟨_, rfl⟩
  have da : Below w9.heap.size w9 Va := by rw [hVa]; exact (Below.refl _ _).alloc (Nat.le_refl _) _
  have HNa : Hid (Rd Va (some ⟨w9.heap.size, 0, none⟩) 3 tR) := by rw [hVa]; exact rd_three w9 2 6 8 1 9 31
  have ea := below2 ba da
  have RAa : Hid (Rd Va (some ⟨w.heap.size, 0, none⟩) 3 tA) := RA8.out.below ea (Nat.le_refl _)
  have RMa : Hid (Rd Va ma 3 tA) := RM8.out.below ea (Nat.le_refl _)
  have RLa : Hid (Rd Va la 3 tR) := RL8.out.below ea (Nat.le_refl _)
  have cb := below2 c9 ea
  have HVa : Hid (Va = w9.alloc (.cells #[.int .i64 2, .int .i64 6, .int .i64 8, .int .i64 1, .int .i64 9, .int .i64 31] 63)) := hVa
  clear ba c9 RA8 RM8 RL8 RC8 ea da hVa HN8
  go_wp2_with fail
  rw [← HVa.out]
  refine (same_any _ _ 3 3 _ _ _ _ _ RLa.out HNa.out (by omega)).mono ?_
  rintro e wb ⟨rfl, ba⟩
  have RAb : Hid (Rd wb (some ⟨w.heap.size, 0, none⟩) 3 tA) := RAa.out.below ba (Nat.le_refl _)
  have RMb : Hid (Rd wb ma 3 tA) := RMa.out.below ba (Nat.le_refl _)
  have cc := below2 cb ba
  clear ba cb RAa RMa RLa HNa
  go_wp2_with fail
  refine (same_any _ _ 3 3 _ _ _ _ _ RMb.out RAb.out (by omega)).mono ?_
  rintro e wd ⟨rfl, ba⟩
  have ce := below2 cc ba
  go_wp2
  go_ret
  exact ⟨rfl, ce⟩
end Go.Proofs.Ytoeipmoonmgajad
