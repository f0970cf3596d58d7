/- What must be in any case of three ways. -/
import Derived.Test.YtcgpgflnihjpiadRMerge2
import Derived.Test.YtcgpgflnihjpiadFew
import Derived.Test.YtcgpgflnihjpiadSame
import Derived.Test.YtcgpgflnihjpiadSameI
namespace Go.Proofs.Ytcgpgflnihjpiad
open Go.RowKit

/-! ### threeBegun -/
def tA : List (Int × Int) := [(2, 6), (7, 0), (9, 31)]
def tB : List (Int × Int) := [(2, 5), (8, 1), (9, 32)]
def tR : List (Int × Int) := [(2, 6), (8, 1), (9, 31)]
theorem merge1 (b1 b2 b3 : Nat) (w : World) (h1 : Rd w (some ⟨b1, 0, none⟩) 3 fewL) (h2 : Rd w (some ⟨b2, 0, none⟩) 3 tA) (h3 : Rd w (some ⟨b3, 0, none⟩) 3 tB) :
    Calls Try.prog 19 #[.slice (some ⟨b1, 0, none⟩) 3 3, .slice (some ⟨b2, 0, none⟩) 3 3, .slice (some ⟨b3, 0, none⟩) 3 3] w fun e w' => Hands3 w w' tR [9] 0 e := by
  have f := merge_any (some ⟨b1, 0, none⟩) (some ⟨b2, 0, none⟩) (some ⟨b3, 0, none⟩) 3 3 3 3 3 3 fewL tA tB w h1 h2 h3 (by omega) (by omega) (by omega) (by simp)
  rwa [show M.mergeV fewL tA tB = tR by decide +kernel, show M.mergeK fewL tA tB = [9] by decide +kernel, show M.mergeE fewL tA tB = 0 by decide +kernel] at f
theorem merge2 (b1 b2 : Nat) (w : World) (h1 : Rd w (some ⟨b1, 0, none⟩) 3 fewL) (h2 : Rd w (some ⟨b2, 0, none⟩) 3 tA) :
    Calls Try.prog 19 #[.slice (some ⟨b1, 0, none⟩) 3 3, .slice (some ⟨b2, 0, none⟩) 3 3, .slice (some ⟨b2, 0, none⟩) 3 3] w fun e w' => Hands3 w w' tA [] 0 e := by
  have f := merge_any (some ⟨b1, 0, none⟩) (some ⟨b2, 0, none⟩) (some ⟨b2, 0, none⟩) 3 3 3 3 3 3 fewL tA tA w h1 h2 h2 (by omega) (by omega) (by omega) (by simp)
  rwa [show M.mergeV fewL tA tA = tA by decide +kernel, show M.mergeK fewL tA tA = [] by decide +kernel, show M.mergeE fewL tA tA = 0 by decide +kernel] at f
theorem merge3 (b1 b2 b3 : Nat) (w : World) (h1 : Rd w (some ⟨b1, 0, none⟩) 3 fewL) (h2 : Rd w (some ⟨b2, 0, none⟩) 3 tA) (h3 : Rd w (some ⟨b3, 0, none⟩) 1 [(-1, 0)]) :
    Calls Try.prog 19 #[.slice (some ⟨b1, 0, none⟩) 3 3, .slice (some ⟨b2, 0, none⟩) 3 3, .slice (some ⟨b3, 0, none⟩) 1 1] w fun e w' => Hands3 w w' [] [] 1 e := by
  have f := merge_any (some ⟨b1, 0, none⟩) (some ⟨b2, 0, none⟩) (some ⟨b3, 0, none⟩) 3 3 1 3 3 1 fewL tA [(-1, 0)] w h1 h2 h3 (by omega) (by omega) (by omega) (by simp)
  rwa [show M.mergeV fewL tA [(-1, 0)] = [] by decide +kernel, show M.mergeK fewL tA [(-1, 0)] = [] by decide +kernel, show M.mergeE fewL tA [(-1, 0)] = 1 by decide +kernel] at f

set_option maxHeartbeats 8000000 in
theorem threeBegun_any (w : World) : Calls Try.prog 21 #[] w fun e w' => e = .returned (.bool true) ∧ Below w.heap.size w w' := by
  obtain ⟨V1, hV1⟩ : ∃ V1, V1 = w.alloc (.cells #[.int .i64 2, .int .i64 6, .int .i64 7, .int .i64 0, .int .i64 9, .int .i64 31] 63) := ⟨_, rfl⟩
  have c1 : Below w.heap.size w V1 := by rw [hV1]; exact (Below.refl _ _).alloc (Nat.le_refl _) _
  have rA : Rd V1 (some ⟨w.heap.size, 0, none⟩) 3 tA := by rw [hV1]; exact rd_three w 2 6 7 0 9 31
  have hs1 : V1.heap.size = w.heap.size + 1 := by rw [hV1]; simp
  obtain ⟨V2, hV2⟩ : ∃ V2, V2 = V1.alloc (.cells #[.int .i64 2, .int .i64 5, .int .i64 8, .int .i64 1, .int .i64 9, .int .i64 32] 63) := ⟨_, rfl⟩
  have d2 : Below V1.heap.size V1 V2 := by rw [hV2]; exact (Below.refl _ _).alloc (Nat.le_refl _) _
  have rB : Rd V2 (some ⟨w.heap.size + 1, 0, none⟩) 3 tB := by rw [hV2, ← hs1]; exact rd_three V1 2 5 8 1 9 32
  have RA : Hid (Rd V2 (some ⟨w.heap.size, 0, none⟩) 3 tA) := rA.below d2 (Nat.le_refl _)
  have RB : Hid (Rd V2 (some ⟨w.heap.size + 1, 0, none⟩) 3 tB) := rB
  have c2 : Below w.heap.size w V2 := below2 c1 d2
  have HV : Hid (V2 = (w.alloc (.cells #[.int .i64 2, .int .i64 6, .int .i64 7, .int .i64 0, .int .i64 9, .int .i64 31] 63)).alloc (.cells #[.int .i64 2, .int .i64 5, .int .i64 8, .int .i64 1, .int .i64 9, .int .i64 32] 63)) := by rw [hV2, hV1]; exact rfl
  clear hV1 hV2 rA rB hs1 d2 c1 V1
  go_enter Try.func21, Try.ntmps21
  go_wp2_with fail
  rw [← HV.out]
  refine (fewL_any _).mono ?_
  rintro e w1 ⟨rfl, r, ba⟩
  have RF : Hid (Rd w1 (some ⟨V2.heap.size, 0, none⟩) 3 fewL) := r
  have RA1 : Hid (Rd w1 (some ⟨w.heap.size, 0, none⟩) 3 tA) := RA.out.below ba (Nat.le_refl _)
  have RB1 : Hid (Rd w1 (some ⟨w.heap.size + 1, 0, none⟩) 3 tB) := RB.out.below ba (Nat.le_refl _)
  have c3 := below2 c2 ba
  clear r ba c2 RA RB HV
  go_wp2_with fail
  refine (merge1 _ _ _ _ RF.out RA1.out RB1.out).mono ?_
  rintro e w2 ⟨la, ln, lc, ca, cn, cc, rfl, rl, hlc, hlm, _, rc, hcc, hcm, ba⟩
  obtain rfl : ln = 3 := rl.1.symm
  obtain rfl : cn = 1 := rc.1.symm
  have RL2 : Hid (Rd w2 la 3 tR) := rl
  have RC2 : Hid (Ri w2 ca 1 [9]) := rc
  have RA2 : Hid (Rd w2 (some ⟨w.heap.size, 0, none⟩) 3 tA) := RA1.out.below ba (Nat.le_refl _)
  have c4 := below2 c3 ba
  clear rl rc ba c3 RF RA1 RB1 hcm hcc hlm hlc
  go_wp2_with fail
  refine (fewL_any _).mono ?_
  rintro e w3 ⟨rfl, r, ba⟩
  have RF : Hid (Rd w3 (some ⟨w2.heap.size, 0, none⟩) 3 fewL) := r
  have RA3 : Hid (Rd w3 (some ⟨w.heap.size, 0, none⟩) 3 tA) := RA2.out.below ba (Nat.le_refl _)
  have RL3 : Hid (Rd w3 la 3 tR) := RL2.out.below ba (Nat.le_refl _)
  have RC3 : Hid (Ri w3 ca 1 [9]) := RC2.out.below ba (Nat.le_refl _)
  have c5 := below2 c4 ba
  clear r ba c4 RA2 RL2 RC2
  go_wp2_with fail
  refine (merge2 _ _ _ RF.out RA3.out).mono ?_
  rintro e w4 ⟨ma, mn, mc, da, dn, dc, rfl, rm, hmc, hmm, _, rd, _, _, ba⟩
  obtain rfl : mn = 3 := rm.1.symm
  obtain rfl : dn = 0 := rd.1.symm
  have RM4 : Hid (Rd w4 ma 3 tA) := rm
  have RA4 : Hid (Rd w4 (some ⟨w.heap.size, 0, none⟩) 3 tA) := RA3.out.below ba (Nat.le_refl _)
  have RL4 : Hid (Rd w4 la 3 tR) := RL3.out.below ba (Nat.le_refl _)
  have RC4 : Hid (Ri w4 ca 1 [9]) := RC3.out.below ba (Nat.le_refl _)
  have c6 := below2 c5 ba
  clear rm rd ba c5 RF RA3 RL3 RC3 hmm hmc
  go_wp2_with fail
  refine (fewL_any _).mono ?_
  rintro e w5 ⟨rfl, r, ba⟩
  obtain ⟨V6, hV6⟩ : ∃ V6, V6 = w5.alloc (.cells #[.int .i64 (-1), .int .i64 0] 63) := ⟨_, rfl⟩
  have d6 : Below w5.heap.size w5 V6 := by rw [hV6]; exact (Below.refl _ _).alloc (Nat.le_refl _) _
  have HN : Hid (Rd V6 (some ⟨w5.heap.size, 0, none⟩) 1 [(-1, 0)]) := by rw [hV6]; exact one_rd w5 (-1) 0
  have e6 := below2 ba d6
  have RF : Hid (Rd V6 (some ⟨w4.heap.size, 0, none⟩) 3 fewL) := r.below d6 (Nat.le_refl _)
  have RA6 : Hid (Rd V6 (some ⟨w.heap.size, 0, none⟩) 3 tA) := RA4.out.below e6 (Nat.le_refl _)
  have RM6 : Hid (Rd V6 ma 3 tA) := RM4.out.below e6 (Nat.le_refl _)
  have RL6 : Hid (Rd V6 la 3 tR) := RL4.out.below e6 (Nat.le_refl _)
  have RC6 : Hid (Ri V6 ca 1 [9]) := RC4.out.below e6 (Nat.le_refl _)
  have c7 := below2 c6 e6
  have HV6 : Hid (V6 = w5.alloc (.cells #[.int .i64 (-1), .int .i64 0] 63)) := hV6
  clear r ba c6 RA4 RM4 RL4 RC4 e6 d6 hV6
  go_wp2_with fail
  rw [← HV6.out]
  refine (merge3 _ _ _ _ RF.out RA6.out HN.out).mono ?_
  rintro e w7 ⟨xa, xn, xc, ya, yn, yc, rfl, rx, _, _, _, ry, _, _, ba⟩
  obtain ⟨V8, hV8⟩ : ∃ V8, V8 = w7.alloc (.cells #[.int .i64 9] 3) := ⟨_, rfl⟩
  have d8 : Below w7.heap.size w7 V8 := by rw [hV8]; exact (Below.refl _ _).alloc (Nat.le_refl _) _
  have HN8 : Hid (Ri V8 (some ⟨w7.heap.size, 0, none⟩) 1 [9]) := by rw [hV8]; exact ⟨rfl, Or.inr ⟨w7.heap.size, 0, rfl, by simp, ri_one w7 9⟩⟩
  have e8 := below2 ba d8
  have RA8 : Hid (Rd V8 (some ⟨w.heap.size, 0, none⟩) 3 tA) := RA6.out.below e8 (Nat.le_refl _)
  have RM8 : Hid (Rd V8 ma 3 tA) := RM6.out.below e8 (Nat.le_refl _)
  have RL8 : Hid (Rd V8 la 3 tR) := RL6.out.below e8 (Nat.le_refl _)
  have RC8 : Hid (Ri V8 ca 1 [9]) := RC6.out.below e8 (Nat.le_refl _)
  have c9 := below2 c7 e8
  have HV8 : Hid (V8 = w7.alloc (.cells #[.int .i64 9] 3)) := hV8
  clear rx ry ba c7 RA6 RM6 RL6 RC6 e8 d8 hV8 RF HN
  go_wp2_with fail
  rw [← HV8.out]
  refine (isame_any _ _ 1 1 _ _ _ _ _ RC8.out HN8.out (by omega)).mono ?_
  rintro e w9 ⟨rfl, ba⟩
  obtain ⟨Va, hVa⟩ : ∃ Va, Va = w9.alloc (.cells #[.int .i64 2, .int .i64 6, .int .i64 8, .int .i64 1, .int .i64 9, .int .i64 31] 63) := ⟨_, rfl⟩
  have da : Below w9.heap.size w9 Va := by rw [hVa]; exact (Below.refl _ _).alloc (Nat.le_refl _) _
  have HNa : Hid (Rd Va (some ⟨w9.heap.size, 0, none⟩) 3 tR) := by rw [hVa]; exact rd_three w9 2 6 8 1 9 31
  have ea := below2 ba da
  have RAa : Hid (Rd Va (some ⟨w.heap.size, 0, none⟩) 3 tA) := RA8.out.below ea (Nat.le_refl _)
  have RMa : Hid (Rd Va ma 3 tA) := RM8.out.below ea (Nat.le_refl _)
  have RLa : Hid (Rd Va la 3 tR) := RL8.out.below ea (Nat.le_refl _)
  have cb := below2 c9 ea
  have HVa : Hid (Va = w9.alloc (.cells #[.int .i64 2, .int .i64 6, .int .i64 8, .int .i64 1, .int .i64 9, .int .i64 31] 63)) := hVa
  clear ba c9 RA8 RM8 RL8 RC8 ea da hVa HN8
  go_wp2_with fail
  rw [← HVa.out]
  refine (same_any _ _ 3 3 _ _ _ _ _ RLa.out HNa.out (by omega)).mono ?_
  rintro e wb ⟨rfl, ba⟩
  have RAb : Hid (Rd wb (some ⟨w.heap.size, 0, none⟩) 3 tA) := RAa.out.below ba (Nat.le_refl _)
  have RMb : Hid (Rd wb ma 3 tA) := RMa.out.below ba (Nat.le_refl _)
  have cc := below2 cb ba
  clear ba cb RAa RMa RLa HNa
  go_wp2_with fail
  refine (same_any _ _ 3 3 _ _ _ _ _ RMb.out RAb.out (by omega)).mono ?_
  rintro e wd ⟨rfl, ba⟩
  have ce := below2 cc ba
  go_wp2
  go_ret
  exact ⟨rfl, ce⟩
end Go.Proofs.Ytcgpgflnihjpiad
