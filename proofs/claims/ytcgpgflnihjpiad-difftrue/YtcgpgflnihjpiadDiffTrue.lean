/- For every two slices of rows, the law DiffTrue returns true and leaves its arguments as they were: what Of of the landed diff package tells of two built trees makes, laid by Patch on the one's rows, the other's, what Back tells makes of them the one's again, and it is what Of tells the other way round. No condition. -/
import Derived.Test.YtcgpgflnihjpiadDfBegun
import Derived.Test.YtcgpgflnihjpiadDif4
import Derived.Test.YtcgpgflnihjpiadOpen
namespace Go.Proofs.Ytcgpgflnihjpiad
open Go.ChangeShapes Go.WideShapes Go.ChangeAt Go.RowKit

theorem of_built (a1 a2 : Option Addr) (n1 n2 c1 c2 : Nat) (l m : List (Int × Int)) (w : World) (z1 : M.chk l = 0) (z2 : M.chk m = 0) (h1 : TvS w a1 n1 c1 (M.build l)) (h2 : TvS w a2 n2 c2 (M.build m)) :
    Calls Try.prog 11 #[.slice a1 n1 c1, .slice a2 n2 c2] w fun e w' => HandsC w w' (M.dif l m) 0 e := by
  have f := dof_any a1 a2 n1 n2 c1 c2 _ _ w h1 (build_big _ z1) h2 (build_big _ z2)
  rwa [(difV_built z1 z2).1, (difV_built z1 z2).2] at f
theorem patch_dif (a : Option Addr) (n c : Nat) (a2 : Option Addr) (n2 c2 : Nat) (l m : List (Int × Int)) (w : World) (z1 : M.chk l = 0) (z2 : M.chk m = 0) (h1 : Sl w a n c l) (h2 : Rc w a2 n2 (M.dif l m)) :
    Calls Try.prog 12 #[.slice a n c, .slice a2 n2 c2] w fun e w' => Hands w w' m 0 e := by
  have hn : n2 ≤ 9223372036854775807 := by have := M.difF_len l m 100; have h3 := h2.1; unfold M.dif at h3; omega
  have f := patch_any a n c l a2 n2 c2 _ w h1.1 h1.len h1.2.2.2 h2 hn
  rwa [(M.dif_patch z1 z2).1, (M.dif_patch z1 z2).2] at f
theorem back_dif (a2 : Option Addr) (n2 c2 : Nat) (l m : List (Int × Int)) (w : World) (z1 : M.chk l = 0) (z2 : M.chk m = 0) (h2 : Rc w a2 n2 (M.dif l m)) :
    Calls Try.prog 13 #[.slice a2 n2 c2] w fun e w' => HandsC w w' (M.dif m l) 0 e := by
  have hn : n2 ≤ 9223372036854775807 := by have := M.difF_len l m 100; have h3 := h2.1; unfold M.dif at h3; omega
  have f := back_any a2 n2 c2 _ w h2 hn
  rwa [(M.dif_back z1 z2).1, (M.dif_back z1 z2).2] at f

set_option maxHeartbeats 8000000 in
theorem diffTrue_walk (a1 a2 : Option Addr) (n1 n2 c1 c2 : Nat) (l m : List (Int × Int)) (w : World) (h1 : Sl w a1 n1 c1 l) (h2 : Sl w a2 n2 c2 m) :
    Calls Try.prog 3 #[.slice a1 n1 c1, .slice a2 n2 c2] w fun e w' => e = .returned (.bool true) ∧ Below w.heap.size w w' := by
  have begun : Hid (∀ W, Below w.heap.size w W → Calls Try.prog 10 #[] W fun e w' => e = .returned (.bool true) ∧ Below w.heap.size w w' ∧ Below W.heap.size W w') := fun W hW => (diffBegun_any W).mono fun e w' ⟨h, hb⟩ => ⟨h, below2 hW hb, hb⟩
  by_cases z1 : M.chk l = 0
  · by_cases z2 : M.chk m = 0
    · have B1 : Hid (Calls Try.prog 9 #[.slice a1 n1 c1] w fun e w' => ∃ ta tn tc, e = .returned (.tuple #[.slice ta tn tc, .int .i64 0]) ∧ TvS w' ta tn tc (M.build l) ∧ Below w.heap.size w w') := built a1 n1 c1 l w h1 z1
      have S1 : Hid (Sl w a1 n1 c1 l) := h1
      have S2 : Hid (Sl w a2 n2 c2 m) := h2
      have Z1 : Hid (M.chk l = 0) := z1
      have Z2 : Hid (M.chk m = 0) := z2
      clear h1 h2 z1 z2
      go_enter Try.func3, Try.ntmps3
      go_wp2_with fail
      refine B1.out.mono ?_
      rintro e w1 ⟨ta, tn, tc, rfl, t, q1⟩
      have T1 : Hid (TvS w1 ta tn tc (M.build l)) := t
      have S21 : Hid (Sl w1 a2 n2 c2 m) := S2.out.below q1
      clear t B1
      go_wp2_with fail
      refine (built _ _ _ _ _ S21.out Z2.out).mono ?_
      rintro e w2 ⟨ua, un, uc, rfl, t, ba⟩
      have U2 : Hid (TvS w2 ua un uc (M.build m)) := t
      have T2 : Hid (TvS w2 ta tn tc (M.build l)) := T1.out.below ba
      have q2 := below2 q1 ba
      clear t ba T1 S21 q1
      go_wp2_with fail
      refine (of_built _ _ _ _ _ _ _ _ _ Z1.out Z2.out T2.out U2.out).mono ?_
      rintro e w3 ⟨da, dn, dc, rfl, r, _, _, ba⟩
      have D3 : Hid (Rc w3 da dn (M.dif l m)) := r
      have U3 : Hid (TvS w3 ua un uc (M.build m)) := U2.out.below ba
      have T3 : Hid (TvS w3 ta tn tc (M.build l)) := T2.out.below ba
      have q3 := below2 q2 ba
      have S13 : Hid (Sl w3 a1 n1 c1 l) := S1.out.below q3
      clear r ba T2 U2 q2
      go_wp2_with fail
      refine (patch_dif _ _ _ _ _ _ _ _ _ Z1.out Z2.out S13.out D3.out).mono ?_
      rintro e w4 ⟨xa, xn, xc, rfl, r, k1, k2, _, ba⟩
      have hxn : xn ≤ 9223372036854775807 := by unfold maxLen at k2; omega
      have X4 : Hid (Rd w4 xa xn m) := r
      have D4 : Hid (Rc w4 da dn (M.dif l m)) := D3.out.below ba (Nat.le_refl _)
      have U4 : Hid (TvS w4 ua un uc (M.build m)) := U3.out.below ba
      have T4 : Hid (TvS w4 ta tn tc (M.build l)) := T3.out.below ba
      have q4 := below2 q3 ba
      clear r ba T3 U3 D3 S13 q3 k1 k2
      go_wp2_with fail
      refine (back_dif _ _ _ _ _ _ Z1.out Z2.out D4.out).mono ?_
      rintro e w5 ⟨ya, yn, yc, rfl, r, k1, k2, ba⟩
      have hyn : yn ≤ 9223372036854775807 := by unfold maxLen at k2; omega
      have Y5 : Hid (Rc w5 ya yn (M.dif m l)) := r
      have X5 : Hid (Rd w5 xa xn m) := X4.out.below ba (Nat.le_refl _)
      have U5 : Hid (TvS w5 ua un uc (M.build m)) := U4.out.below ba
      have T5 : Hid (TvS w5 ta tn tc (M.build l)) := T4.out.below ba
      have q5 := below2 q4 ba
      have S25 : Hid (Sl w5 a2 n2 c2 m) := S2.out.below q5
      clear r ba T4 U4 D4 X4 q4 k1 k2
      go_wp2_with fail
      refine (patch_dif _ _ _ _ _ _ _ _ _ Z2.out Z1.out S25.out Y5.out).mono ?_
      rintro e w6 ⟨va, vn, vc, rfl, r, k1, k2, _, ba⟩
      have hvn : vn ≤ 9223372036854775807 := by unfold maxLen at k2; omega
      have V6 : Hid (Rd w6 va vn l) := r
      have Y6 : Hid (Rc w6 ya yn (M.dif m l)) := Y5.out.below ba (Nat.le_refl _)
      have X6 : Hid (Rd w6 xa xn m) := X5.out.below ba (Nat.le_refl _)
      have U6 : Hid (TvS w6 ua un uc (M.build m)) := U5.out.below ba
      have T6 : Hid (TvS w6 ta tn tc (M.build l)) := T5.out.below ba
      have q6 := below2 q5 ba
      clear r ba T5 U5 Y5 X5 S25 q5 k1 k2
      go_wp2_with fail
      refine (of_built _ _ _ _ _ _ _ _ _ Z2.out Z1.out U6.out T6.out).mono ?_
      rintro e w7 ⟨oa, on, oc, rfl, r, _, _, ba⟩
      have O7 : Hid (Rc w7 oa on (M.dif m l)) := r
      have V7 : Hid (Rd w7 va vn l) := V6.out.below ba (Nat.le_refl _)
      have Y7 : Hid (Rc w7 ya yn (M.dif m l)) := Y6.out.below ba (Nat.le_refl _)
      have X7 : Hid (Rd w7 xa xn m) := X6.out.below ba (Nat.le_refl _)
      have q7 := below2 q6 ba
      clear r ba T6 U6 V6 Y6 X6 q6
      go_wp2_with fail
      refine (begun.out _ q7).mono ?_
      rintro e w8 ⟨rfl, q8, ba⟩
      have O8 : Hid (Rc w8 oa on (M.dif m l)) := O7.out.below ba (Nat.le_refl _)
      have V8 : Hid (Rd w8 va vn l) := V7.out.below ba (Nat.le_refl _)
      have Y8 : Hid (Rc w8 ya yn (M.dif m l)) := Y7.out.below ba (Nat.le_refl _)
      have X8 : Hid (Rd w8 xa xn m) := X7.out.below ba (Nat.le_refl _)
      have S28 : Hid (Sl w8 a2 n2 c2 m) := S2.out.below q8
      clear ba O7 V7 Y7 X7 q7 begun
      go_wp2_with fail
      refine (same_any _ _ _ _ _ _ _ _ _ X8.out S28.out.1 hxn).mono ?_
      rintro e w9 ⟨rfl, ba⟩
      have hd : decide (m = m) = true := by simp
      have O9 : Hid (Rc w9 oa on (M.dif m l)) := O8.out.below ba (Nat.le_refl _)
      have V9 : Hid (Rd w9 va vn l) := V8.out.below ba (Nat.le_refl _)
      have Y9 : Hid (Rc w9 ya yn (M.dif m l)) := Y8.out.below ba (Nat.le_refl _)
      have q9 := below2 q8 ba
      have S19 : Hid (Sl w9 a1 n1 c1 l) := S1.out.below q9
      clear ba O8 V8 Y8 X8 q8 S28
      go_wp2_with fail
      refine (same_any _ _ _ _ _ _ _ _ _ V9.out S19.out.1 hvn).mono ?_
      rintro e wa ⟨rfl, ba⟩
      have hd2 : decide (l = l) = true := by simp
      have Oa : Hid (Rc wa oa on (M.dif m l)) := O9.out.below ba (Nat.le_refl _)
      have Ya : Hid (Rc wa ya yn (M.dif m l)) := Y9.out.below ba (Nat.le_refl _)
      have qa := below2 q9 ba
      clear ba O9 V9 Y9 q9 S19
      go_wp2_with fail
      refine (csame_any _ _ _ _ _ _ _ _ _ Ya.out Oa.out hyn).mono ?_
      rintro e wb ⟨rfl, ba⟩
      have hd3 : decide (M.dif m l = M.dif m l) = true := by simp
      have qb := below2 qa ba
      clear ba Oa Ya qa
      go_wp2
      go_ret
      exact ⟨by simp, qb⟩
    · have B1 : Hid (Calls Try.prog 9 #[.slice a1 n1 c1] w fun e w' => ∃ ta tn tc, e = .returned (.tuple #[.slice ta tn tc, .int .i64 0]) ∧ TvS w' ta tn tc (M.build l) ∧ Below w.heap.size w w') := built a1 n1 c1 l w h1 z1
      have S2 : Hid (Sl w a2 n2 c2 m) := h2
      obtain ⟨E, hE⟩ : ∃ E, E = M.chk m := ⟨_, rfl⟩
      have hEb : (E != 0) = true := by rw [hE]; simp [z2]
      have HE : Hid (E = M.chk m) := hE
      clear h1 h2 z1 z2 hE
      go_enter Try.func3, Try.ntmps3
      go_wp2_with fail
      refine B1.out.mono ?_
      rintro e w1 ⟨ta, tn, tc, rfl, t, q1⟩
      have S21 : Hid (Sl w1 a2 n2 c2 m) := S2.out.below q1
      clear t B1
      go_wp2_with fail
      refine (build_any _ _ _ _ _ S21.out).mono ?_
      rintro e w2 ⟨v, rfl, _, ba⟩
      rw [← HE.out]
      have q2 := below2 q1 ba
      clear ba q1 S21
      go_wp2_with fail
      refine (begun.out _ q2).mono ?_
      rintro e w3 ⟨rfl, q3, _⟩
      go_wp2
      go_ret
      exact ⟨rfl, q3⟩
  · have S2 : Hid (Sl w a2 n2 c2 m) := h2
    have S1 : Hid (Sl w a1 n1 c1 l) := h1
    obtain ⟨E, hE⟩ : ∃ E, E = M.chk l := ⟨_, rfl⟩
    have hEb : (E != 0) = true := by rw [hE]; simp [z1]
    have HE : Hid (E = M.chk l) := hE
    clear h1 h2 z1 hE
    go_enter Try.func3, Try.ntmps3
    go_wp2_with fail
    refine (build_any _ _ _ _ _ S1.out).mono ?_
    rintro e w1 ⟨v, rfl, _, q1⟩
    rw [← HE.out]
    have S21 : Hid (Sl w1 a2 n2 c2 m) := S2.out.below q1
    go_wp2_with fail
    refine (build_any _ _ _ _ _ S21.out).mono ?_
    rintro e w2 ⟨v2, rfl, _, ba⟩
    have q2 := below2 q1 ba
    clear ba q1 S21
    go_wp2_with fail
    refine (begun.out _ q2).mono ?_
    rintro e w3 ⟨rfl, q3, _⟩
    go_wp2
    go_ret
    exact ⟨rfl, q3⟩

set_option maxRecDepth 100000 in
theorem diffTrue_lifted (os : Os) (started : os.Started) (H : Type) (enc : TypeId × Value → H) :
    ReturnsInHanded {} Try.checked os 3 .any (Rows.diffTrueSpec.pre6 enc Try.prog Try.f3 Rows.diffTrueRow.domain false) (Rows.diffTrueSpec.post enc Try.prog Try.f3 false true false false) := by
  refine returnsInHanded_of_change (C := Try.checked) ownTry started (by kernel_rfl) Try.func3
    (ChangeSpec.witness6 (enc := enc) (C := Try.checked) false ⟨#[], #[.slice none 0 0, .slice none 0 0], []⟩ 8 (by kernel_rfl) (by kernel_rfl) (by kernel_rfl) (by kernel_rfl)) ?_
  intro W base args ds gs before hval0 hW hcnd _
  have hval : ∀ (j : Nat) t v, Try.f3.params[j]? = some t → args[j]? = some v → Value.okWide Try.prog W .any base t v := hval0
  have hW' := hW
  obtain ⟨p, q, hA0, hV, rfl, hfz, hnd⟩ := hW
  have hA : DataW.TrodAll enc Try.prog W 0 (fun _ => true) true Try.f3.params.toList args.toList ds p := hA0
  rw [Try.params3] at hA hval
  obtain ⟨v0, vs0, d0, ds0, p0, q0, hargs, rfl, rfl, h0, r0⟩ := trodAll_cons hA
  obtain ⟨v1, vs1, d1, ds1, p1, q1, rfl, rfl, rfl, h1, r1⟩ := trodAll_cons r0
  obtain ⟨rfl, rfl, rfl⟩ := trodAll_nil r1
  obtain rfl : args = #[v0, v1] := by cases args; simp_all
  obtain ⟨rfl, rfl⟩ := trodVars_none hV
  obtain ⟨a0, len0, cap0, rfl⟩ := okWide_slice Try.underlying22 (hval 0 22 v0 rfl rfl)
  have k0 := h0
  have lt0 : ∀ x ∈ p0, x.block < W.heap.size := by obtain ⟨m, hm⟩ := k0; exact DataW.trod_lt m _ _ _ hm
  obtain ⟨l0, hrd0, hl0, hm0, hnil0⟩ : ∃ l, Rd W a0 len0 l ∧ len0 ≤ cap0 ∧ cap0 ≤ maxLen ∧ (a0 = none → len0 = 0 ∧ cap0 = 0) := by
    obtain ⟨fuel, hf⟩ := h0
    exact open_rows (by simpa [Value.cells] using hf)
  obtain ⟨a1, len1, cap1, rfl⟩ := okWide_slice Try.underlying22 (hval 1 22 v1 rfl rfl)
  have k1 := h1
  have lt1 : ∀ x ∈ p1, x.block < W.heap.size := by obtain ⟨m, hm⟩ := k1; exact DataW.trod_lt m _ _ _ hm
  obtain ⟨l1, hrd1, hl1, hm1, hnil1⟩ : ∃ l, Rd W a1 len1 l ∧ len1 ≤ cap1 ∧ cap1 ≤ maxLen ∧ (a1 = none → len1 = 0 ∧ cap1 = 0) := by
    obtain ⟨fuel, hf⟩ := h1
    exact open_rows (by simpa [Value.cells] using hf)
  clear hA0 hval0
  refine (diffTrue_walk a0 a1 len0 len1 cap0 cap1 l0 l1 W ⟨hrd0, hl0, hm0, hnil0⟩ ⟨hrd1, hl1, hm1, hnil1⟩).mono fun e W' ⟨he, bel⟩ => ?_
  subst he
  exact ⟨_, rfl, _, _, _, [], _, [], hW', trodAll_mk1 (shut_bool Try.underlying4 _), (trodAll_cons_mk (Below.trod laidTry (by kernel_rfl) (of_decide_eq_true (by kernel_rfl)) k0 bel lt0) (trodAll_cons_mk (Below.trod laidTry (by kernel_rfl) (of_decide_eq_true (by kernel_rfl)) k1 bel lt1) trodAll_mk0)), rfl, bel.frame _, fun h => by cases h⟩

theorem diffTrue_holds : Rows.DiffTrueSaid :=
  OpenClaim.holds_of_wide 3 Try.f3 rfl rfl rfl rfl rfl rfl rfl ⟨rfl, rfl, rfl, rfl, rfl⟩ rfl rfl rfl rfl rfl (by kernel_rfl) Try.func3 (by kernel_rfl)
    (of_decide_eq_true (by kernel_rfl)) (by unfold Func.isWrapper; first | (rw [if_pos (by decide +kernel)]; kernel_rfl) | (rw [if_neg (by decide +kernel)]; exact ⟨rfl, rfl⟩))
    (fun os started H enc _ => diffTrue_lifted os started H enc)
#print axioms diffTrue_holds
end Go.Proofs.Ytcgpgflnihjpiad
