/- For every three slices of rows, the law ThreeMerges returns true and leaves its arguments as they were: Merge of the landed three package answers what the reference answers. No condition. -/
import Derived.Test.YtcgpgflnihjpiadThree4
import Derived.Test.YtcgpgflnihjpiadOpen
namespace Go.Proofs.Ytcgpgflnihjpiad
open Go.ChangeShapes Go.WideShapes Go.ChangeAt Go.RowKit

set_option maxHeartbeats 4000000 in
theorem threeMerges_walk (a1 a2 a3 : Option Addr) (n1 n2 n3 c1 c2 c3 : Nat) (b l m : List (Int × Int)) (w : World) (h1 : Rd w a1 n1 b) (h2 : Rd w a2 n2 l) (h3 : Rd w a3 n3 m)
    (k1 : n1 ≤ 9223372036854775807) (k2 : n2 ≤ 9223372036854775807) (k3 : n3 ≤ 9223372036854775807) (hnil : a2 = none → n2 = 0 ∧ c2 = 0) :
    Calls Try.prog 5 #[.slice a1 n1 c1, .slice a2 n2 c2, .slice a3 n3 c3] w fun e w' => e = .returned (.bool true) ∧ Below w.heap.size w w' := by
  have hM := merge_any a1 a2 a3 n1 n2 n3 c1 c2 c3 b l m w h1 h2 h3 k1 k2 k3 hnil
  obtain ⟨R, hR⟩ : ∃ R, R = M.mergeV b l m := ⟨_, rfl⟩
  obtain ⟨K, hK⟩ : ∃ K, K = M.mergeK b l m := ⟨_, rfl⟩
  obtain ⟨E, hE⟩ : ∃ E, E = M.mergeE b l m := ⟨_, rfl⟩
  rw [← hR, ← hK, ← hE] at hM
  have HM : Hid (Calls Try.prog 19 #[.slice a1 n1 c1, .slice a2 n2 c2, .slice a3 n3 c3] w fun e w' => Hands3 w w' R K E e) := hM
  have HF : Hid (∀ W, Below w.heap.size w W → Calls Try.prog 20 #[.slice a1 n1 c1, .slice a2 n2 c2, .slice a3 n3 c3] W fun e w' => Hands3 W w' R K E e) := fun W hW => by
    rw [hR, hK, hE]
    exact mergeOf_any a1 a2 a3 n1 n2 n3 c1 c2 c3 b l m W (h1.below hW (Nat.le_refl _)) (h2.below hW (Nat.le_refl _)) (h3.below hW (Nat.le_refl _)) k1 k2 k3
  clear hM h1 h2 h3 hR hK hE
  go_enter Try.func5, Try.ntmps5
  go_wp2_with fail
  refine HM.out.mono ?_
  rintro e w1 ⟨la, ln, lc, ka, kn, kc, rfl, rl, hlc, hlm, _, rk, hkc, hkm, b1⟩
  have RL : Hid (Rd w1 la ln R) := rl
  have RK : Hid (Ri w1 ka kn K) := rk
  have hln : ln ≤ 9223372036854775807 := by unfold maxLen at hlm; omega
  have hkn : kn ≤ 9223372036854775807 := by unfold maxLen at hkm; omega
  clear rl rk hlm hkm hlc hkc HM
  go_wp2_with fail
  refine (HF.out w1 b1).mono ?_
  rintro e w2 ⟨la2, ln2, lc2, ka2, kn2, kc2, rfl, rl, _, _, _, rk, _, _, b2⟩
  have RL2 : Hid (Rd w2 la2 ln2 R) := rl
  have RK2 : Hid (Ri w2 ka2 kn2 K) := rk
  have RL1 : Hid (Rd w2 la ln R) := RL.out.below b2 (Nat.le_refl _)
  have RK1 : Hid (Ri w2 ka kn K) := RK.out.below b2 (Nat.le_refl _)
  have q2 := below2 b1 b2
  clear rl rk RL RK b1 b2 HF
  go_wp2_with fail
  refine (threeBegun_any w2).mono ?_
  rintro e w3 ⟨rfl, b3⟩
  have q3 := below2 q2 b3
  have hS := same_any la la2 ln ln2 lc lc2 R R w3 (RL1.out.below b3 (Nat.le_refl _)) (RL2.out.below b3 (Nat.le_refl _)) hln
  rw [decide_eq_true rfl] at hS
  have HS : Hid (Calls Try.prog 14 #[.slice la ln lc, .slice la2 ln2 lc2] w3 fun e w' => e = .returned (.bool true) ∧ Below w3.heap.size w3 w') := hS
  have RK3 : Hid (Ri w3 ka kn K) := RK1.out.below b3 (Nat.le_refl _)
  have RK4 : Hid (Ri w3 ka2 kn2 K) := RK2.out.below b3 (Nat.le_refl _)
  clear hS b3 q2 RL1 RL2 RK1 RK2
  go_wp2_with fail
  refine HS.out.mono ?_
  rintro e w4 ⟨rfl, b4⟩
  have q4 := below2 q3 b4
  have hI := isame_any ka ka2 kn kn2 kc kc2 K K w4 (RK3.out.below b4 (Nat.le_refl _)) (RK4.out.below b4 (Nat.le_refl _)) hkn
  rw [decide_eq_true rfl] at hI
  have HI : Hid (Calls Try.prog 22 #[.slice ka kn kc, .slice ka2 kn2 kc2] w4 fun e w' => e = .returned (.bool true) ∧ Below w4.heap.size w4 w') := hI
  clear hI b4 q3
  go_wp2_with fail
  refine HI.out.mono ?_
  rintro e w5 ⟨rfl, b5⟩
  have q5 := below2 q4 b5
  go_wp2
  go_ret
  exact ⟨rfl, q5⟩

set_option maxRecDepth 100000 in
theorem threeMerges_lifted (os : Os) (started : os.Started) (H : Type) (enc : TypeId × Value → H) :
    ReturnsInHanded {} Try.checked os 5 .any (Rows.threeMergesSpec.pre6 enc Try.prog Try.f5 Rows.threeMergesRow.domain false) (Rows.threeMergesSpec.post enc Try.prog Try.f5 false true false false) := by
  refine returnsInHanded_of_change (C := Try.checked) ownTry started (by kernel_rfl) Try.func5
    (ChangeSpec.witness6 (enc := enc) (C := Try.checked) false ⟨#[], #[.slice none 0 0, .slice none 0 0, .slice none 0 0], []⟩ 8 (by kernel_rfl) (by kernel_rfl) (by kernel_rfl) (by kernel_rfl)) ?_
  intro W base args ds gs before hval0 hW hcnd _
  have hval : ∀ (j : Nat) t v, Try.f5.params[j]? = some t → args[j]? = some v → Value.okWide Try.prog W .any base t v := hval0
  have hW' := hW
  obtain ⟨p, q, hA0, hV, rfl, hfz, hnd⟩ := hW
  have hA : DataW.TrodAll enc Try.prog W 0 (fun _ => true) true Try.f5.params.toList args.toList ds p := hA0
  rw [Try.params5] at hA hval
  obtain ⟨v0, vs0, d0, ds0, p0, q0, hargs, rfl, rfl, h0, r0⟩ := trodAll_cons hA
  obtain ⟨v1, vs1, d1, ds1, p1, q1, rfl, rfl, rfl, h1, r1⟩ := trodAll_cons r0
  obtain ⟨v2, vs2, d2, ds2, p2, q2, rfl, rfl, rfl, h2, r2⟩ := trodAll_cons r1
  obtain ⟨rfl, rfl, rfl⟩ := trodAll_nil r2
  obtain rfl : args = #[v0, v1, v2] := by cases args; simp_all
  obtain ⟨rfl, rfl⟩ := trodVars_none hV
  obtain ⟨a0, len0, cap0, rfl⟩ := okWide_slice Try.underlying22 (hval 0 22 v0 rfl rfl)
  have k0 := h0
  have lt0 : ∀ x ∈ p0, x.block < W.heap.size := by obtain ⟨m, hm⟩ := k0; exact DataW.trod_lt m _ _ _ hm
  obtain ⟨l0, hrd0, hl0, hm0, hnil0⟩ : ∃ l, Rd W a0 len0 l ∧ len0 ≤ cap0 ∧ cap0 ≤ maxLen ∧ (a0 = none → len0 = 0 ∧ cap0 = 0) := by
    obtain ⟨fuel, hf⟩ := h0
    exact open_rows (by simpa [Value.cells] using hf)
  obtain ⟨a1, len1, cap1, rfl⟩ := okWide_slice Try.underlying22 (hval 1 22 v1 rfl rfl)
  have k1 := h1
  have lt1 : ∀ x ∈ p1, x.block < W.heap.size := by obtain ⟨m, hm⟩ := k1; exact DataW.trod_lt m _ _ _ hm
  obtain ⟨l1, hrd1, hl1, hm1, hnil1⟩ : ∃ l, Rd W a1 len1 l ∧ len1 ≤ cap1 ∧ cap1 ≤ maxLen ∧ (a1 = none → len1 = 0 ∧ cap1 = 0) := by
    obtain ⟨fuel, hf⟩ := h1
    exact open_rows (by simpa [Value.cells] using hf)
  obtain ⟨a2, len2, cap2, rfl⟩ := okWide_slice Try.underlying22 (hval 2 22 v2 rfl rfl)
  have k2 := h2
  have lt2 : ∀ x ∈ p2, x.block < W.heap.size := by obtain ⟨m, hm⟩ := k2; exact DataW.trod_lt m _ _ _ hm
  obtain ⟨l2, hrd2, hl2, hm2, hnil2⟩ : ∃ l, Rd W a2 len2 l ∧ len2 ≤ cap2 ∧ cap2 ≤ maxLen ∧ (a2 = none → len2 = 0 ∧ cap2 = 0) := by
    obtain ⟨fuel, hf⟩ := h2
    exact open_rows (by simpa [Value.cells] using hf)
  clear hA0 hval0
  refine (threeMerges_walk a0 a1 a2 len0 len1 len2 cap0 cap1 cap2 l0 l1 l2 W hrd0 hrd1 hrd2 (by unfold maxLen at hm0; omega) (by unfold maxLen at hm1; omega) (by unfold maxLen at hm2; omega) hnil1).mono fun e W' ⟨he, bel⟩ => ?_
  subst he
  exact ⟨_, rfl, _, _, _, [], _, [], hW', trodAll_mk1 (shut_bool Try.underlying4 _), (trodAll_cons_mk (Below.trod laidTry (by kernel_rfl) (of_decide_eq_true (by kernel_rfl)) k0 bel lt0) (trodAll_cons_mk (Below.trod laidTry (by kernel_rfl) (of_decide_eq_true (by kernel_rfl)) k1 bel lt1) (trodAll_cons_mk (Below.trod laidTry (by kernel_rfl) (of_decide_eq_true (by kernel_rfl)) k2 bel lt2) trodAll_mk0))), rfl, bel.frame _, fun h => by cases h⟩

theorem threeMerges_holds : Rows.ThreeMergesSaid :=
  OpenClaim.holds_of_wide 5 Try.f5 rfl rfl rfl rfl rfl rfl rfl ⟨rfl, rfl, rfl, rfl, rfl⟩ rfl rfl rfl rfl rfl (by kernel_rfl) Try.func5 (by kernel_rfl)
    (of_decide_eq_true (by kernel_rfl)) (by unfold Func.isWrapper; first | (rw [if_pos (by decide +kernel)]; kernel_rfl) | (rw [if_neg (by decide +kernel)]; exact ⟨rfl, rfl⟩))
    (fun os started H enc _ => threeMerges_lifted os started H enc)
#print axioms threeMerges_holds
end Go.Proofs.Ytcgpgflnihjpiad
