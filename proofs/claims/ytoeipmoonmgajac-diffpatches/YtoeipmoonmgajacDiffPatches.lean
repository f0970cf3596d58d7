/- For every slice of rows and every slice of changes, the law DiffPatches returns true and leaves its arguments as they were: Patch and Back of the landed diff package answer what the reference answers. No condition. -/
import Derived.Test.YtoeipmoonmgajacDfBegun
import Derived.Test.YtoeipmoonmgajacRPatch
import Derived.Test.YtoeipmoonmgajacOpenCh
namespace Go.Proofs.Ytoeipmoonmgajac
open Go.ChangeShapes Go.WideShapes Go.ChangeAt Go.RowKit

set_option maxHeartbeats 8000000 in
theorem diffPatches_walk (a1 a2 : Option Addr) (n1 n2 c1 c2 : Nat) (l : List (Int × Int)) (d : List M.Chg) (w : World) (h1 : Rd w a1 n1 l) (h2 : Rc w a2 n2 d) (k1 : n1 ≤ 9223372036854775807) (k2 : n2 ≤ 9223372036854775807) (hnil : a1 = none → n1 = 0 ∧ c1 = 0) :
    Calls Try.prog 8 #[.slice a1 n1 c1, .slice a2 n2 c2] w fun e w' => e = .returned (.bool true) ∧ Below w.heap.size w w' := by
  have begun : Hid (∀ W, Below w.heap.size w W → Calls Try.prog 21 #[] W fun e w' => e = .returned (.bool true) ∧ Below w.heap.size w w' ∧ Below W.heap.size W w') := fun W hW => (diffBegun_any W).mono fun e w' ⟨h, hb⟩ => ⟨h, below2 hW hb, hb⟩
  have P1 : Hid (∀ W, Below w.heap.size w W → Calls Try.prog 23 #[.slice a1 n1 c1, .slice a2 n2 c2] W fun e w' => Hands W w' (M.patchV l d) (M.patchE l d) e) := fun W hW => patch_any a1 n1 c1 l a2 n2 c2 d W (h1.below hW (Nat.le_refl _)) k1 hnil (h2.below hW (Nat.le_refl _)) k2
  have P2 : Hid (∀ W, Below w.heap.size w W → Calls Try.prog 24 #[.slice a2 n2 c2] W fun e w' => HandsC W w' (M.backV d) (M.backE d) e) := fun W hW => back_any a2 n2 c2 d W (h2.below hW (Nat.le_refl _)) k2
  have P3 : Hid (∀ W, Below w.heap.size w W → Calls Try.prog 25 #[.slice a1 n1 c1, .slice a2 n2 c2] W fun e w' => Hands W w' (M.patchV l d) (M.patchE l d) e) := fun W hW => patchOf_any a1 n1 c1 l a2 n2 c2 d W (h1.below hW (Nat.le_refl _)) k1 (h2.below hW (Nat.le_refl _)) k2
  have P4 : Hid (∀ W, Below w.heap.size w W → Calls Try.prog 26 #[.slice a2 n2 c2] W fun e w' => HandsC W w' (M.backV d) (M.backE d) e) := fun W hW => backOf_any a2 n2 c2 d W (h2.below hW (Nat.le_refl _)) k2
  obtain ⟨R, hR⟩ : ∃ R, R = M.patchV l d := ⟨_, rfl⟩
  obtain ⟨E, hE⟩ : ∃ E, E = M.patchE l d := ⟨_, rfl⟩
  obtain ⟨B, hBB⟩ : ∃ B, B = M.backV d := ⟨_, rfl⟩
  obtain ⟨F, hF⟩ : ∃ F, F = M.backE d := ⟨_, rfl⟩
  rw [← hR, ← hE] at P1 P3
  rw [← hBB, ← hF] at P2 P4
  clear h1 h2 k1 k2 hnil hR hE hBB hF
  go_enter Try.func8, Try.ntmps8
  go_wp2_with fail
  refine (P1.out _ (Below.refl _ _)).mono ?_
  rintro e w1 ⟨xa, xn, xc, rfl, r, g1, g2, _, q1⟩
  have hxn : xn ≤ 9223372036854775807 := by unfold maxLen at g2; omega
  have X1 : Hid (Rd w1 xa xn R) := r
  clear r g1 g2
  go_wp2_with fail
  refine (P2.out _ q1).mono ?_
  rintro e w2 ⟨ya, yn, yc, rfl, r, g1, g2, ba⟩
  have hyn : yn ≤ 9223372036854775807 := by unfold maxLen at g2; omega
  have Y2 : Hid (Rc w2 ya yn B) := r
  have X2 : Hid (Rd w2 xa xn R) := X1.out.below ba (Nat.le_refl _)
  have q2 := below2 q1 ba
  clear r g1 g2 ba X1 q1
  go_wp2_with fail
  refine (P3.out _ q2).mono ?_
  rintro e w3 ⟨ua, un, uc, rfl, r, g1, g2, _, ba⟩
  have U3 : Hid (Rd w3 ua un R) := r
  have Y3 : Hid (Rc w3 ya yn B) := Y2.out.below ba (Nat.le_refl _)
  have X3 : Hid (Rd w3 xa xn R) := X2.out.below ba (Nat.le_refl _)
  have q3 := below2 q2 ba
  clear r g1 g2 ba X2 Y2 q2
  go_wp2_with fail
  refine (P4.out _ q3).mono ?_
  rintro e w4 ⟨va, vn, vc, rfl, r, g1, g2, ba⟩
  have V4 : Hid (Rc w4 va vn B) := r
  have U4 : Hid (Rd w4 ua un R) := U3.out.below ba (Nat.le_refl _)
  have Y4 : Hid (Rc w4 ya yn B) := Y3.out.below ba (Nat.le_refl _)
  have X4 : Hid (Rd w4 xa xn R) := X3.out.below ba (Nat.le_refl _)
  have q4 := below2 q3 ba
  clear r g1 g2 ba X3 Y3 U3 q3
  go_wp2_with fail
  refine (begun.out _ q4).mono ?_
  rintro e w5 ⟨rfl, q5, ba⟩
  have V5 : Hid (Rc w5 va vn B) := V4.out.below ba (Nat.le_refl _)
  have U5 : Hid (Rd w5 ua un R) := U4.out.below ba (Nat.le_refl _)
  have Y5 : Hid (Rc w5 ya yn B) := Y4.out.below ba (Nat.le_refl _)
  have X5 : Hid (Rd w5 xa xn R) := X4.out.below ba (Nat.le_refl _)
  clear ba X4 Y4 U4 V4 q4
  go_wp2_with fail
  refine (same_any _ _ _ _ _ _ _ _ _ X5.out U5.out hxn).mono ?_
  rintro e w6 ⟨rfl, ba⟩
  have hd1 : decide (R = R) = true := by simp
  have hd2 : (E == E) = true := by simp
  have V6 : Hid (Rc w6 va vn B) := V5.out.below ba (Nat.le_refl _)
  have Y6 : Hid (Rc w6 ya yn B) := Y5.out.below ba (Nat.le_refl _)
  have q6 := below2 q5 ba
  clear ba X5 Y5 U5 V5 q5
  go_wp2_with fail
  refine (csame_any _ _ _ _ _ _ _ _ _ Y6.out V6.out hyn).mono ?_
  rintro e w7 ⟨rfl, ba⟩
  have hd3 : decide (B = B) = true := by simp
  have hd4 : (F == F) = true := by simp
  have q7 := below2 q6 ba
  go_wp2
  go_ret
  exact ⟨by simp, q7⟩

set_option maxRecDepth 100000 in
theorem diffPatches_lifted (os : Os) (started : os.Started) (H : Type) (enc : TypeId × Value → H) :
    ReturnsInHanded {} Try.checked os 8 .any (Rows.diffPatchesSpec.pre6 enc Try.prog Try.f8 Rows.diffPatchesRow.domain false) (Rows.diffPatchesSpec.post enc Try.prog Try.f8 false true false false) := by
  refine returnsInHanded_of_change (C := Try.checked) ownTry started (by kernel_rfl) Try.func8
    (ChangeSpec.witness6 (enc := enc) (C := Try.checked) false ⟨#[], #[.slice none 0 0, .slice none 0 0], []⟩ 8 (by kernel_rfl) (by kernel_rfl) (by kernel_rfl) (by kernel_rfl)) ?_
  intro W base args ds gs before hval0 hW hcnd _
  have hval : ∀ (j : Nat) t v, Try.f8.params[j]? = some t → args[j]? = some v → Value.okWide Try.prog W .any base t v := hval0
  have hW' := hW
  obtain ⟨p, q, hA0, hV, rfl, hfz, hnd⟩ := hW
  have hA : DataW.TrodAll enc Try.prog W 0 (fun _ => true) true Try.f8.params.toList args.toList ds p := hA0
  rw [Try.params8] at hA hval
  obtain ⟨v0, vs0, d0, ds0, p0, q0, hargs, rfl, rfl, h0, r0⟩ := trodAll_cons hA
  obtain ⟨v1, vs1, d1, ds1, p1, q1, rfl, rfl, rfl, h1, r1⟩ := trodAll_cons r0
  obtain ⟨rfl, rfl, rfl⟩ := trodAll_nil r1
  obtain rfl : args = #[v0, v1] := by cases args; simp_all
  obtain ⟨rfl, rfl⟩ := trodVars_none hV
  obtain ⟨a0, len0, cap0, rfl⟩ := okWide_slice Try.underlying32 (hval 0 32 v0 rfl rfl)
  have k0 := h0
  have lt0 : ∀ x ∈ p0, x.block < W.heap.size := by obtain ⟨m, hm⟩ := k0; exact DataW.trod_lt m _ _ _ hm
  obtain ⟨l0, hrd0, hl0, hm0, hnil0⟩ : ∃ l, Rd W a0 len0 l ∧ len0 ≤ cap0 ∧ cap0 ≤ maxLen ∧ (a0 = none → len0 = 0 ∧ cap0 = 0) := by
    obtain ⟨fuel, hf⟩ := h0
    exact open_rows (by simpa [Value.cells] using hf)
  obtain ⟨a1, len1, cap1, rfl⟩ := okWide_slice Try.underlying29 (hval 1 29 v1 rfl rfl)
  have k1 := h1
  have lt1 : ∀ x ∈ p1, x.block < W.heap.size := by obtain ⟨m, hm⟩ := k1; exact DataW.trod_lt m _ _ _ hm
  obtain ⟨L1, hrd1, hl1, hm1⟩ : ∃ L, Rc W a1 len1 L ∧ len1 ≤ cap1 ∧ cap1 ≤ maxLen := by
    obtain ⟨fuel, hf⟩ := h1
    exact open_changes (by simpa [Value.cells] using hf)
  clear hA0 hval0
  refine (diffPatches_walk a0 a1 len0 len1 cap0 cap1 l0 L1 W hrd0 hrd1 (by unfold maxLen at hm0; omega) (by unfold maxLen at hm1; omega) hnil0).mono fun e W' ⟨he, bel⟩ => ?_
  subst he
  exact ⟨_, rfl, _, _, _, [], _, [], hW', trodAll_mk1 (shut_bool Try.underlying4 _), (trodAll_cons_mk (Below.trod laidTry (by kernel_rfl) (of_decide_eq_true (by kernel_rfl)) k0 bel lt0) (trodAll_cons_mk (Below.trod laidTry (by kernel_rfl) (of_decide_eq_true (by kernel_rfl)) k1 bel lt1) trodAll_mk0)), rfl, bel.frame _, fun h => by cases h⟩

theorem diffPatches_holds : Rows.DiffPatchesSaid :=
  OpenClaim.holds_of_wide 8 Try.f8 rfl rfl rfl rfl rfl rfl rfl ⟨rfl, rfl, rfl, rfl, rfl⟩ rfl rfl rfl rfl rfl (by kernel_rfl) Try.func8 (by kernel_rfl)
    (of_decide_eq_true (by kernel_rfl)) (by unfold Func.isWrapper; first | (rw [if_pos (by decide +kernel)]; kernel_rfl) | (rw [if_neg (by decide +kernel)]; exact ⟨rfl, rfl⟩))
    (fun os started H enc _ => diffPatches_lifted os started H enc)
#print axioms diffPatches_holds
end Go.Proofs.Ytoeipmoonmgajac
