/- For every two trees whose reading is of bulk at most the given bound, the law DiffTells returns true and leaves its arguments as they were: Of of the landed diff package tells what the reference tells. -/
import Derived.Test.YtoeipmoonmgajacDfBegun
import Derived.Test.YtoeipmoonmgajacRDiff3
import Derived.Test.YtoeipmoonmgajacOpenT
import Derived.JoinedCond
namespace Go.Proofs.Ytoeipmoonmgajac
open Go.ChangeShapes Go.WideShapes Go.ChangeAt Go.RowKit

set_option maxHeartbeats 8000000 in
theorem diffTells_walk (a1 a2 : Option Addr) (n1 n2 c1 c2 : Nat) (T U : List (List (List (Int × Int)))) (w : World) (h1 : TvS w a1 n1 c1 T) (f1 : (flat T).length ≤ 900000) (h2 : TvS w a2 n2 c2 U) (f2 : (flat U).length ≤ 900000) :
    Calls Try.prog 7 #[.slice a1 n1 c1, .slice a2 n2 c2] w fun e w' => e = .returned (.bool true) ∧ Below w.heap.size w w' := by
  have begun : Hid (∀ W, Below w.heap.size w W → Calls Try.prog 21 #[] W fun e w' => e = .returned (.bool true) ∧ Below w.heap.size w w' ∧ Below W.heap.size W w') := fun W hW => (diffBegun_any W).mono fun e w' ⟨h, hb⟩ => ⟨h, below2 hW hb, hb⟩
  have P1 : Hid (Calls Try.prog 19 #[.slice a1 n1 c1, .slice a2 n2 c2] w fun e w' => HandsC w w' (difV T U) (difE T U) e) := dof_any a1 a2 n1 n2 c1 c2 T U w h1 (big_of f1) h2 (big_of f2)
  have P2 : Hid (∀ W, Below w.heap.size w W → Calls Try.prog 20 #[.slice a1 n1 c1, .slice a2 n2 c2] W fun e w' => HandsC W w' (difV T U) (difE T U) e) := fun W hW => diffOf_any a1 a2 n1 n2 c1 c2 T U W (h1.below hW) f1 (h2.below hW) f2
  obtain ⟨B, hBB⟩ : ∃ B, B = difV T U := ⟨_, rfl⟩
  obtain ⟨F, hF⟩ : ∃ F, F = difE T U := ⟨_, rfl⟩
  rw [← hBB, ← hF] at P1 P2
  clear h1 h2 f1 f2 hBB hF
  go_enter Try.func7, Try.ntmps7
  go_wp2_with fail
  refine P1.out.mono ?_
  rintro e w1 ⟨ya, yn, yc, rfl, r, g1, g2, q1⟩
  have hyn : yn ≤ 9223372036854775807 := by unfold maxLen at g2; omega
  have Y1 : Hid (Rc w1 ya yn B) := r
  clear r g1 g2
  go_wp2_with fail
  refine (P2.out _ q1).mono ?_
  rintro e w2 ⟨va, vn, vc, rfl, r, g1, g2, ba⟩
  have V2 : Hid (Rc w2 va vn B) := r
  have Y2 : Hid (Rc w2 ya yn B) := Y1.out.below ba (Nat.le_refl _)
  have q2 := below2 q1 ba
  clear r g1 g2 ba Y1 q1
  go_wp2_with fail
  refine (begun.out _ q2).mono ?_
  rintro e w3 ⟨rfl, q3, ba⟩
  have V3 : Hid (Rc w3 va vn B) := V2.out.below ba (Nat.le_refl _)
  have Y3 : Hid (Rc w3 ya yn B) := Y2.out.below ba (Nat.le_refl _)
  clear ba Y2 V2 q2
  go_wp2_with fail
  refine (csame_any _ _ _ _ _ _ _ _ _ Y3.out V3.out hyn).mono ?_
  rintro e w4 ⟨rfl, ba⟩
  have hd3 : decide (B = B) = true := by simp
  have hd4 : (F == F) = true := by simp
  have q4 := below2 q3 ba
  go_wp2
  go_ret
  exact ⟨by simp, q4⟩

set_option maxRecDepth 100000 in
theorem diffTells_contract (H : Type) (enc : TypeId × Value → H) (W : World) (base : Nat) (args : Array Value) (ds gs : List (DataW H)) (before : List MemPlace)
    (hval0 : ∀ (j : Nat) t v, Try.f7.params[j]? = some t → args[j]? = some v → Value.okWide Try.prog W .any base t v)
    (hW : DataW.Whole enc Try.prog Try.f7.params.toList Rows.diffTellsSpec.vars false W args.toList ds gs before) (hk : Rows.uptoSmall H (ds ++ gs) = true) :
    Calls Try.prog 7 args W fun e W' => ∃ v, e = .returned v ∧ Rows.diffTellsSpec.post enc Try.prog Try.f7 false true false false W args v W' := by
  have hval : ∀ (j : Nat) t v, Try.f7.params[j]? = some t → args[j]? = some v → Value.okWide Try.prog W .any base t v := hval0
  have hW' := hW
  obtain ⟨p, q, hA0, hV, rfl, hfz, hnd⟩ := hW
  have hA : DataW.TrodAll enc Try.prog W 0 (fun _ => true) true Try.f7.params.toList args.toList ds p := hA0
  rw [Try.params7] at hA hval
  obtain ⟨v0, vs0, d0, ds0, p0, q0, hargs, rfl, rfl, h0, r0⟩ := trodAll_cons hA
  obtain ⟨v1, vs1, d1, ds1, p1, q1, rfl, rfl, rfl, h1, r1⟩ := trodAll_cons r0
  obtain ⟨rfl, rfl, rfl⟩ := trodAll_nil r1
  obtain rfl : args = #[v0, v1] := by cases args; simp_all
  obtain ⟨rfl, rfl⟩ := trodVars_none hV
  have hk1 : Rows.uptoSmall H [d0, d1] = true := hk
  have hb : Rows.uptoBulkAll [d0, d1] ≤ 1048576 := of_decide_eq_true hk1
  simp only [Rows.uptoBulkAll] at hb
  obtain ⟨a0, len0, cap0, rfl⟩ := okWide_slice Try.underlying22 (hval 0 22 v0 rfl rfl)
  have k0 := h0
  have lt0 : ∀ x ∈ p0, x.block < W.heap.size := by obtain ⟨m, hm⟩ := k0; exact DataW.trod_lt m _ _ _ hm
  obtain ⟨T0, hT0, hfl0⟩ : ∃ T, TvS W a0 len0 cap0 T ∧ (flat T).length * 3 ≤ Rows.uptoBulk d0 := by
    obtain ⟨fuel, hf⟩ := h0
    exact open_tree (by simpa [Value.cells] using hf)
  obtain ⟨a1, len1, cap1, rfl⟩ := okWide_slice Try.underlying22 (hval 1 22 v1 rfl rfl)
  have k1 := h1
  have lt1 : ∀ x ∈ p1, x.block < W.heap.size := by obtain ⟨m, hm⟩ := k1; exact DataW.trod_lt m _ _ _ hm
  obtain ⟨T1, hT1, hfl1⟩ : ∃ T, TvS W a1 len1 cap1 T ∧ (flat T).length * 3 ≤ Rows.uptoBulk d1 := by
    obtain ⟨fuel, hf⟩ := h1
    exact open_tree (by simpa [Value.cells] using hf)
  have hf0 : (flat T0).length ≤ 900000 := by omega
  have hf1 : (flat T1).length ≤ 900000 := by omega
  clear hA0 hval0
  refine (diffTells_walk a0 a1 len0 len1 cap0 cap1 T0 T1 W hT0 hf0 hT1 hf1).mono fun e W' ⟨he, bel⟩ => ?_
  subst he
  exact ⟨_, rfl, _, _, _, [], _, [], hW', trodAll_mk1 (shut_bool Try.underlying4 _), (trodAll_cons_mk (Below.trod laidTry (by kernel_rfl) (of_decide_eq_true (by kernel_rfl)) k0 bel lt0) (trodAll_cons_mk (Below.trod laidTry (by kernel_rfl) (of_decide_eq_true (by kernel_rfl)) k1 bel lt1) trodAll_mk0)), rfl, bel.frame _, fun h => by cases h⟩

set_option maxRecDepth 100000 in
theorem diffTells_lifted (os : Os) (started : os.Started) (H : Type) (enc : TypeId × Value → H) (F : Stop.Interp) :
    ReturnsInHanded {} Try.checked os 7 .any ((Rows.OpenSpec.upto Rows.diffTellsSpec).pre6 enc Try.prog Try.f7 Rows.diffTellsUptoRow.domain false) (((Rows.OpenSpec.upto Rows.diffTellsSpec).at F).post enc Try.prog Try.f7 false true false false) := by
  refine returnsInHanded_of_cond (C := Try.checked) (s := Rows.OpenSpec.upto Rows.diffTellsSpec) (k := Rows.uptoSmall) rfl ownTry started (by kernel_rfl) Try.func7
    (OpenSpec.witness (enc := enc) (C := Try.checked) (s := Rows.OpenSpec.upto Rows.diffTellsSpec) (k := Rows.uptoSmall) rfl false ⟨#[], #[.slice none 0 0, .slice none 0 0], []⟩ 8 (by kernel_rfl) (by kernel_rfl) (by kernel_rfl)
      (x := ([.nil, .nil], [], [])) (by kernel_rfl) rfl (by kernel_rfl)) ?_
  intro W base args ds gs before hval hW _ hk _
  exact diffTells_contract H enc W base args ds gs before hval hW hk

theorem diffTells_holds : Rows.DiffTellsUptoSaid :=
  OpenClaim.holds_of_cond 7 Try.f7 rfl rfl rfl rfl rfl rfl rfl ⟨rfl, rfl, rfl, rfl, rfl⟩ rfl rfl rfl rfl rfl (by kernel_rfl) Try.func7 (by kernel_rfl)
    (of_decide_eq_true (by kernel_rfl)) (by unfold Func.isWrapper; first | (rw [if_pos (by decide +kernel)]; kernel_rfl) | (rw [if_neg (by decide +kernel)]; exact ⟨rfl, rfl⟩))
    (fun os started H enc _ F => diffTells_lifted os started H enc F)
#print axioms diffTells_holds
end Go.Proofs.Ytoeipmoonmgajac
