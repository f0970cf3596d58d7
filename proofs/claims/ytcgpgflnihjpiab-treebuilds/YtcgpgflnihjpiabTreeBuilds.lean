/- For every slice of rows, the law TreeBuilds returns true and leaves its argument as it was: Build of the landed tree package answers what the reference answers, errors too. No condition. -/
import Derived.Test.YtcgpgflnihjpiabBuildOf
import Derived.Test.YtcgpgflnihjpiabTBegun
import Derived.Test.YtcgpgflnihjpiabOpenRow
namespace Go.Proofs.Ytcgpgflnihjpiab
open Go.ChangeShapes Go.WideShapes Go.ChangeAt Go.RowKit

set_option maxHeartbeats 4000000 in
theorem builds_walk (a : Option Addr) (n cap : Nat) (l : List (Int × Int)) (w : World) (h : Sl w a n cap l) :
    Calls Try.prog 3 #[.slice a n cap] w fun e w' => e = .returned (.bool true) ∧ Below w.heap.size w w' := by
  have HS : Hid (Sl w a n cap l) := h
  clear h
  have H1 : Hid (∀ W, Below w.heap.size w W → Calls Try.prog 9 #[.slice a n cap] W fun e w' => ∃ a' n' c', e = .returned (.tuple #[.slice a' n' c', .int .i64 (M.chk l)]) ∧ TvS w' a' n' c' (if M.chk l = 0 then M.build l else []) ∧ Below W.heap.size W w') := fun W hb => by
    refine (build_any a n cap l W (HS.out.below hb)).mono ?_
    rintro e w' ⟨v, rfl, ho, hb⟩
    obtain ⟨a', n', c', rfl, ht⟩ := ho.tv
    exact ⟨a', n', c', rfl, ht, hb⟩
  have H2 : Hid (∀ W, Below w.heap.size w W → Calls Try.prog 10 #[.slice a n cap] W fun e w' => ∃ a' n' c', e = .returned (.tuple #[.slice a' n' c', .int .i64 (M.chk l)]) ∧ TvS w' a' n' c' (if M.chk l = 0 then M.build l else []) ∧ Below W.heap.size W w') := fun W hb => by
    refine (buildOf_any a n cap l W (HS.out.below hb)).mono ?_
    rintro e w' ⟨v, rfl, ho, hb⟩
    obtain ⟨a', n', c', rfl, ht⟩ := ho.tv
    exact ⟨a', n', c', rfl, ht, hb⟩
  generalize (if M.chk l = 0 then M.build l else []) = T at *
  generalize M.chk l = c at *
  go_enter Try.func3, Try.ntmps3
  go_wp2_with fail
  refine (H1.out _ (Below.refl _ _)).mono ?_
  rintro e w1 ⟨a1, n1, c1, rfl, v1, b1⟩
  have V1 : Hid (TvS w1 a1 n1 c1 T) := v1
  clear v1
  go_wp2_with fail
  refine (H2.out _ b1).mono ?_
  rintro e w2 ⟨a2, n2, c2, rfl, v2, b2⟩
  have V2 : Hid (TvS w2 a2 n2 c2 T) := v2
  have q2 := below2 b1 b2
  have p2 := b2
  clear b1 b2 v2
  go_wp2_with fail
  refine (tbegun_any _).mono ?_
  rintro e w3 ⟨rfl, b3⟩
  have q3 := below2 q2 b3
  have p3 := below2 p2 b3
  go_wp2_with fail
  refine (tsame_any a1 a2 n1 n2 c1 c2 T T w3 (V1.out.below p3).1 (V2.out.below b3).1 V1.out.len).mono ?_
  rintro e w4 ⟨rfl, b4⟩
  have q4 := below2 q3 b4
  clear b3 b4 p2 p3 q2 q3
  have ht : decide (T = T) = true := by simp
  go_wp2
  go_ret
  exact ⟨rfl, q4⟩

set_option maxRecDepth 100000 in
theorem treeBuilds_lifted (os : Os) (started : os.Started) (H : Type) (enc : TypeId × Value → H) :
    ReturnsInHanded {} Try.checked os 3 .any (Rows.treeBuildsSpec.pre6 enc Try.prog Try.f3 Rows.treeBuildsRow.domain false) (Rows.treeBuildsSpec.post enc Try.prog Try.f3 false true false false) := by
  refine returnsInHanded_of_change (C := Try.checked) ownTry started (by kernel_rfl) Try.func3
    (ChangeSpec.witness6 (enc := enc) (C := Try.checked) false ⟨#[], #[.slice none 0 0], []⟩ 8 (by kernel_rfl) (by kernel_rfl) (by kernel_rfl) (by kernel_rfl)) ?_
  intro W base args ds gs before hval0 hW hcnd _
  have hval : ∀ (j : Nat) t v, Try.f3.params[j]? = some t → args[j]? = some v → Value.okWide Try.prog W .any base t v := hval0
  have hW' := hW
  obtain ⟨p, q, hA0, hV, rfl, hfz, hnd⟩ := hW
  have hA : DataW.TrodAll enc Try.prog W 0 (fun _ => true) true Try.f3.params.toList args.toList ds p := hA0
  rw [Try.params3] at hA hval
  obtain ⟨v0, vs0, d0, ds0, p0, q0, hargs, rfl, rfl, h0, r0⟩ := trodAll_cons hA
  obtain ⟨rfl, rfl, rfl⟩ := trodAll_nil r0
  obtain rfl : args = #[v0] := by cases args; simp_all
  obtain ⟨rfl, rfl⟩ := trodVars_none hV
  obtain ⟨a0, len0, cap0, rfl⟩ := okWide_slice Try.underlying22 (hval 0 22 v0 rfl rfl)
  have k0 := h0
  have lt0 : ∀ x ∈ p0, x.block < W.heap.size := by obtain ⟨m, hm⟩ := k0; exact DataW.trod_lt m _ _ _ hm
  obtain ⟨l0, hrd0, hl0, hm0, hnil0⟩ : ∃ l, Rd W a0 len0 l ∧ len0 ≤ cap0 ∧ cap0 ≤ maxLen ∧ (a0 = none → len0 = 0 ∧ cap0 = 0) := by
    obtain ⟨fuel, hf⟩ := h0
    exact open_rows (by simpa [Value.cells] using hf)
  clear hA0 hval0
  refine (builds_walk a0 len0 cap0 l0 W ⟨hrd0, hl0, hm0, hnil0⟩).mono fun e W' ⟨he, bel⟩ => ?_
  subst he
  exact ⟨_, rfl, _, _, _, [], _, [], hW', trodAll_mk1 (shut_bool Try.underlying4 _), (trodAll_cons_mk (Below.trod laidTry (by kernel_rfl) (of_decide_eq_true (by kernel_rfl)) k0 bel lt0) trodAll_mk0), rfl, bel.frame _, fun h => by cases h⟩

theorem treeBuilds_holds : Rows.TreeBuildsSaid :=
  OpenClaim.holds_of_wide 3 Try.f3 rfl rfl rfl rfl rfl rfl rfl ⟨rfl, rfl, rfl, rfl, rfl⟩ rfl rfl rfl rfl rfl (by kernel_rfl) Try.func3 (by kernel_rfl)
    (of_decide_eq_true (by kernel_rfl)) (by unfold Func.isWrapper; first | (rw [if_pos (by decide +kernel)]; kernel_rfl) | (rw [if_neg (by decide +kernel)]; exact ⟨rfl, rfl⟩))
    (fun os started H enc _ => treeBuilds_lifted os started H enc)
#print axioms treeBuilds_holds
end Go.Proofs.Ytcgpgflnihjpiab
