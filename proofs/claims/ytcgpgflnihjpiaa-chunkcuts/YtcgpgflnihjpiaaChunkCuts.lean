/- For every slice of rows and every level, the law ChunkCuts returns true and leaves its arguments as they were: Cut of the landed chunk package answers what the reference answers, errors too. No condition. -/
import Derived.Test.YtcgpgflnihjpiaaCutOf
import Derived.Test.YtcgpgflnihjpiaaOpenRow
namespace Go.Proofs.Ytcgpgflnihjpiaa
open Go.ChangeShapes Go.WideShapes Go.ChangeAt Go.RowKit

set_option maxHeartbeats 4000000 in
theorem cuts_walk (a : Option Addr) (n cap : Nat) (l : List (Int × Int)) (level : Int) (w : World) (h : Sl w a n cap l) :
    Calls Try.prog 6 #[.slice a n cap, .int .i64 level] w fun e w' => e = .returned (.bool true) ∧ Below w.heap.size w w' := by
  have HS : Hid (Sl w a n cap l) := h
  clear h
  have H1 : Hid (∀ W, Below w.heap.size w W → Calls Try.prog 17 #[.slice a n cap, .int .i64 level] W fun e w' => HandsL W w' (M.cutV l level) (M.cutE l level) e) := fun W hb => cut_any a n cap l level W (HS.out.below hb)
  have H2 : Hid (∀ W, Below w.heap.size w W → Calls Try.prog 18 #[.slice a n cap, .int .i64 level] W fun e w' => HandsL W w' (M.cutV l level) (M.cutE l level) e) := fun W hb => cutOf_any a n cap l level W (HS.out.below hb)
  generalize M.cutV l level = LL at *
  generalize M.cutE l level = c at *
  go_enter Try.func6, Try.ntmps6
  go_wp2_with fail
  refine (H1.out _ (Below.refl _ _)).mono ?_
  rintro e w1 ⟨a1, n1, c1, rfl, v1, r1, s1, _, b1⟩
  have V1 : Hid (Lv w1 a1 n1 LL ∧ n1 ≤ 9223372036854775807) := ⟨v1, by unfold maxLen at s1; omega⟩
  clear v1 r1 s1
  go_wp2_with fail
  refine (H2.out _ b1).mono ?_
  rintro e w2 ⟨a2, n2, c2, rfl, v2, _, _, _, b2⟩
  have V2 : Hid (Lv w2 a2 n2 LL) := v2
  have q2 := below2 b1 b2
  have p2 := b2
  clear b1 b2 v2
  go_wp2_with fail
  refine (cbegun_any _).mono ?_
  rintro e w3 ⟨rfl, b3⟩
  have q3 := below2 q2 b3
  have p3 := below2 p2 b3
  go_wp2_with fail
  refine (lsame_any a1 a2 n1 n2 c1 c2 LL LL w3 (V1.out.1.below p3) (V2.out.below b3) V1.out.2).mono ?_
  rintro e w4 ⟨rfl, b4⟩
  have q4 := below2 q3 b4
  clear b3 b4 p2 p3 q2 q3
  have ht : decide (LL = LL) = true := by simp
  go_wp2
  go_ret
  exact ⟨rfl, q4⟩

set_option maxRecDepth 100000 in
theorem chunkCuts_lifted (os : Os) (started : os.Started) (H : Type) (enc : TypeId × Value → H) :
    ReturnsInHanded {} Try.checked os 6 .any (Rows.chunkCutsSpec.pre6 enc Try.prog Try.f6 Rows.chunkCutsRow.domain false) (Rows.chunkCutsSpec.post enc Try.prog Try.f6 false true false false) := by
  refine returnsInHanded_of_change (C := Try.checked) ownTry started (by kernel_rfl) Try.func6
    (ChangeSpec.witness6 (enc := enc) (C := Try.checked) false ⟨#[], #[.slice none 0 0, .int .i64 0], []⟩ 8 (by kernel_rfl) (by kernel_rfl) (by kernel_rfl) (by kernel_rfl)) ?_
  intro W base args ds gs before hval0 hW hcnd _
  have hval : ∀ (j : Nat) t v, Try.f6.params[j]? = some t → args[j]? = some v → Value.okWide Try.prog W .any base t v := hval0
  have hW' := hW
  obtain ⟨p, q, hA0, hV, rfl, hfz, hnd⟩ := hW
  have hA : DataW.TrodAll enc Try.prog W 0 (fun _ => true) true Try.f6.params.toList args.toList ds p := hA0
  rw [Try.params6] at hA hval
  obtain ⟨v0, vs0, d0, ds0, p0, q0, hargs, rfl, rfl, h0, r0⟩ := trodAll_cons hA
  obtain ⟨v1, vs1, d1, ds1, p1, q1, rfl, rfl, rfl, h1, r1⟩ := trodAll_cons r0
  obtain ⟨rfl, rfl, rfl⟩ := trodAll_nil r1
  obtain rfl : args = #[v0, v1] := by cases args; simp_all
  obtain ⟨rfl, rfl⟩ := trodVars_none hV
  obtain ⟨a0, len0, cap0, rfl⟩ := okWide_slice Try.underlying22 (hval 0 22 v0 rfl rfl)
  have k0 := h0
  have lt0 : ∀ x ∈ p0, x.block < W.heap.size := by obtain ⟨m, hm⟩ := k0; exact DataW.trod_lt m _ _ _ hm
  obtain ⟨l0, hrd0, hl0, hm0, hnil0⟩ : ∃ l, Rd W a0 len0 l ∧ len0 ≤ cap0 ∧ cap0 ≤ maxLen ∧ (a0 = none → len0 = 0 ∧ cap0 = 0) := by
    obtain ⟨fuel, hf⟩ := h0
    exact open_rows (by simpa [Value.cells] using hf)
  obtain ⟨a1, rfl, rfl, rfl, w1⟩ := open_int Try.underlying3 (hval 1 3 v1 rfl rfl) h1
  clear hA0 hval0
  refine (cuts_walk a0 len0 cap0 l0 a1 W ⟨hrd0, hl0, hm0, hnil0⟩).mono fun e W' ⟨he, bel⟩ => ?_
  subst he
  exact ⟨_, rfl, _, _, _, [], _, [], hW', trodAll_mk1 (shut_bool Try.underlying4 _), (trodAll_cons_mk (Below.trod laidTry (by kernel_rfl) (of_decide_eq_true (by kernel_rfl)) k0 bel lt0) (trodAll_cons_mk (shut_int Try.underlying3 w1) trodAll_mk0)), rfl, bel.frame _, fun h => by cases h⟩

theorem chunkCuts_holds : Rows.ChunkCutsSaid :=
  OpenClaim.holds_of_wide 6 Try.f6 rfl rfl rfl rfl rfl rfl rfl ⟨rfl, rfl, rfl, rfl, rfl⟩ rfl rfl rfl rfl rfl (by kernel_rfl) Try.func6 (by kernel_rfl)
    (of_decide_eq_true (by kernel_rfl)) (by unfold Func.isWrapper; first | (rw [if_pos (by decide +kernel)]; kernel_rfl) | (rw [if_neg (by decide +kernel)]; exact ⟨rfl, rfl⟩))
    (fun os started H enc _ => chunkCuts_lifted os started H enc)
#print axioms chunkCuts_holds
end Go.Proofs.Ytcgpgflnihjpiaa
