/- For every slice of rows and every key, the law RowsTells returns true and leaves its arguments as they were: Check and Find of the landed rows package answer what the reference answers. No condition. -/
import Derived.Test.YtcgpgflnihjpiaaBegun
import Derived.Test.YtcgpgflnihjpiaaOpen
namespace Go.Proofs.Ytcgpgflnihjpiaa
open Go.ChangeShapes Go.WideShapes Go.ChangeAt Go.RowKit

set_option maxHeartbeats 4000000 in
theorem tells_walk (a : Option Addr) (n cap : Nat) (l : List (Int × Int)) (key : Int) (w : World) (h : Rd w a n l) (hm : n ≤ 9223372036854775807) :
    Calls Try.prog 3 #[.slice a n cap, .int .i64 key] w fun e w' => e = .returned (.bool true) ∧ Below w.heap.size w w' := by
  have H1 : Hid (∀ W, Below w.heap.size w W → Calls Try.prog 9 #[.slice a n cap, .int .i64 key] W fun e w' => e = .returned (.tuple #[.int .i64 (M.findV l key), .int .i64 (M.asked l key)]) ∧ Below W.heap.size W w') := fun W hb => find_any a n cap l key W (h.below hb (Nat.le_refl _)) hm
  have H2 : Hid (∀ W, Below w.heap.size w W → Calls Try.prog 10 #[.slice a n cap, .int .i64 key] W fun e w' => e = .returned (.tuple #[.int .i64 (M.findV l key), .int .i64 (M.asked l key)]) ∧ Below W.heap.size W w') := fun W hb => findOf_any a n cap l key W (h.below hb (Nat.le_refl _)) hm
  have H3 : Hid (∀ W, Below w.heap.size w W → Calls Try.prog 12 #[.slice a n cap] W fun e w' => e = .returned (.int .i64 (M.chk l)) ∧ Below W.heap.size W w') := fun W hb => check_any a n cap l W (h.below hb (Nat.le_refl _)) hm
  have H4 : Hid (∀ W, Below w.heap.size w W → Calls Try.prog 13 #[.slice a n cap] W fun e w' => e = .returned (.int .i64 (M.chk l)) ∧ Below W.heap.size W w') := fun W hb => error_any a n cap l W (h.below hb (Nat.le_refl _)) hm
  clear h hm
  generalize M.findV l key = x at *
  generalize M.asked l key = y at *
  generalize M.chk l = z at *
  go_enter Try.func3, Try.ntmps3
  go_wp2_with fail
  refine (H1.out _ (Below.refl _ _)).mono ?_
  rintro e w1 ⟨rfl, b1⟩
  go_wp2_with fail
  refine (H2.out _ b1).mono ?_
  rintro e w2 ⟨rfl, b2⟩
  have c2 := below2 b1 b2
  go_wp2_with fail
  refine (begun_any _).mono ?_
  rintro e w3 ⟨rfl, b3⟩
  have c3 := below2 c2 b3
  go_wp2_with fail
  refine (H3.out _ c3).mono ?_
  rintro e w4 ⟨rfl, b4⟩
  have c4 := below2 c3 b4
  go_wp2_with fail
  refine (H4.out _ c4).mono ?_
  rintro e w5 ⟨rfl, b5⟩
  have c5 := below2 c4 b5
  go_wp2
  go_ret
  exact ⟨rfl, c5⟩

set_option maxRecDepth 100000 in
theorem rowsTells_lifted (os : Os) (started : os.Started) (H : Type) (enc : TypeId × Value → H) :
    ReturnsInHanded {} Try.checked os 3 .any (Rows.rowsTellsSpec.pre6 enc Try.prog Try.f3 Rows.rowsTellsRow.domain false) (Rows.rowsTellsSpec.post enc Try.prog Try.f3 false true false false) := by
  refine returnsInHanded_of_change (C := Try.checked) ownTry started (by kernel_rfl) Try.func3
    (ChangeSpec.witness6 (enc := enc) (C := Try.checked) false ⟨#[], #[.slice none 0 0, .int .i64 0], []⟩ 8 (by kernel_rfl) (by kernel_rfl) (by kernel_rfl) (by kernel_rfl)) ?_
  intro W base args ds gs before hval0 hW hcnd _
  have hval : ∀ (j : Nat) t v, Try.f3.params[j]? = some t → args[j]? = some v → Value.okWide Try.prog W .any base t v := hval0
  have hW' := hW
  obtain ⟨p, q, hA0, hV, rfl, hfz, hnd⟩ := hW
  have hA : DataW.TrodAll enc Try.prog W 0 (fun _ => true) true Try.f3.params.toList args.toList ds p := hA0
  rw [Try.params3] at hA hval
  obtain ⟨v0, vs0, d0, ds0, p0, q0, hargs, rfl, rfl, h0, r0⟩ := trodAll_cons hA
  obtain ⟨v1, vs1, d1, ds1, p1, q1, rfl, rfl, rfl, h1, r1⟩ := trodAll_cons r0
  obtain ⟨rfl, rfl, rfl⟩ := trodAll_nil r1
  obtain rfl : args = #[v0, v1] := by cases args; simp_all
  obtain ⟨rfl, rfl⟩ := trodVars_none hV
  obtain ⟨a0, len0, cap0, rfl⟩ := okWide_slice Try.underlying22 (hval 0 22 v0 rfl rfl)
  have k0 := h0
  have lt0 : ∀ x ∈ p0, x.block < W.heap.size := by obtain ⟨m, hm⟩ := k0; exact DataW.trod_lt m _ _ _ hm
  obtain ⟨l, hrd, hl, hm, hnil⟩ : ∃ l, Rd W a0 len0 l ∧ len0 ≤ cap0 ∧ cap0 ≤ maxLen ∧ (a0 = none → len0 = 0 ∧ cap0 = 0) := by
    obtain ⟨fuel, hf⟩ := h0
    exact open_rows (by simpa [Value.cells] using hf)
  obtain ⟨a1, rfl, rfl, rfl, w1⟩ := open_int Try.underlying3 (hval 1 3 v1 rfl rfl) h1
  clear hA0 hval0
  refine (tells_walk a0 len0 cap0 l a1 W hrd (by unfold maxLen at hm; omega)).mono fun e W' ⟨he, bel⟩ => ?_
  subst he
  exact ⟨_, rfl, _, _, _, [], _, [], hW', trodAll_mk1 (shut_bool Try.underlying4 _), (trodAll_cons_mk (Below.trod laidTry (by kernel_rfl) (of_decide_eq_true (by kernel_rfl)) k0 bel lt0) (trodAll_cons_mk (shut_int Try.underlying3 w1) trodAll_mk0)), rfl, bel.frame _, fun h => by cases h⟩

theorem rowsTells_holds : Rows.RowsTellsSaid :=
  OpenClaim.holds_of_wide 3 Try.f3 rfl rfl rfl rfl rfl rfl rfl ⟨rfl, rfl, rfl, rfl, rfl⟩ rfl rfl rfl rfl rfl (by kernel_rfl) Try.func3 (by kernel_rfl)
    (of_decide_eq_true (by kernel_rfl)) (by unfold Func.isWrapper; first | (rw [if_pos (by decide +kernel)]; kernel_rfl) | (rw [if_neg (by decide +kernel)]; exact ⟨rfl, rfl⟩))
    (fun os started H enc _ => rowsTells_lifted os started H enc)
#print axioms rowsTells_holds
end Go.Proofs.Ytcgpgflnihjpiaa
