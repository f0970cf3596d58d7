/- For every slice of rows, every row and every level, the law ChunkSums returns true and leaves its arguments as they were: Ends and Sum of the landed chunk package answer what the reference answers. No condition. -/
import Derived.Test.YtcgpgflnihjpiaaCBegun
import Derived.Test.YtcgpgflnihjpiaaSumOf
import Derived.Test.YtcgpgflnihjpiaaOpenRow
import Derived.Test.YtcgpgflnihjpiaaQuiet
import Derived.Lib.SmallJoins
namespace Go.Proofs.Ytcgpgflnihjpiaa
open Go.ChangeShapes Go.WideShapes Go.ChangeAt Go.RowKit

set_option maxHeartbeats 8000000 in
theorem sums_walk (a : Option Addr) (n cap : Nat) (l : List (Int × Int)) (x y level : Int) (w : World) (h : Rd w a n l) (hm : n ≤ 9223372036854775807) :
    Calls Try.prog 7 #[.slice a n cap, .agg #[.int .i64 x, .int .i64 y], .int .i64 level] w fun e w' => e = .returned (.bool true) ∧ Below w.heap.size w w' := by
  obtain ⟨Wb, hWb⟩ : ∃ Wb, Wb = w.alloc (.cells #[.int .i64 x, .int .i64 y] 39) := ⟨_, rfl⟩
  have bb : Below w.heap.size w Wb := by rw [hWb]; exact (Below.refl _ _).alloc (Nat.le_refl _) _
  have hsz : w.heap.size < Wb.heap.size := by rw [hWb]; simp
  have c0 : Wb.cell? ⟨w.heap.size, 0, none⟩ = some (.int .i64 x) := by rw [hWb]; simp [go_sem]
  have c1 : Wb.cell? ⟨w.heap.size, 1, none⟩ = some (.int .i64 y) := by rw [hWb]; simp [go_sem]
  have HW : Hid (Wb = w.alloc (.cells #[.int .i64 x, .int .i64 y] 39)) := hWb
  have HB : Hid (∀ W, Below Wb.heap.size Wb W → W.cell? ⟨w.heap.size, 0, none⟩ = some (.int .i64 x) ∧ W.cell? ⟨w.heap.size, 1, none⟩ = some (.int .i64 y)) := fun W hb => ⟨(hb.cell (p := ⟨w.heap.size, 0, none⟩) hsz).trans c0, (hb.cell (p := ⟨w.heap.size, 1, none⟩) hsz).trans c1⟩
  have H1 : Hid (∀ W, Below Wb.heap.size Wb W → Calls Try.prog 21 #[.slice a n cap] W fun e w' => e = .returned (.tuple #[.int .i64 (M.sumV l), .int .i64 (M.chk l)]) ∧ Below W.heap.size W w') := fun W hb => sum_any a n cap l W ((h.below bb (Nat.le_refl _)).below hb (Nat.le_refl _)) hm
  have H2 : Hid (∀ W, Below Wb.heap.size Wb W → Calls Try.prog 22 #[.slice a n cap] W fun e w' => e = .returned (.tuple #[.int .i64 (M.sumV l), .int .i64 (M.chk l)]) ∧ Below W.heap.size W w') := fun W hb => sumOf_any a n cap l W ((h.below bb (Nat.le_refl _)).below hb (Nat.le_refl _)) hm
  clear hWb h hm c0 c1
  obtain ⟨t, ht⟩ : ∃ t, t = M.ends level x y := ⟨_, rfl⟩
  have H3 : Hid (∀ W, Calls Try.prog 23 #[.agg #[.int .i64 x, .int .i64 y], .int .i64 level] W fun e w' => e = .returned (.bool t) ∧ Below W.heap.size W w') := fun W => by rw [ht]; exact ends_any x y level W
  have H4 : Hid (∀ W, Calls Try.prog 24 #[.agg #[.int .i64 x, .int .i64 y], .int .i64 level] W fun e w' => e = .returned (.bool t) ∧ Below W.heap.size W w') := fun W => by rw [ht]; exact endsOf_any x y level W
  clear ht
  generalize M.sumV l = s at *
  generalize M.chk l = z at *
  go_enter Try.func7, Try.ntmps7
  go_wp2_with fail
  rw [← HW.out]
  refine (H1.out _ (Below.refl _ _)).mono ?_
  rintro e w1 ⟨rfl, b1⟩
  go_wp2_with fail
  refine (H2.out _ b1).mono ?_
  rintro e w2 ⟨rfl, b2⟩
  have q2 := below2 b1 b2
  clear b1 b2
  go_wp2_with fail
  refine wp_region_later (W0 := Wb) (by kernel_rfl) (by kernel_rfl) q2 ?_
  go_big_quiet_want
  refine quiet_enter 19 #[] (.bool true) (fun W => by go_simp) (fun W hW => (cbegun_any W).mono fun e w' h => ⟨h.1, hW.out.trans (h.2.mono hW.out.size)⟩) ?_
  go_simp
  go_big_quiet_on
  go_big_quiet_want
  go_big_quiet_op
  go_big_quiet_on
  go_big_quiet_want
  refine quiet_val (.agg #[.int .i64 x, .int .i64 y]) (fun W hW => by have h0 := (HB.out W hW.out).1; have h1 := (HB.out W hW.out).2; go_simp) ?_
  go_simp
  go_big_quiet_on
  go_big_quiet_want
  go_big_quiet_op
  go_big_quiet_on
  go_big_quiet_want
  refine quiet_enter 23 #[.agg #[.int .i64 x, .int .i64 y], .int .i64 level] (.bool t) (fun W => by go_simp) (fun W hW => (H3.out W).mono fun e w' h => ⟨h.1, hW.out.trans (h.2.mono hW.out.size)⟩) ?_
  go_simp
  go_big_quiet_on
  go_big_quiet_want
  refine quiet_val (.agg #[.int .i64 x, .int .i64 y]) (fun W hW => by have h0 := (HB.out W hW.out).1; have h1 := (HB.out W hW.out).2; go_simp) ?_
  go_simp
  go_big_quiet_on
  go_big_quiet_want
  go_big_quiet_op
  go_big_quiet_on
  go_big_quiet_want
  refine quiet_enter 24 #[.agg #[.int .i64 x, .int .i64 y], .int .i64 level] (.bool t) (fun W => by go_simp) (fun W hW => (H4.out W).mono fun e w' h => ⟨h.1, hW.out.trans (h.2.mono hW.out.size)⟩) ?_
  go_simp
  go_big_quiet_on
  go_big_quiet_want
  refine quiet_val (.bool true) (fun W hW => by go_simp) ?_
  go_simp
  go_big_quiet_on
  go_big_quiet_want
  refine quiet_val (.bool true) (fun W hW => by go_simp) ?_
  go_simp
  go_big_quiet_on
  go_big_quiet_want
  go_big_quiet_op
  go_big_quiet_on
  go_big_quiet_want
  go_big_quiet_op
  go_big_quiet_on
  go_big_quiet_want
  go_big_quiet_op
  go_big_quiet_on
  go_big_quiet_want
  refine quiet_val (.bool true) (fun W hW => by go_simp) ?_
  go_simp
  go_big_quiet_on
  go_big_quiet_want
  refine quiet_val (.bool true) (fun W hW => by go_simp) ?_
  go_simp
  go_big_quiet_on
  go_big_quiet_want
  go_big_quiet_op
  go_big_quiet_on
  go_big_quiet_want
  go_big_quiet_op
  go_big_quiet_on
  go_big_quiet_want
  go_big_quiet_op
  go_big_quiet_on
  go_big_quiet_want
  refine quiet_val (.bool true) (fun W hW => by go_simp) ?_
  go_simp
  go_big_quiet_on
  go_big_quiet_want
  refine quiet_val (.bool true) (fun W hW => by go_simp) ?_
  go_simp
  go_big_quiet_on
  go_big_quiet_want
  go_big_quiet_op
  go_big_quiet_on
  refine wpQuiet_nil ?_
  intro w5 hL
  have q5 := hL.out
  go_wp2
  go_ret
  exact ⟨rfl, bb.trans (q5.mono (Nat.le_of_lt hsz))⟩

set_option maxRecDepth 100000 in
theorem chunkSums_lifted (os : Os) (started : os.Started) (H : Type) (enc : TypeId × Value → H) :
    ReturnsInHanded {} Try.checked os 7 .any (Rows.chunkSumsSpec.pre6 enc Try.prog Try.f7 Rows.chunkSumsRow.domain false) (Rows.chunkSumsSpec.post enc Try.prog Try.f7 false true false false) := by
  refine returnsInHanded_of_change (C := Try.checked) ownTry started (by kernel_rfl) Try.func7
    (ChangeSpec.witness6 (enc := enc) (C := Try.checked) false ⟨#[], #[.slice none 0 0, .agg #[.int .i64 0, .int .i64 0], .int .i64 0], []⟩ 8 (by kernel_rfl) (by kernel_rfl) (by kernel_rfl) (by kernel_rfl)) ?_
  intro W base args ds gs before hval0 hW hcnd _
  have hval : ∀ (j : Nat) t v, Try.f7.params[j]? = some t → args[j]? = some v → Value.okWide Try.prog W .any base t v := hval0
  have hW' := hW
  obtain ⟨p, q, hA0, hV, rfl, hfz, hnd⟩ := hW
  have hA : DataW.TrodAll enc Try.prog W 0 (fun _ => true) true Try.f7.params.toList args.toList ds p := hA0
  rw [Try.params7] at hA hval
  obtain ⟨v0, vs0, d0, ds0, p0, q0, hargs, rfl, rfl, h0, r0⟩ := trodAll_cons hA
  obtain ⟨v1, vs1, d1, ds1, p1, q1, rfl, rfl, rfl, h1, r1⟩ := trodAll_cons r0
  obtain ⟨v2, vs2, d2, ds2, p2, q2, rfl, rfl, rfl, h2, r2⟩ := trodAll_cons r1
  obtain ⟨rfl, rfl, rfl⟩ := trodAll_nil r2
  obtain rfl : args = #[v0, v1, v2] := by cases args; simp_all
  obtain ⟨rfl, rfl⟩ := trodVars_none hV
  obtain ⟨a0, len0, cap0, rfl⟩ := okWide_slice Try.underlying22 (hval 0 22 v0 rfl rfl)
  have k0 := h0
  have lt0 : ∀ x ∈ p0, x.block < W.heap.size := by obtain ⟨m, hm⟩ := k0; exact DataW.trod_lt m _ _ _ hm
  obtain ⟨l0, hrd0, hl0, hm0, hnil0⟩ : ∃ l, Rd W a0 len0 l ∧ len0 ≤ cap0 ∧ cap0 ≤ maxLen ∧ (a0 = none → len0 = 0 ∧ cap0 = 0) := by
    obtain ⟨fuel, hf⟩ := h0
    exact open_rows (by simpa [Value.cells] using hf)
  obtain ⟨c1, c1', y1, y1', m1, rfl, rfl, rfl, hy1, hy1'⟩ := Joins.open_agg2 Try.underlying39 (by kernel_rfl) (by kernel_rfl) (hval 1 39 v1 rfl rfl) h1
  obtain ⟨x1, e1, rfl, wx1⟩ := DataW.trod_int (k := .i64) Try.underlying3 hy1
  obtain ⟨x1', e1', rfl, wx1'⟩ := DataW.trod_int (k := .i64) Try.underlying3 hy1'
  simp at e1 e1'
  subst e1 e1'
  obtain ⟨a2, rfl, rfl, rfl, w2⟩ := open_int Try.underlying3 (hval 2 3 v2 rfl rfl) h2
  clear hA0 hval0
  refine (sums_walk a0 len0 cap0 l0 x1 x1' a2 W hrd0 (by unfold maxLen at hm0; omega)).mono fun e W' ⟨he, bel⟩ => ?_
  subst he
  exact ⟨_, rfl, _, _, _, [], _, [], hW', trodAll_mk1 (shut_bool Try.underlying4 _), (trodAll_cons_mk (Below.trod laidTry (by kernel_rfl) (of_decide_eq_true (by kernel_rfl)) k0 bel lt0) (trodAll_cons_mk (Joins.shut_agg2 (y0 := (.lit (.int .i64 x1), [])) (y1 := (.lit (.int .i64 x1'), [])) Try.underlying39 (by kernel_rfl) (by kernel_rfl) ⟨1, trod_int_mk wx1⟩ ⟨1, trod_int_mk wx1'⟩) (trodAll_cons_mk (shut_int Try.underlying3 w2) trodAll_mk0))), rfl, bel.frame _, fun h => by cases h⟩

theorem chunkSums_holds : Rows.ChunkSumsSaid :=
  OpenClaim.holds_of_wide 7 Try.f7 rfl rfl rfl rfl rfl rfl rfl ⟨rfl, rfl, rfl, rfl, rfl⟩ rfl rfl rfl rfl rfl (by kernel_rfl) Try.func7 (by kernel_rfl)
    (of_decide_eq_true (by kernel_rfl)) (by unfold Func.isWrapper; first | (rw [if_pos (by decide +kernel)]; kernel_rfl) | (rw [if_neg (by decide +kernel)]; exact ⟨rfl, rfl⟩))
    (fun os started H enc _ => chunkSums_lifted os started H enc)
#print axioms chunkSums_holds
end Go.Proofs.Ytcgpgflnihjpiaa
