/- For every slice of rows, every key and every value, the law RowsPuts returns true and leaves its arguments as they were: Put of the landed rows package answers what the reference answers, errors too. No condition. -/
import Derived.Test.YtcgpgflnihjpiaaPutOf
import Derived.Test.YtcgpgflnihjpiaaBegun
import Derived.Test.YtcgpgflnihjpiaaOpenRow
namespace Go.Proofs.Ytcgpgflnihjpiaa
open Go.ChangeShapes Go.WideShapes Go.ChangeAt Go.RowKit

set_option maxHeartbeats 4000000 in
theorem puts_walk (a : Option Addr) (n cap : Nat) (l : List (Int × Int)) (key val : Int) (w : World) (h : Rd w a n l) (hcap : n ≤ cap) (hcm : cap ≤ maxLen) (hnil : a = none → n = 0 ∧ cap = 0) :
    Calls Try.prog 4 #[.slice a n cap, .int .i64 key, .int .i64 val] w fun e w' => e = .returned (.bool true) ∧ Below w.heap.size w w' := by
  have hm : n ≤ 9223372036854775807 := by unfold maxLen at hcm; omega
  have H1 : Hid (∀ W, Below w.heap.size w W → Calls Try.prog 14 #[.slice a n cap, .int .i64 key, .int .i64 val] W fun e w' => Hands W w' (M.putV l key val) (M.putE l key val) e) := fun W hb => put_any a n cap l key val W (h.below hb (Nat.le_refl _)) hcap hcm hnil
  have H2 : Hid (∀ W, Below w.heap.size w W → Calls Try.prog 15 #[.slice a n cap, .int .i64 key, .int .i64 val] W fun e w' => Hands W w' (M.putV l key val) (M.putE l key val) e) := fun W hb => putOf_any a n cap l key val W (h.below hb (Nat.le_refl _)) hm
  clear h hcap hcm hnil hm
  generalize M.putV l key val = L at *
  generalize M.putE l key val = c at *
  go_enter Try.func4, Try.ntmps4
  go_wp2_with fail
  refine (H1.out _ (Below.refl _ _)).mono ?_
  rintro e w1 ⟨a1, n1, c1, rfl, v1, r1, s1, _, b1⟩
  have V1 : Hid (Rd w1 a1 n1 L ∧ n1 ≤ 9223372036854775807) := ⟨v1, by unfold maxLen at s1; omega⟩
  clear v1 r1 s1
  go_wp2_with fail
  refine (H2.out _ b1).mono ?_
  rintro e w2 ⟨a2, n2, c2, rfl, v2, _, _, _, b2⟩
  have V2 : Hid (Rd w2 a2 n2 L) := v2
  have q2 := below2 b1 b2
  have p2 := b2
  clear b1 b2 v2
  go_wp2_with fail
  refine (begun_any _).mono ?_
  rintro e w3 ⟨rfl, b3⟩
  have q3 := below2 q2 b3
  have p3 := below2 p2 b3
  go_wp2_with fail
  refine (same_any a1 a2 n1 n2 c1 c2 L L w3 (V1.out.1.below p3 (Nat.le_refl _)) (V2.out.below b3 (Nat.le_refl _)) V1.out.2).mono ?_
  rintro e w4 ⟨rfl, b4⟩
  have q4 := below2 q3 b4
  clear b3 b4 p2 p3 q2 q3
  have ht : decide (L = L) = true := by simp
  go_wp2
  go_ret
  exact ⟨rfl, q4⟩

set_option maxRecDepth 100000 in
theorem rowsPuts_lifted (os : Os) (started : os.Started) (H : Type) (enc : TypeId × Value → H) :
    ReturnsInHanded {} Try.checked os 4 .any (Rows.rowsPutsSpec.pre6 enc Try.prog Try.f4 Rows.rowsPutsRow.domain false) (Rows.rowsPutsSpec.post enc Try.prog Try.f4 false true false false) := by
  refine returnsInHanded_of_change (C := Try.checked) ownTry started (by kernel_rfl) Try.func4
    (ChangeSpec.witness6 (enc := enc) (C := Try.checked) false ⟨#[], #[.slice none 0 0, .int .i64 0, .int .i64 0], []⟩ 8 (by kernel_rfl) (by kernel_rfl) (by kernel_rfl) (by kernel_rfl)) ?_
  intro W base args ds gs before hval0 hW hcnd _
  have hval : ∀ (j : Nat) t v, Try.f4.params[j]? = some t → args[j]? = some v → Value.okWide Try.prog W .any base t v := hval0
  have hW' := hW
  obtain ⟨p, q, hA0, hV, rfl, hfz, hnd⟩ := hW
  have hA : DataW.TrodAll enc Try.prog W 0 (fun _ => true) true Try.f4.params.toList args.toList ds p := hA0
  rw [Try.params4] at hA hval
  obtain ⟨v0, vs0, d0, ds0, p0, q0, hargs, rfl, rfl, h0, r0⟩ := trodAll_cons hA
  obtain ⟨v1, vs1, d1, ds1, p1, q1, rfl, rfl, rfl, h1, r1⟩ := trodAll_cons r0
  obtain ⟨v2, vs2, d2, ds2, p2, q2, rfl, rfl, rfl, h2, r2⟩ := trodAll_cons r1
  obtain ⟨rfl, rfl, rfl⟩ := trodAll_nil r2
  obtain rfl : args = #[v0, v1, v2] := by cases args; simp_all
  obtain ⟨rfl, rfl⟩ := trodVars_none hV
  obtain ⟨a0, len0, cap0, rfl⟩ := okWide_slice Try.underlying22 (hval 0 22 v0 rfl rfl)
  have k0 := h0
  have lt0 : ∀ x ∈ p0, x.block < W.heap.size := by obtain ⟨m, hm⟩ := k0; exact DataW.trod_lt m _ _ _ hm
  obtain ⟨l0, hrd0, hl0, hm0, hnil0⟩ : ∃ l, Rd W a0 len0 l ∧ len0 ≤ cap0 ∧ cap0 ≤ maxLen ∧ (a0 = none → len0 = 0 ∧ cap0 = 0) := by
    obtain ⟨fuel, hf⟩ := h0
    exact open_rows (by simpa [Value.cells] using hf)
  obtain ⟨a1, rfl, rfl, rfl, w1⟩ := open_int Try.underlying3 (hval 1 3 v1 rfl rfl) h1
  obtain ⟨a2, rfl, rfl, rfl, w2⟩ := open_int Try.underlying3 (hval 2 3 v2 rfl rfl) h2
  clear hA0 hval0
  refine (puts_walk a0 len0 cap0 l0 a1 a2 W hrd0 hl0 hm0 hnil0).mono fun e W' ⟨he, bel⟩ => ?_
  subst he
  exact ⟨_, rfl, _, _, _, [], _, [], hW', trodAll_mk1 (shut_bool Try.underlying4 _), (trodAll_cons_mk (Below.trod laidTry (by kernel_rfl) (of_decide_eq_true (by kernel_rfl)) k0 bel lt0) (trodAll_cons_mk (shut_int Try.underlying3 w1) (trodAll_cons_mk (shut_int Try.underlying3 w2) trodAll_mk0))), rfl, bel.frame _, fun h => by cases h⟩

theorem rowsPuts_holds : Rows.RowsPutsSaid :=
  OpenClaim.holds_of_wide 4 Try.f4 rfl rfl rfl rfl rfl rfl rfl ⟨rfl, rfl, rfl, rfl, rfl⟩ rfl rfl rfl rfl rfl (by kernel_rfl) Try.func4 (by kernel_rfl)
    (of_decide_eq_true (by kernel_rfl)) (by unfold Func.isWrapper; first | (rw [if_pos (by decide +kernel)]; kernel_rfl) | (rw [if_neg (by decide +kernel)]; exact ⟨rfl, rfl⟩))
    (fun os started H enc _ => rowsPuts_lifted os started H enc)
#print axioms rowsPuts_holds
end Go.Proofs.Ytcgpgflnihjpiaa
