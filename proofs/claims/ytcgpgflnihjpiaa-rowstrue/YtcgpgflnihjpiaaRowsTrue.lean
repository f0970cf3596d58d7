/- For every slice of rows and all four numbers, the law RowsTrue returns true and leaves its arguments as they were: what is put is found, all else is as it was, put back nothing has changed, and of two keys it does not matter which is put first. No condition. -/
import Derived.Test.YtcgpgflnihjpiaaBegun
import Derived.Test.YtcgpgflnihjpiaaPut1
import Derived.Test.YtcgpgflnihjpiaaOpen
namespace Go.Proofs.Ytcgpgflnihjpiaa
open Go.ChangeShapes Go.WideShapes Go.ChangeAt Go.RowKit

/-- A slice of rows, whole. -/
def Sl (w : World) (a : Option Addr) (n cap : Nat) (l : List (Int × Int)) : Prop := Rd w a n l ∧ n ≤ cap ∧ cap ≤ maxLen ∧ (a = none → n = 0 ∧ cap = 0)
theorem Sl.below {w w' : World} {a : Option Addr} {n cap : Nat} {l : List (Int × Int)} (h : Sl w a n cap l) (hb : Below w.heap.size w w') : Sl w' a n cap l := ⟨h.1.below hb (Nat.le_refl _), h.2⟩
theorem Sl.len {w : World} {a : Option Addr} {n cap : Nat} {l : List (Int × Int)} (h : Sl w a n cap l) : n ≤ 9223372036854775807 := by have h1 := h.2.1; have h2 := h.2.2.1; unfold maxLen at h2; omega

theorem put_sl {w : World} {a : Option Addr} {n cap : Nat} {l : List (Int × Int)} (h : Sl w a n cap l) (key val : Int) (L : List (Int × Int)) (c : Int) (hL : M.putV l key val = L) (hc : M.putE l key val = c) :
    Calls Try.prog 14 #[.slice a n cap, .int .i64 key, .int .i64 val] w fun e w' => ∃ a' n' cap', e = .returned (.tuple #[.slice a' n' cap', .int .i64 c]) ∧ Hid (Sl w' a' n' cap' L) ∧ Below w.heap.size w w' := by
  subst hL hc
  refine (put_any a n cap l key val w h.1 h.2.1 h.2.2.1 h.2.2.2).mono ?_
  rintro e w' ⟨a', n', cap', rfl, r1, r2, r3, r4, hb⟩
  exact ⟨a', n', cap', rfl, ⟨r1, r2, r3, r4⟩, hb⟩
theorem find_sl {w : World} {a : Option Addr} {n cap : Nat} {l : List (Int × Int)} (h : Sl w a n cap l) (key x : Int) (ha : M.asked l key = 0) (hx : M.find key l = x) :
    Calls Try.prog 9 #[.slice a n cap, .int .i64 key] w fun e w' => e = .returned (.tuple #[.int .i64 x, .int .i64 0]) ∧ Below w.heap.size w w' := by
  subst hx
  exact find_ok a n cap l key w h.1 ha
theorem same_sl {w : World} {a a2 : Option Addr} {n n2 cap cap2 : Nat} {l : List (Int × Int)} (h : Sl w a n cap l) (h2 : Sl w a2 n2 cap2 l) :
    Calls Try.prog 16 #[.slice a n cap, .slice a2 n2 cap2] w fun e w' => e = .returned (.bool true) ∧ Below w.heap.size w w' := by
  refine (same_any a a2 n n2 cap cap2 l l w h.1 h2.1 h.len).mono ?_
  rintro e w' ⟨rfl, hb⟩
  exact ⟨(ret_yes rfl).symm, hb⟩

set_option maxHeartbeats 4000000 in
theorem true_bad (a : Option Addr) (n cap : Nat) (l : List (Int × Int)) (x u y v : Int) (w : World) (h : Sl w a n cap l) (hbad : M.putE l x u ≠ 0 ∨ M.putE l y v ≠ 0) :
    Calls Try.prog 5 #[.slice a n cap, .int .i64 x, .int .i64 u, .int .i64 y, .int .i64 v] w fun e w' => e = .returned (.bool true) ∧ Below w.heap.size w w' := by
  obtain ⟨c, hc⟩ : ∃ c, M.putE l x u = c := ⟨_, rfl⟩
  obtain ⟨d, hd⟩ : ∃ d, M.putE l y v = d := ⟨_, rfl⟩
  rw [hc, hd] at hbad
  have HS : Hid (Sl w a n cap l) := h
  have HC : Hid (M.putE l x u = c) := hc
  have HD : Hid (M.putE l y v = d) := hd
  clear h hc hd
  by_cases hc0 : c = 0
  · have hd0 : (d != 0) = true := by rcases hbad with h | h <;> simp_all
    have hcb : (c != 0) = false := by simp [hc0]
    clear hbad hc0
    go_enter Try.func5, Try.ntmps5
    go_wp2_with fail
    refine (put_sl HS.out x u _ c rfl HC.out).mono ?_
    rintro e w1 ⟨a1, n1, c1, rfl, S1, b1⟩
    go_wp2_with fail
    refine (put_sl (HS.out.below b1) y v _ d rfl HD.out).mono ?_
    rintro e w2 ⟨a2, n2, c2, rfl, S2, b2⟩
    have q2 := below2 b1 b2
    go_wp2_with fail
    refine (begun_any _).mono ?_
    rintro e w3 ⟨rfl, b3⟩
    have q3 := below2 q2 b3
    go_wp2
    go_ret
    exact ⟨rfl, q3⟩
  · have hcb : (c != 0) = true := by simp [hc0]
    clear hbad hc0
    go_enter Try.func5, Try.ntmps5
    go_wp2_with fail
    refine (put_sl HS.out x u _ c rfl HC.out).mono ?_
    rintro e w1 ⟨a1, n1, c1, rfl, S1, b1⟩
    go_wp2_with fail
    refine (put_sl (HS.out.below b1) y v _ d rfl HD.out).mono ?_
    rintro e w2 ⟨a2, n2, c2, rfl, S2, b2⟩
    have q2 := below2 b1 b2
    go_wp2_with fail
    refine (begun_any _).mono ?_
    rintro e w3 ⟨rfl, b3⟩
    have q3 := below2 q2 b3
    go_wp2
    go_ret
    exact ⟨rfl, q3⟩

set_option maxHeartbeats 8000000 in
theorem true_ok (a : Option Addr) (n cap : Nat) (l : List (Int × Int)) (x u y v : Int) (w : World) (h : Sl w a n cap l) (h1 : M.putE l x u = 0) (h2 : M.putE l y v = 0) :
    Calls Try.prog 5 #[.slice a n cap, .int .i64 x, .int .i64 u, .int .i64 y, .int .i64 v] w fun e w' => e = .returned (.bool true) ∧ Below w.heap.size w w' := by
  obtain ⟨t1, t2, t3, t4, t5, t6, t7, t8, t9⟩ := M.two_puts h1 h2
  have e1 := M.putV_ok h1
  have e2 := M.putV_ok h2
  have e5 := M.putV_ok t5
  rw [t8] at e5
  obtain ⟨X, hX⟩ : ∃ X, M.put x u l = X := ⟨_, rfl⟩
  obtain ⟨Y, hY⟩ : ∃ Y, M.put y v l = Y := ⟨_, rfl⟩
  obtain ⟨p, hp⟩ : ∃ p, M.find x l = p := ⟨_, rfl⟩
  obtain ⟨q, hq⟩ : ∃ q, M.find y l = q := ⟨_, rfl⟩
  rw [hX] at e1 e5 t2 t4 t5 t6 t7 t9
  rw [hY] at e2 t9
  rw [hp] at e5 t5
  rw [hq] at t7
  have HS : Hid (Sl w a n cap l) := h
  have H1 : Hid (M.putV l x u = X ∧ M.putE l x u = 0) := ⟨e1, h1⟩
  have H2 : Hid (M.putV l y v = Y ∧ M.putE l y v = 0) := ⟨e2, h2⟩
  have H3 : Hid (M.asked l x = 0 ∧ M.find x l = p) := ⟨t1, hp⟩
  have H4 : Hid (M.asked X x = 0 ∧ M.find x X = u) := ⟨t2, t6⟩
  have H5 : Hid (M.asked l y = 0 ∧ M.find y l = q) := ⟨t3, hq⟩
  have H7 : Hid (M.putV X x p = l ∧ M.putE X x p = 0) := ⟨e5, t5⟩
  clear h h1 h2 e1 e2 e5 hX hY hp hq t1 t2 t3 t5 t6 t8
  by_cases hxy : x = y
  · have hxe : (x == y) = true := by simp [hxy]
    have hxn : (x != y) = false := by simp [hxy]
    obtain ⟨q', hq'⟩ : ∃ q', M.find y X = q' := ⟨_, rfl⟩
    have H6 : Hid (M.asked X y = 0 ∧ M.find y X = q') := ⟨t4, hq'⟩
    clear hxy t4 hq' t7 t9
    go_enter Try.func5, Try.ntmps5
    go_wp2_with fail
    refine (put_sl HS.out x u X 0 H1.out.1 H1.out.2).mono ?_
    rintro e w1 ⟨a1, n1, c1, rfl, S1, b1⟩
    go_wp2_with fail
    refine (put_sl (HS.out.below b1) y v Y 0 H2.out.1 H2.out.2).mono ?_
    rintro e w2 ⟨a2, n2, c2, rfl, S2, b2⟩
    have q2 := below2 b1 b2
    have s2 := b2
    clear b1 b2
    go_wp2_with fail
    refine (find_sl (HS.out.below q2) x p H3.out.1 H3.out.2).mono ?_
    rintro e w3 ⟨rfl, b3⟩
    have q3 := below2 q2 b3
    have s3 := below2 s2 b3
    have r3 := b3
    clear q2 s2 b3
    go_wp2_with fail
    refine (find_sl (S1.out.below s3) x u H4.out.1 H4.out.2).mono ?_
    rintro e w4 ⟨rfl, b4⟩
    have q4 := below2 q3 b4
    have s4 := below2 s3 b4
    have r4 := below2 r3 b4
    clear q3 s3 b4 r3
    go_wp2_with fail
    refine (find_sl (HS.out.below q4) y q H5.out.1 H5.out.2).mono ?_
    rintro e w5 ⟨rfl, b5⟩
    have q5 := below2 q4 b5
    have s5 := below2 s4 b5
    have r5 := below2 r4 b5
    clear q4 s4 b5 r4
    go_wp2_with fail
    refine (find_sl (S1.out.below s5) y q' H6.out.1 H6.out.2).mono ?_
    rintro e w6 ⟨rfl, b6⟩
    have q6 := below2 q5 b6
    have s6 := below2 s5 b6
    have r6 := below2 r5 b6
    clear q5 s5 b6 r5
    go_wp2_with fail
    refine (put_sl (S1.out.below s6) x p l 0 H7.out.1 H7.out.2).mono ?_
    rintro e w7 ⟨a7, n7, c7, rfl, S7, b7⟩
    have q7 := below2 q6 b7
    have s7 := below2 s6 b7
    have r7 := below2 r6 b7
    clear q6 s6 b7 r6
    go_wp2_with fail
    refine (same_sl S7.out (HS.out.below q7)).mono ?_
    rintro e w8 ⟨rfl, b8⟩
    have q8 := below2 q7 b8
    have s8 := below2 s7 b8
    have r8 := below2 r7 b8
    clear q7 s7 b8 r7
    go_wp2_with fail
    refine (put_sl (S1.out.below s8) y v _ _ rfl rfl).mono ?_
    rintro e w9 ⟨a9, n9, c9, rfl, S9, b9⟩
    have q9 := below2 q8 b9
    have r9 := below2 r8 b9
    clear q8 s8 b9 r8
    go_wp2_with fail
    refine (put_sl (S2.out.below r9) x u _ _ rfl rfl).mono ?_
    rintro e w10 ⟨a10, n10, c10, rfl, S10, b10⟩
    have q10 := below2 q9 b10
    clear q9 b10 r9
    go_wp2_with fail
    refine (begun_any _).mono ?_
    rintro e w11 ⟨rfl, b11⟩
    have q11 := below2 q10 b11
    go_wp2
    go_ret
    exact ⟨rfl, q11⟩
  · have hxe : (x == y) = false := by simp [hxy]
    have hxn : (x != y) = true := by simp [hxy]
    have t7' := t7 hxy
    obtain ⟨t9a, t9b⟩ := t9 hxy
    obtain ⟨m, hm⟩ : ∃ m, M.putE X y v = m := ⟨_, rfl⟩
    obtain ⟨Z, hZ⟩ : ∃ Z, M.putV X y v = Z := ⟨_, rfl⟩
    rw [hm] at t9a
    rw [hZ] at t9b
    have H6 : Hid (M.asked X y = 0 ∧ M.find y X = q) := ⟨t4, t7'⟩
    have H8 : Hid (M.putV X y v = Z ∧ M.putE X y v = m) := ⟨hZ, hm⟩
    have H9 : Hid (M.putV Y x u = Z ∧ M.putE Y x u = m) := ⟨t9b.symm, t9a.symm⟩
    clear hxy t4 t7 t7' t9 t9a t9b hm hZ
    go_enter Try.func5, Try.ntmps5
    go_wp2_with fail
    refine (put_sl HS.out x u X 0 H1.out.1 H1.out.2).mono ?_
    rintro e w1 ⟨a1, n1, c1, rfl, S1, b1⟩
    go_wp2_with fail
    refine (put_sl (HS.out.below b1) y v Y 0 H2.out.1 H2.out.2).mono ?_
    rintro e w2 ⟨a2, n2, c2, rfl, S2, b2⟩
    have q2 := below2 b1 b2
    have s2 := b2
    clear b1 b2
    go_wp2_with fail
    refine (find_sl (HS.out.below q2) x p H3.out.1 H3.out.2).mono ?_
    rintro e w3 ⟨rfl, b3⟩
    have q3 := below2 q2 b3
    have s3 := below2 s2 b3
    have r3 := b3
    clear q2 s2 b3
    go_wp2_with fail
    refine (find_sl (S1.out.below s3) x u H4.out.1 H4.out.2).mono ?_
    rintro e w4 ⟨rfl, b4⟩
    have q4 := below2 q3 b4
    have s4 := below2 s3 b4
    have r4 := below2 r3 b4
    clear q3 s3 b4 r3
    go_wp2_with fail
    refine (find_sl (HS.out.below q4) y q H5.out.1 H5.out.2).mono ?_
    rintro e w5 ⟨rfl, b5⟩
    have q5 := below2 q4 b5
    have s5 := below2 s4 b5
    have r5 := below2 r4 b5
    clear q4 s4 b5 r4
    go_wp2_with fail
    refine (find_sl (S1.out.below s5) y q H6.out.1 H6.out.2).mono ?_
    rintro e w6 ⟨rfl, b6⟩
    have q6 := below2 q5 b6
    have s6 := below2 s5 b6
    have r6 := below2 r5 b6
    clear q5 s5 b6 r5
    go_wp2_with fail
    refine (put_sl (S1.out.below s6) x p l 0 H7.out.1 H7.out.2).mono ?_
    rintro e w7 ⟨a7, n7, c7, rfl, S7, b7⟩
    have q7 := below2 q6 b7
    have s7 := below2 s6 b7
    have r7 := below2 r6 b7
    clear q6 s6 b7 r6
    go_wp2_with fail
    refine (same_sl S7.out (HS.out.below q7)).mono ?_
    rintro e w8 ⟨rfl, b8⟩
    have q8 := below2 q7 b8
    have s8 := below2 s7 b8
    have r8 := below2 r7 b8
    clear q7 s7 b8 r7
    go_wp2_with fail
    refine (put_sl (S1.out.below s8) y v Z m H8.out.1 H8.out.2).mono ?_
    rintro e w9 ⟨a9, n9, c9, rfl, S9, b9⟩
    have q9 := below2 q8 b9
    have r9 := below2 r8 b9
    clear q8 s8 b9 r8
    go_wp2_with fail
    refine (put_sl (S2.out.below r9) x u Z m H9.out.1 H9.out.2).mono ?_
    rintro e w10 ⟨a10, n10, c10, rfl, S10, b10⟩
    have q10 := below2 q9 b10
    have z10 := b10
    clear q9 b10 r9
    go_wp2_with fail
    refine (begun_any _).mono ?_
    rintro e w11 ⟨rfl, b11⟩
    have q11 := below2 q10 b11
    have z11 := below2 z10 b11
    go_wp2_with fail
    refine (same_sl (S9.out.below z11) (S10.out.below b11)).mono ?_
    rintro e w12 ⟨rfl, b12⟩
    have q12 := below2 q11 b12
    go_wp2
    go_ret
    exact ⟨rfl, q12⟩

theorem true_walk (a : Option Addr) (n cap : Nat) (l : List (Int × Int)) (x u y v : Int) (w : World) (h : Sl w a n cap l) :
    Calls Try.prog 5 #[.slice a n cap, .int .i64 x, .int .i64 u, .int .i64 y, .int .i64 v] w fun e w' => e = .returned (.bool true) ∧ Below w.heap.size w w' := by
  by_cases h1 : M.putE l x u = 0
  · by_cases h2 : M.putE l y v = 0
    · exact true_ok a n cap l x u y v w h h1 h2
    · exact true_bad a n cap l x u y v w h (Or.inr h2)
  · exact true_bad a n cap l x u y v w h (Or.inl h1)

set_option maxRecDepth 100000 in
theorem rowsTrue_lifted (os : Os) (started : os.Started) (H : Type) (enc : TypeId × Value → H) :
    ReturnsInHanded {} Try.checked os 5 .any (Rows.rowsTrueSpec.pre6 enc Try.prog Try.f5 Rows.rowsTrueRow.domain false) (Rows.rowsTrueSpec.post enc Try.prog Try.f5 false true false false) := by
  refine returnsInHanded_of_change (C := Try.checked) ownTry started (by kernel_rfl) Try.func5
    (ChangeSpec.witness6 (enc := enc) (C := Try.checked) false ⟨#[], #[.slice none 0 0, .int .i64 0, .int .i64 0, .int .i64 0, .int .i64 0], []⟩ 8 (by kernel_rfl) (by kernel_rfl) (by kernel_rfl) (by kernel_rfl)) ?_
  intro W base args ds gs before hval0 hW hcnd _
  have hval : ∀ (j : Nat) t v, Try.f5.params[j]? = some t → args[j]? = some v → Value.okWide Try.prog W .any base t v := hval0
  have hW' := hW
  obtain ⟨p, q, hA0, hV, rfl, hfz, hnd⟩ := hW
  have hA : DataW.TrodAll enc Try.prog W 0 (fun _ => true) true Try.f5.params.toList args.toList ds p := hA0
  rw [Try.params5] at hA hval
  obtain ⟨v0, vs0, d0, ds0, p0, q0, hargs, rfl, rfl, h0, r0⟩ := trodAll_cons hA
  obtain ⟨v1, vs1, d1, ds1, p1, q1, rfl, rfl, rfl, h1, r1⟩ := trodAll_cons r0
  obtain ⟨v2, vs2, d2, ds2, p2, q2, rfl, rfl, rfl, h2, r2⟩ := trodAll_cons r1
  obtain ⟨v3, vs3, d3, ds3, p3, q3, rfl, rfl, rfl, h3, r3⟩ := trodAll_cons r2
  obtain ⟨v4, vs4, d4, ds4, p4, q4, rfl, rfl, rfl, h4, r4⟩ := trodAll_cons r3
  obtain ⟨rfl, rfl, rfl⟩ := trodAll_nil r4
  obtain rfl : args = #[v0, v1, v2, v3, v4] := by cases args; simp_all
  obtain ⟨rfl, rfl⟩ := trodVars_none hV
  obtain ⟨a0, len0, cap0, rfl⟩ := okWide_slice Try.underlying22 (hval 0 22 v0 rfl rfl)
  have k0 := h0
  have lt0 : ∀ x ∈ p0, x.block < W.heap.size := by obtain ⟨m, hm⟩ := k0; exact DataW.trod_lt m _ _ _ hm
  obtain ⟨l0, hrd0, hl0, hm0, hnil0⟩ : ∃ l, Rd W a0 len0 l ∧ len0 ≤ cap0 ∧ cap0 ≤ maxLen ∧ (a0 = none → len0 = 0 ∧ cap0 = 0) := by
    obtain ⟨fuel, hf⟩ := h0
    exact open_rows (by simpa [Value.cells] using hf)
  obtain ⟨a1, rfl, rfl, rfl, w1⟩ := open_int Try.underlying3 (hval 1 3 v1 rfl rfl) h1
  obtain ⟨a2, rfl, rfl, rfl, w2⟩ := open_int Try.underlying3 (hval 2 3 v2 rfl rfl) h2
  obtain ⟨a3, rfl, rfl, rfl, w3⟩ := open_int Try.underlying3 (hval 3 3 v3 rfl rfl) h3
  obtain ⟨a4, rfl, rfl, rfl, w4⟩ := open_int Try.underlying3 (hval 4 3 v4 rfl rfl) h4
  clear hA0 hval0
  refine (true_walk a0 len0 cap0 l0 a1 a2 a3 a4 W ⟨hrd0, hl0, hm0, hnil0⟩).mono fun e W' ⟨he, bel⟩ => ?_
  subst he
  exact ⟨_, rfl, _, _, _, [], _, [], hW', trodAll_mk1 (shut_bool Try.underlying4 _), (trodAll_cons_mk (Below.trod laidTry (by kernel_rfl) (of_decide_eq_true (by kernel_rfl)) k0 bel lt0) (trodAll_cons_mk (shut_int Try.underlying3 w1) (trodAll_cons_mk (shut_int Try.underlying3 w2) (trodAll_cons_mk (shut_int Try.underlying3 w3) (trodAll_cons_mk (shut_int Try.underlying3 w4) trodAll_mk0))))), rfl, bel.frame _, fun h => by cases h⟩

theorem rowsTrue_holds : Rows.RowsTrueSaid :=
  OpenClaim.holds_of_wide 5 Try.f5 rfl rfl rfl rfl rfl rfl rfl ⟨rfl, rfl, rfl, rfl, rfl⟩ rfl rfl rfl rfl rfl (by kernel_rfl) Try.func5 (by kernel_rfl)
    (of_decide_eq_true (by kernel_rfl)) (by unfold Func.isWrapper; first | (rw [if_pos (by decide +kernel)]; kernel_rfl) | (rw [if_neg (by decide +kernel)]; exact ⟨rfl, rfl⟩))
    (fun os started H enc _ => rowsTrue_lifted os started H enc)
#print axioms rowsTrue_holds
end Go.Proofs.Ytcgpgflnihjpiaa
