/- For every two slices of rows and every number, the law DiffNone returns true and leaves its arguments as they were: nothing differs exactly between the same trees, no more differs than there are rows, and what differs is so, of what Of of the landed diff package tells. No condition. -/
import Derived.Test.YtcgpgflnihjpiadDfBegun
import Derived.Test.YtcgpgflnihjpiadDif5
import Derived.Test.YtcgpgflnihjpiadChoose
import Derived.Test.YtcgpgflnihjpiadOpen
namespace Go.Proofs.Ytcgpgflnihjpiad
open Go.ChangeShapes Go.WideShapes Go.ChangeAt Go.RowKit

theorem build_inj {l m : List (Int × Int)} (z1 : M.chk l = 0) (z2 : M.chk m = 0) : (M.build l = M.build m) ↔ l = m := by
  constructor
  · intro h
    have e := (build_like l z1).1
    rw [h, (build_like m z2).1] at e
    exact e.symm
  · rintro rfl; rfl
set_option maxHeartbeats 8000000 in
theorem diffNone_walk (a1 a2 : Option Addr) (n1 n2 c1 c2 : Nat) (l m : List (Int × Int)) (key : Int) (w : World) (h1 : Sl w a1 n1 c1 l) (h2 : Sl w a2 n2 c2 m) (hq0 : -9223372036854775808 ≤ key) (hq1 : key ≤ 9223372036854775807) :
    Calls Try.prog 4 #[.slice a1 n1 c1, .slice a2 n2 c2, .int .i64 key] w fun e w' => e = .returned (.bool true) ∧ Below w.heap.size w w' := by
  have begun : Hid (∀ W, Below w.heap.size w W → Calls Try.prog 10 #[] W fun e w' => e = .returned (.bool true) ∧ Below w.heap.size w w' ∧ Below W.heap.size W w') := fun W hW => (diffBegun_any W).mono fun e w' ⟨h, hb⟩ => ⟨h, below2 hW hb, hb⟩
  have HQ : Hid (-9223372036854775808 ≤ key ∧ key ≤ 9223372036854775807) := ⟨hq0, hq1⟩
  clear hq0 hq1
  by_cases z1 : M.chk l = 0
  · by_cases z2 : M.chk m = 0
    · have B1 : Hid (Calls Try.prog 9 #[.slice a1 n1 c1] w fun e w' => ∃ ta tn tc, e = .returned (.tuple #[.slice ta tn tc, .int .i64 0]) ∧ TvS w' ta tn tc (M.build l) ∧ Below w.heap.size w w') := built a1 n1 c1 l w h1 z1
      have S1 : Hid (Sl w a1 n1 c1 l) := h1
      have S2 : Hid (Sl w a2 n2 c2 m) := h2
      have Z1 : Hid (M.chk l = 0) := z1
      have Z2 : Hid (M.chk m = 0) := z2
      clear h1 h2 z1 z2
      go_enter Try.func4, Try.ntmps4
      go_wp2_with fail
      refine B1.out.mono ?_
      rintro e w1 ⟨ta, tn, tc, rfl, t, q1⟩
      have T1 : Hid (TvS w1 ta tn tc (M.build l)) := t
      have S21 : Hid (Sl w1 a2 n2 c2 m) := S2.out.below q1
      clear t B1
      go_wp2_with fail
      refine (built _ _ _ _ _ S21.out Z2.out).mono ?_
      rintro e w2 ⟨ua, un, uc, rfl, t, ba⟩
      have U2 : Hid (TvS w2 ua un uc (M.build m)) := t
      have T2 : Hid (TvS w2 ta tn tc (M.build l)) := T1.out.below ba
      have q2 := below2 q1 ba
      clear t ba T1 S21 q1
      go_wp2_with fail
      refine (of_built _ _ _ _ _ _ _ _ _ Z1.out Z2.out T2.out U2.out).mono ?_
      rintro e w3 ⟨da, dn, dc, rfl, r, _, _, ba⟩
      have D3 : Hid (Rc w3 da dn (M.dif l m)) := r
      have U3 : Hid (TvS w3 ua un uc (M.build m)) := U2.out.below ba
      have T3 : Hid (TvS w3 ta tn tc (M.build l)) := T2.out.below ba
      have q3 := below2 q2 ba
      have S13 : Hid (Sl w3 a1 n1 c1 l) := S1.out.below q3
      clear r ba T2 U2 q2
      have hn1 : n1 ≤ 40 := by rw [← S1.out.1.1]; exact ((M.chk_zero l).1 Z1.out).1
      have hn2 : n2 ≤ 40 := by rw [← S2.out.1.1]; exact ((M.chk_zero m).1 Z2.out).1
      have hdn : dn ≤ n1 + n2 := by rw [← D3.out.1, ← S1.out.1.1, ← S2.out.1.1]; exact M.dif_le Z1.out Z2.out
      by_cases hd0 : dn = 0
      · subst hd0
        have hd1 : decide (M.build l = M.build m) = true := by
          rw [decide_eq_true_eq, build_inj Z1.out Z2.out, ← M.dif_nil Z1.out Z2.out]
          exact List.eq_nil_of_length_eq_zero D3.out.1
        go_wp2_with fail
        refine (tsame_any _ _ _ _ _ _ _ _ _ T3.out.1 U3.out.1 T3.out.len).mono ?_
        rintro e w4 ⟨rfl, ba⟩
        have q4 := below2 q3 ba
        clear ba T3 U3 q3
        rw [hd1]
        go_wp2_with fail
        refine (begun.out _ q4).mono ?_
        rintro e w5 ⟨rfl, q5, _⟩
        go_wp2
        go_ret
        exact ⟨rfl, q5⟩
      · have hd1 : decide (M.build l = M.build m) = false := by
          rw [decide_eq_false_iff_not, build_inj Z1.out Z2.out, ← M.dif_nil Z1.out Z2.out]
          intro h
          have h3 := D3.out.1
          rw [h] at h3
          exact hd0 h3.symm
        have hdb : ((dn : Int) == 0) = false := by simp; omega
        have hdp : 0 < dn := by omega
        clear hd0
        go_wp2_with fail
        refine (tsame_any _ _ _ _ _ _ _ _ _ T3.out.1 U3.out.1 T3.out.len).mono ?_
        rintro e w4 ⟨rfl, ba⟩
        have q4 := below2 q3 ba
        have D4 : Hid (Rc w4 da dn (M.dif l m)) := D3.out.below ba (Nat.le_refl _)
        clear ba T3 U3 D3 q3
        rw [hd1]
        have hgt : decide ((n1 : Int) + (n2 : Int) < (dn : Int)) = false := by simp; omega
        go_wp2_with fail
        refine (choose_any key dn _ HQ.out.1 HQ.out.2 hdp (by omega)).mono ?_
        rintro e wx ⟨r, rfl, hr, hwx⟩
        subst hwx
        obtain ⟨b, off, rfl, hB, hc⟩ := D4.out.ofPos r hr
        obtain ⟨i, hi, hne, hat⟩ := M.dif_at l m r (by rw [D4.out.1]; exact hr)
        obtain ⟨p0, p1, p2⟩ := hc r hr
        rw [hat] at p0 p1 p2
        obtain ⟨x, hx⟩ : ∃ x, x = M.find (i : Int) l := ⟨_, rfl⟩
        obtain ⟨y, hy⟩ : ∃ y, y = M.find (i : Int) m := ⟨_, rfl⟩
        rw [← hx, ← hy] at hne p0 p1 p2
        have hneb : (x != y) = true := by simp [hne]
        have hri : (r : Int) < (dn : Int) := by omega
        obtain ⟨V, hV⟩ : ∃ V, V = wx.alloc (.cells #[.int .i64 (i : Int), .int .i64 x, .int .i64 y] 38) := ⟨_, rfl⟩
        have dV : Below wx.heap.size wx V := by rw [hV]; exact (Below.refl _ _).alloc (Nat.le_refl _) _
        have hVs : wx.heap.size < V.heap.size := by rw [hV]; simp
        have s0 : V.cell? ⟨wx.heap.size, 0, none⟩ = some (.int .i64 (i : Int)) := by rw [hV]; simp [go_sem]
        have s1 : V.cell? ⟨wx.heap.size, 1, none⟩ = some (.int .i64 x) := by rw [hV]; simp [go_sem]
        have s2 : V.cell? ⟨wx.heap.size, 2, none⟩ = some (.int .i64 y) := by rw [hV]; simp [go_sem]
        have qV := below2 q4 dV
        have G1 := find_has a1 n1 c1 l i V (S1.out.1.below qV (Nat.le_refl _)) S1.out.len Z1.out hi
        rw [← hx] at G1
        have GG1 : Hid (Calls Try.prog 18 #[.slice a1 n1 c1, .int .i64 (i : Int)] V fun e w' => e = .returned (.tuple #[.int .i64 x, .int .i64 0]) ∧ Below V.heap.size V w') := G1
        have HY : Hid (y = M.find (i : Int) m) := hy
        have HV : Hid (V = wx.alloc (.cells #[.int .i64 (i : Int), .int .i64 x, .int .i64 y] 38)) := hV
        clear G1 hx hy hV hc hat hne D4 q4 dV
        go_wp2_with fail
        rw [← HV.out]
        go_wp2_with fail
        refine GG1.out.mono ?_
        rintro e w5 ⟨rfl, ba⟩
        have q5 := below2 qV ba
        have u0 : w5.cell? ⟨wx.heap.size, 0, none⟩ = some (.int .i64 (i : Int)) := (ba.cell (p := ⟨wx.heap.size, 0, none⟩) hVs).trans s0
        have u1 : w5.cell? ⟨wx.heap.size, 1, none⟩ = some (.int .i64 x) := (ba.cell (p := ⟨wx.heap.size, 1, none⟩) hVs).trans s1
        have u2 : w5.cell? ⟨wx.heap.size, 2, none⟩ = some (.int .i64 y) := (ba.cell (p := ⟨wx.heap.size, 2, none⟩) hVs).trans s2
        have hs5 : wx.heap.size < w5.heap.size := Nat.lt_of_lt_of_le hVs ba.size
        have G2 := find_has a2 n2 c2 m i w5 (S2.out.1.below q5 (Nat.le_refl _)) S2.out.len Z2.out hi
        rw [← HY.out] at G2
        have GG2 : Hid (Calls Try.prog 18 #[.slice a2 n2 c2, .int .i64 (i : Int)] w5 fun e w' => e = .returned (.tuple #[.int .i64 y, .int .i64 0]) ∧ Below w5.heap.size w5 w') := G2
        clear G2 s0 s1 s2 ba qV GG1 HV HY hVs
        go_wp2_with fail
        refine GG2.out.mono ?_
        rintro e w6 ⟨rfl, ba⟩
        have q6 := below2 q5 ba
        have t1 : w6.cell? ⟨wx.heap.size, 1, none⟩ = some (.int .i64 x) := (ba.cell (p := ⟨wx.heap.size, 1, none⟩) hs5).trans u1
        have t2 : w6.cell? ⟨wx.heap.size, 2, none⟩ = some (.int .i64 y) := (ba.cell (p := ⟨wx.heap.size, 2, none⟩) hs5).trans u2
        have hs6 : wx.heap.size < w6.heap.size := Nat.lt_of_lt_of_le hs5 ba.size
        clear u0 u1 u2 ba q5 GG2 hs5
        go_wp2_with fail
        refine (begun.out _ q6).mono ?_
        rintro e w7 ⟨rfl, q7, ba⟩
        have u1 : w7.cell? ⟨wx.heap.size, 1, none⟩ = some (.int .i64 x) := (ba.cell (p := ⟨wx.heap.size, 1, none⟩) hs6).trans t1
        have u2 : w7.cell? ⟨wx.heap.size, 2, none⟩ = some (.int .i64 y) := (ba.cell (p := ⟨wx.heap.size, 2, none⟩) hs6).trans t2
        clear t1 t2 ba q6 hs6
        go_wp2
        go_ret
        exact ⟨rfl, q7⟩
    · have B1 : Hid (Calls Try.prog 9 #[.slice a1 n1 c1] w fun e w' => ∃ ta tn tc, e = .returned (.tuple #[.slice ta tn tc, .int .i64 0]) ∧ TvS w' ta tn tc (M.build l) ∧ Below w.heap.size w w') := built a1 n1 c1 l w h1 z1
      have S2 : Hid (Sl w a2 n2 c2 m) := h2
      obtain ⟨E, hE⟩ : ∃ E, E = M.chk m := ⟨_, rfl⟩
      have hEb : (E != 0) = true := by rw [hE]; simp [z2]
      have HE : Hid (E = M.chk m) := hE
      clear h1 h2 z1 z2 hE
      go_enter Try.func4, Try.ntmps4
      go_wp2_with fail
      refine B1.out.mono ?_
      rintro e w1 ⟨ta, tn, tc, rfl, t, q1⟩
      have S21 : Hid (Sl w1 a2 n2 c2 m) := S2.out.below q1
      clear t B1
      go_wp2_with fail
      refine (build_any _ _ _ _ _ S21.out).mono ?_
      rintro e w2 ⟨v, rfl, _, ba⟩
      rw [← HE.out]
      have q2 := below2 q1 ba
      clear ba q1 S21
      go_wp2_with fail
      refine (begun.out _ q2).mono ?_
      rintro e w3 ⟨rfl, q3, _⟩
      go_wp2
      go_ret
      exact ⟨rfl, q3⟩
  · have S2 : Hid (Sl w a2 n2 c2 m) := h2
    have S1 : Hid (Sl w a1 n1 c1 l) := h1
    obtain ⟨E, hE⟩ : ∃ E, E = M.chk l := ⟨_, rfl⟩
    have hEb : (E != 0) = true := by rw [hE]; simp [z1]
    have HE : Hid (E = M.chk l) := hE
    clear h1 h2 z1 hE
    go_enter Try.func4, Try.ntmps4
    go_wp2_with fail
    refine (build_any _ _ _ _ _ S1.out).mono ?_
    rintro e w1 ⟨v, rfl, _, q1⟩
    rw [← HE.out]
    have S21 : Hid (Sl w1 a2 n2 c2 m) := S2.out.below q1
    go_wp2_with fail
    refine (build_any _ _ _ _ _ S21.out).mono ?_
    rintro e w2 ⟨v2, rfl, _, ba⟩
    have q2 := below2 q1 ba
    clear ba q1 S21
    go_wp2_with fail
    refine (begun.out _ q2).mono ?_
    rintro e w3 ⟨rfl, q3, _⟩
    go_wp2
    go_ret
    exact ⟨rfl, q3⟩

set_option maxRecDepth 100000 in
theorem diffNone_lifted (os : Os) (started : os.Started) (H : Type) (enc : TypeId × Value → H) :
    ReturnsInHanded {} Try.checked os 4 .any (Rows.diffNoneSpec.pre6 enc Try.prog Try.f4 Rows.diffNoneRow.domain false) (Rows.diffNoneSpec.post enc Try.prog Try.f4 false true false false) := by
  refine returnsInHanded_of_change (C := Try.checked) ownTry started (by kernel_rfl) Try.func4
    (ChangeSpec.witness6 (enc := enc) (C := Try.checked) false ⟨#[], #[.slice none 0 0, .slice none 0 0, .int .i64 0], []⟩ 8 (by kernel_rfl) (by kernel_rfl) (by kernel_rfl) (by kernel_rfl)) ?_
  intro W base args ds gs before hval0 hW hcnd _
  have hval : ∀ (j : Nat) t v, Try.f4.params[j]? = some t → args[j]? = some v → Value.okWide Try.prog W .any base t v := hval0
  have hW' := hW
  obtain ⟨p, q, hA0, hV, rfl, hfz, hnd⟩ := hW
  have hA : DataW.TrodAll enc Try.prog W 0 (fun _ => true) true Try.f4.params.toList args.toList ds p := hA0
  rw [Try.params4] at hA hval
  obtain ⟨v0, vs0, d0, ds0, p0, q0, hargs, rfl, rfl, h0, r0⟩ := trodAll_cons hA
  obtain ⟨v1, vs1, d1, ds1, p1, q1, rfl, rfl, rfl, h1, r1⟩ := trodAll_cons r0
  obtain ⟨v2, vs2, d2, ds2, p2, q2, rfl, rfl, rfl, h2, r2⟩ := trodAll_cons r1
  obtain ⟨rfl, rfl, rfl⟩ := trodAll_nil r2
  obtain rfl : args = #[v0, v1, v2] := by cases args; simp_all
  obtain ⟨rfl, rfl⟩ := trodVars_none hV
  obtain ⟨a0, len0, cap0, rfl⟩ := okWide_slice Try.underlying22 (hval 0 22 v0 rfl rfl)
  have k0 := h0
  have lt0 : ∀ x ∈ p0, x.block < W.heap.size := by obtain ⟨m, hm⟩ := k0; exact DataW.trod_lt m _ _ _ hm
  obtain ⟨l0, hrd0, hl0, hm0, hnil0⟩ : ∃ l, Rd W a0 len0 l ∧ len0 ≤ cap0 ∧ cap0 ≤ maxLen ∧ (a0 = none → len0 = 0 ∧ cap0 = 0) := by
    obtain ⟨fuel, hf⟩ := h0
    exact open_rows (by simpa [Value.cells] using hf)
  obtain ⟨a1, len1, cap1, rfl⟩ := okWide_slice Try.underlying22 (hval 1 22 v1 rfl rfl)
  have k1 := h1
  have lt1 : ∀ x ∈ p1, x.block < W.heap.size := by obtain ⟨m, hm⟩ := k1; exact DataW.trod_lt m _ _ _ hm
  obtain ⟨l1, hrd1, hl1, hm1, hnil1⟩ : ∃ l, Rd W a1 len1 l ∧ len1 ≤ cap1 ∧ cap1 ≤ maxLen ∧ (a1 = none → len1 = 0 ∧ cap1 = 0) := by
    obtain ⟨fuel, hf⟩ := h1
    exact open_rows (by simpa [Value.cells] using hf)
  obtain ⟨a2, rfl, rfl, rfl, w2⟩ := open_int Try.underlying3 (hval 2 3 v2 rfl rfl) h2
  clear hA0 hval0
  refine (diffNone_walk a0 a1 len0 len1 cap0 cap1 l0 l1 a2 W ⟨hrd0, hl0, hm0, hnil0⟩ ⟨hrd1, hl1, hm1, hnil1⟩ (bounds_i64 w2).1 (bounds_i64 w2).2).mono fun e W' ⟨he, bel⟩ => ?_
  subst he
  exact ⟨_, rfl, _, _, _, [], _, [], hW', trodAll_mk1 (shut_bool Try.underlying4 _), (trodAll_cons_mk (Below.trod laidTry (by kernel_rfl) (of_decide_eq_true (by kernel_rfl)) k0 bel lt0) (trodAll_cons_mk (Below.trod laidTry (by kernel_rfl) (of_decide_eq_true (by kernel_rfl)) k1 bel lt1) (trodAll_cons_mk (shut_int Try.underlying3 w2) trodAll_mk0))), rfl, bel.frame _, fun h => by cases h⟩

theorem diffNone_holds : Rows.DiffNoneSaid :=
  OpenClaim.holds_of_wide 4 Try.f4 rfl rfl rfl rfl rfl rfl rfl ⟨rfl, rfl, rfl, rfl, rfl⟩ rfl rfl rfl rfl rfl (by kernel_rfl) Try.func4 (by kernel_rfl)
    (of_decide_eq_true (by kernel_rfl)) (by unfold Func.isWrapper; first | (rw [if_pos (by decide +kernel)]; kernel_rfl) | (rw [if_neg (by decide +kernel)]; exact ⟨rfl, rfl⟩))
    (fun os started H enc _ => diffNone_lifted os started H enc)
#print axioms diffNone_holds
end Go.Proofs.Ytcgpgflnihjpiad
