/- For all commits and every number, the law DagTells returns true and leaves its arguments as they were: Check and Above of the landed dag package answer what the reference answers. No condition. -/
import Derived.Test.YtcgpgflnihjpiadDBegun
import Derived.Test.YtcgpgflnihjpiadDagRe
import Derived.Test.YtcgpgflnihjpiadDagR2
import Derived.Test.YtcgpgflnihjpiadOpenC
namespace Go.Proofs.Ytcgpgflnihjpiad
open Go.ChangeShapes Go.WideShapes Go.ChangeAt Go.RowKit

set_option maxHeartbeats 4000000 in
theorem dagTells_walk (a : Option Addr) (n cap : Nat) (L : List M.Com) (x : Int) (w : World) (h : Cm w a n L) (hm : n ≤ 9223372036854775807) :
    Calls Try.prog 8 #[.slice a n cap, .int .i64 x] w fun e w' => e = .returned (.bool true) ∧ Below w.heap.size w w' := by
  have HCm : Hid (Cm w a n L) := h
  have hl := h.1
  by_cases hz : M.dchk L = 0
  · have HB := dabove_good a n cap L x w h hz
    have HBB : Hid (Calls Try.prog 23 #[.slice a n cap, .int .i64 x] w fun e w' => AllPost L [x] n w e w') := HB
    have HZ : Hid (M.dchk L = 0) := hz
    have HL : Hid (L.length = n) := hl
    have hn14 : n ≤ 14 := by rw [← hl]; exact (M.dchk_zero hz).1
    clear HB h hz hl
    go_enter Try.func8, Try.ntmps8
    go_wp2_with fail
    refine HBB.out.mono ?_
    rintro e w1 ⟨hb1, hor⟩
    have hE1 := cone_any a n cap L x w1 (HCm.out.below hb1 (Nat.le_refl _)) hm
    rcases hor with ⟨hr, rfl⟩ | ⟨hr, g, hg, rfl, hbo⟩
    · have hx : x < 0 ∨ (n : Int) ≤ x := by obtain ⟨z, hz, hr⟩ := hr; simp at hz; subst hz; exact hr
      have e : M.dask L x = 5 := by unfold M.dask; rw [if_neg (by rw [HZ.out]; simp), HL.out, if_pos hx]
      rw [e] at hE1
      have HE1 : Hid (Calls Try.prog 24 #[.slice a n cap, .int .i64 x] w1 fun e w' => e = .returned (.int .i64 5) ∧ Below w1.heap.size w1 w') := hE1
      clear hE1 e hx hr HBB
      go_wp2_with fail
      refine HE1.out.mono ?_
      rintro e w2 ⟨rfl, hb2⟩
      have c2 := dbelow2 hb1 hb2
      clear hb1 hb2 HE1
      go_wp2_with fail
      refine (dbegun_any w2).mono ?_
      rintro e w3 ⟨rfl, hb3⟩
      have c3 := dbelow2 c2 hb3
      have hC1 := dcheck_any a n cap L w3 (HCm.out.below c3 (Nat.le_refl _)) hm
      rw [HZ.out] at hC1
      have HC1 : Hid (Calls Try.prog 27 #[.slice a n cap] w3 fun e w' => e = .returned (.int .i64 0) ∧ Below w3.heap.size w3 w') := hC1
      clear c2 hb3 hC1
      go_wp2_with fail
      refine HC1.out.mono ?_
      rintro e w4 ⟨rfl, hb4⟩
      have c4 := dbelow2 c3 hb4
      have hC2 := cerror_any a n cap L w4 (HCm.out.below c4 (Nat.le_refl _)) hm
      rw [HZ.out] at hC2
      have HC2 : Hid (Calls Try.prog 28 #[.slice a n cap] w4 fun e w' => e = .returned (.int .i64 0) ∧ Below w4.heap.size w4 w') := hC2
      clear c3 hb4 hC2
      go_wp2_with fail
      refine HC2.out.mono ?_
      rintro e w5 ⟨rfl, hb5⟩
      have c5 := dbelow2 c4 hb5
      clear c4 hb5
      go_wp2_with fail
      refine (bsame_none none none 0 0 w5).mono ?_
      rintro e w6 ⟨rfl, hw6⟩
      subst hw6
      go_wp2
      go_ret
      exact ⟨rfl, c5⟩
    · have hx := hr x (by simp)
      have e : M.dask L x = 0 := by unfold M.dask; rw [if_neg (by rw [HZ.out]; simp), HL.out, if_neg (by omega)]
      obtain ⟨xn, rfl⟩ : ∃ xn : Nat, x = (xn : Int) := ⟨x.toNat, by omega⟩
      rw [M.range_above L n xn HL.out _ (fun i _ => M.all_one L xn i)] at hbo
      have hxn : xn < n := by omega
      rw [e] at hE1
      have HE1 : Hid (Calls Try.prog 24 #[.slice a n cap, .int .i64 xn] w1 fun e w' => e = .returned (.int .i64 0) ∧ Below w1.heap.size w1 w') := hE1
      have HB1 : Hid (Bo w1 g (M.above L xn)) := hbo
      clear hE1 e hx hr HBB hbo
      go_wp2_with fail
      refine HE1.out.mono ?_
      rintro e w2 ⟨rfl, hb2⟩
      have c2 := dbelow2 hb1 hb2
      have HB2 : Hid (Bo w2 g (M.above L xn)) := HB1.out.below hb2 HB1.out.lt
      have hA := aboveOf_any a n cap L xn w2 (HCm.out.below c2 (Nat.le_refl _)) HZ.out hxn
      have HA : Hid (Calls Try.prog 25 #[.slice a n cap, .int .i64 xn] w2 fun e w' => e = .returned (.slice (some ⟨w2.heap.size, 0, none⟩) n n) ∧ Bo w' w2.heap.size (M.above L xn) ∧ Below w2.heap.size w2 w') := hA
      clear hb1 hb2 HE1 HB1 hA
      go_wp2_with fail
      refine HA.out.mono ?_
      rintro e w7 ⟨rfl, hbo7, hb7⟩
      have c7 := dbelow2 c2 hb7
      have HB7 : Hid (Bo w7 g (M.above L xn)) := HB2.out.below hb7 HB2.out.lt
      have HV7 : Hid (Bo w7 w2.heap.size (M.above L xn)) := hbo7
      clear c2 hb7 hbo7 HB2 HA
      go_wp2_with fail
      refine (dbegun_any w7).mono ?_
      rintro e w3 ⟨rfl, hb3⟩
      have c3 := dbelow2 c7 hb3
      have HB3 : Hid (Bo w3 g (M.above L xn)) := HB7.out.below hb3 HB7.out.lt
      have HV3 : Hid (Bo w3 w2.heap.size (M.above L xn)) := HV7.out.below hb3 HV7.out.lt
      have hC1 := dcheck_any a n cap L w3 (HCm.out.below c3 (Nat.le_refl _)) hm
      rw [HZ.out] at hC1
      have HC1 : Hid (Calls Try.prog 27 #[.slice a n cap] w3 fun e w' => e = .returned (.int .i64 0) ∧ Below w3.heap.size w3 w') := hC1
      clear c7 hb3 hC1 HB7 HV7
      go_wp2_with fail
      refine HC1.out.mono ?_
      rintro e w4 ⟨rfl, hb4⟩
      have c4 := dbelow2 c3 hb4
      have HB4 : Hid (Bo w4 g (M.above L xn)) := HB3.out.below hb4 HB3.out.lt
      have HV4 : Hid (Bo w4 w2.heap.size (M.above L xn)) := HV3.out.below hb4 HV3.out.lt
      have hC2 := cerror_any a n cap L w4 (HCm.out.below c4 (Nat.le_refl _)) hm
      rw [HZ.out] at hC2
      have HC2 : Hid (Calls Try.prog 28 #[.slice a n cap] w4 fun e w' => e = .returned (.int .i64 0) ∧ Below w4.heap.size w4 w') := hC2
      clear c3 hb4 hC2 HB3 HV3
      go_wp2_with fail
      refine HC2.out.mono ?_
      rintro e w5 ⟨rfl, hb5⟩
      have c5 := dbelow2 c4 hb5
      have HB5 : Hid (Bo w5 g (M.above L xn)) := HB4.out.below hb5 HB4.out.lt
      have HV5 : Hid (Bo w5 w2.heap.size (M.above L xn)) := HV4.out.below hb5 HV4.out.lt
      have hal : (M.above L xn).length = n := by rw [M.above_len]; exact HL.out
      have hS := bsame_any (some ⟨g, 0, none⟩) (some ⟨w2.heap.size, 0, none⟩) n n n (M.above L xn) w5 (HB5.out.rb hal) (HV5.out.rb hal) (by omega)
      have HS : Hid (Calls Try.prog 29 #[.slice (some ⟨g, 0, none⟩) n n, .slice (some ⟨w2.heap.size, 0, none⟩) n n] w5 fun e w' => e = .returned (.bool true) ∧ Below w5.heap.size w5 w') := hS
      clear c4 hb5 HB4 HV4 hal hS
      go_wp2_with fail
      refine HS.out.mono ?_
      rintro e w6 ⟨rfl, hb6⟩
      have c6 := dbelow2 c5 hb6
      go_wp2
      go_ret
      exact ⟨rfl, c6⟩
  · have HB := dabove_bad a n cap L x w h hm hz
    have hE0 : M.dask L x = M.dchk L := by unfold M.dask; rw [if_pos hz]
    obtain ⟨c, hc⟩ : ∃ c, c = M.dchk L := ⟨_, rfl⟩
    have HDC : Hid (M.dchk L = c) := hc.symm
    rw [← hc] at HB hz hE0
    have HBB : Hid (Calls Try.prog 23 #[.slice a n cap, .int .i64 x] w fun e w' => e = .returned (.tuple #[.slice none 0 0, .int .i64 c]) ∧ Below w.heap.size w w') := HB
    have HE0 : Hid (M.dask L x = c) := hE0
    have hne : (c == 0) = false := by simp [hz]
    clear HB h hz hc hE0 hl
    go_enter Try.func8, Try.ntmps8
    go_wp2_with fail
    refine HBB.out.mono ?_
    rintro e w1 ⟨rfl, hb1⟩
    have hE1 := cone_any a n cap L x w1 (HCm.out.below hb1 (Nat.le_refl _)) hm
    rw [HE0.out] at hE1
    have HE1 : Hid (Calls Try.prog 24 #[.slice a n cap, .int .i64 x] w1 fun e w' => e = .returned (.int .i64 c) ∧ Below w1.heap.size w1 w') := hE1
    clear hE1
    go_wp2_with fail
    refine HE1.out.mono ?_
    rintro e w2 ⟨rfl, hb2⟩
    have c2 := dbelow2 hb1 hb2
    clear hb1 hb2 HE1
    go_wp2_with fail
    refine (dbegun_any w2).mono ?_
    rintro e w3 ⟨rfl, hb3⟩
    have c3 := dbelow2 c2 hb3
    have hC1 := dcheck_any a n cap L w3 (HCm.out.below c3 (Nat.le_refl _)) hm
    rw [HDC.out] at hC1
    have HC1 : Hid (Calls Try.prog 27 #[.slice a n cap] w3 fun e w' => e = .returned (.int .i64 c) ∧ Below w3.heap.size w3 w') := hC1
    clear c2 hb3 hC1
    go_wp2_with fail
    refine HC1.out.mono ?_
    rintro e w4 ⟨rfl, hb4⟩
    have c4 := dbelow2 c3 hb4
    have hC2 := cerror_any a n cap L w4 (HCm.out.below c4 (Nat.le_refl _)) hm
    rw [HDC.out] at hC2
    have HC2 : Hid (Calls Try.prog 28 #[.slice a n cap] w4 fun e w' => e = .returned (.int .i64 c) ∧ Below w4.heap.size w4 w') := hC2
    clear c3 hb4 hC2
    go_wp2_with fail
    refine HC2.out.mono ?_
    rintro e w5 ⟨rfl, hb5⟩
    have c5 := dbelow2 c4 hb5
    clear c4 hb5
    go_wp2_with fail
    refine (bsame_none none none 0 0 w5).mono ?_
    rintro e w6 ⟨rfl, hw6⟩
    subst hw6
    go_wp2
    go_ret
    exact ⟨rfl, c5⟩

set_option maxRecDepth 100000 in
theorem dagTells_lifted (os : Os) (started : os.Started) (H : Type) (enc : TypeId × Value → H) :
    ReturnsInHanded {} Try.checked os 8 .any (Rows.dagTellsSpec.pre6 enc Try.prog Try.f8 Rows.dagTellsRow.domain false) (Rows.dagTellsSpec.post enc Try.prog Try.f8 false true false false) := by
  refine returnsInHanded_of_change (C := Try.checked) ownTry started (by kernel_rfl) Try.func8
    (ChangeSpec.witness6 (enc := enc) (C := Try.checked) false ⟨#[], #[.slice none 0 0, .int .i64 0], []⟩ 8 (by kernel_rfl) (by kernel_rfl) (by kernel_rfl) (by kernel_rfl)) ?_
  intro W base args ds gs before hval0 hW hcnd _
  have hval : ∀ (j : Nat) t v, Try.f8.params[j]? = some t → args[j]? = some v → Value.okWide Try.prog W .any base t v := hval0
  have hW' := hW
  obtain ⟨p, q, hA0, hV, rfl, hfz, hnd⟩ := hW
  have hA : DataW.TrodAll enc Try.prog W 0 (fun _ => true) true Try.f8.params.toList args.toList ds p := hA0
  rw [Try.params8] at hA hval
  obtain ⟨v0, vs0, d0, ds0, p0, q0, hargs, rfl, rfl, h0, r0⟩ := trodAll_cons hA
  obtain ⟨v1, vs1, d1, ds1, p1, q1, rfl, rfl, rfl, h1, r1⟩ := trodAll_cons r0
  obtain ⟨rfl, rfl, rfl⟩ := trodAll_nil r1
  obtain rfl : args = #[v0, v1] := by cases args; simp_all
  obtain ⟨rfl, rfl⟩ := trodVars_none hV
  obtain ⟨a0, len0, cap0, rfl⟩ := okWide_slice Try.underlying49 (hval 0 49 v0 rfl rfl)
  have k0 := h0
  have lt0 : ∀ x ∈ p0, x.block < W.heap.size := by obtain ⟨m, hm⟩ := k0; exact DataW.trod_lt m _ _ _ hm
  obtain ⟨L0, hrd0, hl0, hm0⟩ : ∃ L, Cm W a0 len0 L ∧ len0 ≤ cap0 ∧ cap0 ≤ maxLen := by
    obtain ⟨fuel, hf⟩ := h0
    exact open_coms (by simpa [Value.cells] using hf)
  obtain ⟨a1, rfl, rfl, rfl, w1⟩ := open_int Try.underlying3 (hval 1 3 v1 rfl rfl) h1
  clear hA0 hval0
  refine (dagTells_walk a0 len0 cap0 L0 a1 W hrd0 (by unfold maxLen at hm0; omega)).mono fun e W' ⟨he, bel⟩ => ?_
  subst he
  exact ⟨_, rfl, _, _, _, [], _, [], hW', trodAll_mk1 (shut_bool Try.underlying4 _), (trodAll_cons_mk (Below.trod laidTry (by kernel_rfl) (of_decide_eq_true (by kernel_rfl)) k0 bel lt0) (trodAll_cons_mk (shut_int Try.underlying3 w1) trodAll_mk0)), rfl, bel.frame _, fun h => by cases h⟩

theorem dagTells_holds : Rows.DagTellsSaid :=
  OpenClaim.holds_of_wide 8 Try.f8 rfl rfl rfl rfl rfl rfl rfl ⟨rfl, rfl, rfl, rfl, rfl⟩ rfl rfl rfl rfl rfl (by kernel_rfl) Try.func8 (by kernel_rfl)
    (of_decide_eq_true (by kernel_rfl)) (by unfold Func.isWrapper; first | (rw [if_pos (by decide +kernel)]; kernel_rfl) | (rw [if_neg (by decide +kernel)]; exact ⟨rfl, rfl⟩))
    (fun os started H enc _ => dagTells_lifted os started H enc)
#print axioms dagTells_holds
end Go.Proofs.Ytcgpgflnihjpiad
