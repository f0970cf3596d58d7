/- For all commits and every two numbers, the law DagBases returns true and leaves its arguments as they were: Bases of the landed dag package answers what the reference answers. No condition. -/
import Derived.Test.YtcgpgflnihjpiaeDBegun
import Derived.Test.YtcgpgflnihjpiaeDagRe
import Derived.Test.YtcgpgflnihjpiaeDagR3
import Derived.Test.YtcgpgflnihjpiaeOpenC
namespace Go.Proofs.Ytcgpgflnihjpiae
open Go.ChangeShapes Go.WideShapes Go.ChangeAt Go.RowKit

set_option maxHeartbeats 4000000 in
theorem dagBases_walk (a : Option Addr) (n cap : Nat) (L : List M.Com) (x y : Int) (w : World) (h : Cm w a n L) (hm : n ≤ 9223372036854775807) :
    Calls Try.prog 3 #[.slice a n cap, .int .i64 x, .int .i64 y] w fun e w' => e = .returned (.bool true) ∧ Below w.heap.size w w' := by
  have HCm : Hid (Cm w a n L) := h
  have hl := h.1
  by_cases hz : M.dchk L = 0
  · have HB := dbases_good a n cap L x y w h hz
    have HBB : Hid (Calls Try.prog 6 #[.slice a n cap, .int .i64 x, .int .i64 y] w fun e w' => BasesPost L x y n w e w') := HB
    have HZ : Hid (M.dchk L = 0) := hz
    have HL : Hid (L.length = n) := hl
    clear HB h hz hl
    go_enter Try.func3, Try.ntmps3
    go_wp2_with fail
    refine HBB.out.mono ?_
    rintro e w1 ⟨hb1, hor⟩
    have hE1 := cone_any a n cap L x w1 (HCm.out.below hb1 (Nat.le_refl _)) hm
    rcases hor with ⟨hr, rfl⟩ | ⟨hr, v, rfl, ho⟩
    · by_cases hx : x < 0 ∨ (n : Int) ≤ x
      · have e : M.dask L x = 5 := by unfold M.dask; rw [if_neg (by rw [HZ.out]; simp), HL.out, if_pos hx]
        rw [e] at hE1
        have HE1 : Hid (Calls Try.prog 7 #[.slice a n cap, .int .i64 x] w1 fun e w' => e = .returned (.int .i64 5) ∧ Below w1.heap.size w1 w') := hE1
        clear hE1 e hx hr HBB
        go_wp2_with fail
        refine HE1.out.mono ?_
        rintro e w2 ⟨rfl, hb2⟩
        have c2 := dbelow2 hb1 hb2
        clear hb1 hb2 HE1
        go_wp2_with fail
        refine (dbegun_any w2).mono ?_
        rintro e w3 ⟨rfl, hb3⟩
        have c3 := dbelow2 c2 hb3
        clear c2 hb3
        go_wp2_with fail
        refine (isame_none none none 0 0 w3).mono ?_
        rintro e w4 ⟨rfl, hw4⟩
        subst hw4
        go_wp2
        go_ret
        exact ⟨rfl, c3⟩
      · have hy : y < 0 ∨ (n : Int) ≤ y := by omega
        have e : M.dask L x = 0 := by unfold M.dask; rw [if_neg (by rw [HZ.out]; simp), HL.out, if_neg hx]
        have ey : M.dask L y = 5 := by unfold M.dask; rw [if_neg (by rw [HZ.out]; simp), HL.out, if_pos hy]
        rw [e] at hE1
        have HE1 : Hid (Calls Try.prog 7 #[.slice a n cap, .int .i64 x] w1 fun e w' => e = .returned (.int .i64 0) ∧ Below w1.heap.size w1 w') := hE1
        have HY : Hid (M.dask L y = 5) := ey
        clear hE1 e ey hx hy hr HBB
        go_wp2_with fail
        refine HE1.out.mono ?_
        rintro e w2 ⟨rfl, hb2⟩
        have c2 := dbelow2 hb1 hb2
        have hE2 := cone_any a n cap L y w2 (HCm.out.below c2 (Nat.le_refl _)) hm
        rw [HY.out] at hE2
        have HE2 : Hid (Calls Try.prog 7 #[.slice a n cap, .int .i64 y] w2 fun e w' => e = .returned (.int .i64 5) ∧ Below w2.heap.size w2 w') := hE2
        clear hb1 hb2 HE1 hE2
        go_wp2_with fail
        refine HE2.out.mono ?_
        rintro e w5 ⟨rfl, hb5⟩
        have c5 := dbelow2 c2 hb5
        clear c2 hb5 HE2
        go_wp2_with fail
        refine (dbegun_any w5).mono ?_
        rintro e w3 ⟨rfl, hb3⟩
        have c3 := dbelow2 c5 hb3
        clear c5 hb3
        go_wp2_with fail
        refine (isame_none none none 0 0 w3).mono ?_
        rintro e w4 ⟨rfl, hw4⟩
        subst hw4
        go_wp2
        go_ret
        exact ⟨rfl, c3⟩
    · obtain ⟨x0, x1, y0, y1⟩ := hr
      have e : M.dask L x = 0 := by unfold M.dask; rw [if_neg (by rw [HZ.out]; simp), HL.out, if_neg (by omega)]
      have ey : M.dask L y = 0 := by unfold M.dask; rw [if_neg (by rw [HZ.out]; simp), HL.out, if_neg (by omega)]
      obtain ⟨xn, rfl⟩ : ∃ xn : Nat, x = (xn : Int) := ⟨x.toNat, by omega⟩
      obtain ⟨yn, rfl⟩ : ∃ yn : Nat, y = (yn : Int) := ⟨y.toNat, by omega⟩
      rw [Int.toNat_natCast, Int.toNat_natCast] at ho
      obtain ⟨av, cv, rfl, hri, hlc, hcm⟩ := ho.ri
      rw [e] at hE1
      have HE1 : Hid (Calls Try.prog 7 #[.slice a n cap, .int .i64 xn] w1 fun e w' => e = .returned (.int .i64 0) ∧ Below w1.heap.size w1 w') := hE1
      have HY : Hid (M.dask L yn = 0) := ey
      have hxn : xn < n := by omega
      have hyn : yn < n := by omega
      obtain ⟨bs, hbs⟩ : ∃ bs, bs = M.bases L xn yn := ⟨_, rfl⟩
      have hbl : bs.length ≤ 1000 := by
        have h1 := M.sel_len (M.isBase L xn yn) L.length
        have h2 := (M.dchk_zero HZ.out).1
        rw [hbs]; unfold M.bases; omega
      rw [← hbs] at hri
      obtain ⟨ln, hln⟩ : ∃ ln, ln = bs.length := ⟨_, rfl⟩
      rw [← hbs, ← hln]
      rw [← hln] at hri hbl
      have HR1 : Hid (Ri w1 av ln bs) := hri
      have HBS : Hid (bs = M.bases L xn yn) := hbs
      have HLN : Hid (ln = bs.length) := hln
      clear hE1 e ey HBB ho hri hlc hcm x0 x1 y0 y1 hbs hln
      go_wp2_with fail
      refine HE1.out.mono ?_
      rintro e w2 ⟨rfl, hb2⟩
      have c2 := dbelow2 hb1 hb2
      have HR2 : Hid (Ri w2 av ln bs) := HR1.out.below hb2 (Nat.le_refl _)
      have hE2 := cone_any a n cap L yn w2 (HCm.out.below c2 (Nat.le_refl _)) hm
      rw [HY.out] at hE2
      have HE2 : Hid (Calls Try.prog 7 #[.slice a n cap, .int .i64 yn] w2 fun e w' => e = .returned (.int .i64 0) ∧ Below w2.heap.size w2 w') := hE2
      clear hb1 hb2 HE1 hE2 HR1
      go_wp2_with fail
      refine HE2.out.mono ?_
      rintro e w5 ⟨rfl, hb5⟩
      have c5 := dbelow2 c2 hb5
      have HR5 : Hid (Ri w5 av ln bs) := HR2.out.below hb5 (Nat.le_refl _)
      have HBo := basesOf_any a n cap L xn yn w5 (HCm.out.below c5 (Nat.le_refl _)) HZ.out hxn hyn
      have HBB : Hid (Calls Try.prog 8 #[.slice a n cap, .int .i64 xn, .int .i64 yn] w5 fun e w' => ∃ v, e = .returned v ∧ OwnI w' w5.heap.size v (M.bases L xn yn) ∧ Below w5.heap.size w5 w') := HBo
      clear c2 hb5 HE2 HBo HR2
      go_wp2_with fail
      refine HBB.out.mono ?_
      rintro e w6 ⟨v2, rfl, ho2, hb6⟩
      rw [← HBS.out] at ho2
      obtain ⟨av2, cv2, rfl, hri2, _, _⟩ := ho2.ri
      rw [← HLN.out] at hri2 ⊢
      have HR6 : Hid (Ri w6 av ln bs) := HR5.out.below hb6 (Nat.le_refl _)
      have HQ6 : Hid (Ri w6 av2 ln bs) := hri2
      have c6 := dbelow2 c5 hb6
      clear hri2 ho2 hb6 c5 HR5 HBB
      go_wp2_with fail
      refine (dbegun_any w6).mono ?_
      rintro e w3 ⟨rfl, hb3⟩
      have c3 := dbelow2 c6 hb3
      have hS := isame_any av av2 ln ln cv cv2 bs bs w3 (HR6.out.below hb3 (Nat.le_refl _)) (HQ6.out.below hb3 (Nat.le_refl _)) (by omega)
      rw [decide_eq_true rfl] at hS
      have HS : Hid (Calls Try.prog 10 #[.slice av ln cv, .slice av2 ln cv2] w3 fun e w' => e = .returned (.bool true) ∧ Below w3.heap.size w3 w') := hS
      clear c6 hb3 hS
      go_wp2_with fail
      refine HS.out.mono ?_
      rintro e w4 ⟨rfl, hb4⟩
      have c4 := dbelow2 c3 hb4
      clear c3 hb4
      go_wp2
      go_ret
      exact ⟨rfl, c4⟩
  · have HB := dbases_bad a n cap L x y w h hm hz
    have hE0 : M.dask L x = M.dchk L := by unfold M.dask; rw [if_pos hz]
    obtain ⟨c, hc⟩ : ∃ c, c = M.dchk L := ⟨_, rfl⟩
    rw [← hc] at HB hz hE0
    have HBB : Hid (Calls Try.prog 6 #[.slice a n cap, .int .i64 x, .int .i64 y] w fun e w' => e = .returned (.tuple #[.slice none 0 0, .int .i64 c]) ∧ Below w.heap.size w w') := HB
    have HE0 : Hid (M.dask L x = c) := hE0
    have hne : (c == 0) = false := by simp [hz]
    clear HB h hz hc hE0 hl
    go_enter Try.func3, Try.ntmps3
    go_wp2_with fail
    refine HBB.out.mono ?_
    rintro e w1 ⟨rfl, hb1⟩
    have hE1 := cone_any a n cap L x w1 (HCm.out.below hb1 (Nat.le_refl _)) hm
    rw [HE0.out] at hE1
    have HE1 : Hid (Calls Try.prog 7 #[.slice a n cap, .int .i64 x] w1 fun e w' => e = .returned (.int .i64 c) ∧ Below w1.heap.size w1 w') := hE1
    clear hE1
    go_wp2_with fail
    refine HE1.out.mono ?_
    rintro e w2 ⟨rfl, hb2⟩
    have c2 := dbelow2 hb1 hb2
    clear hb1 hb2 HE1
    go_wp2_with fail
    refine (dbegun_any w2).mono ?_
    rintro e w3 ⟨rfl, hb3⟩
    have c3 := dbelow2 c2 hb3
    clear c2 hb3
    go_wp2_with fail
    refine (isame_none none none 0 0 w3).mono ?_
    rintro e w4 ⟨rfl, hw4⟩
    subst hw4
    go_wp2
    go_ret
    exact ⟨rfl, c3⟩

set_option maxRecDepth 100000 in
theorem dagBases_lifted (os : Os) (started : os.Started) (H : Type) (enc : TypeId × Value → H) :
    ReturnsInHanded {} Try.checked os 3 .any (Rows.dagBasesSpec.pre6 enc Try.prog Try.f3 Rows.dagBasesRow.domain false) (Rows.dagBasesSpec.post enc Try.prog Try.f3 false true false false) := by
  refine returnsInHanded_of_change (C := Try.checked) ownTry started (by kernel_rfl) Try.func3
    (ChangeSpec.witness6 (enc := enc) (C := Try.checked) false ⟨#[], #[.slice none 0 0, .int .i64 0, .int .i64 0], []⟩ 8 (by kernel_rfl) (by kernel_rfl) (by kernel_rfl) (by kernel_rfl)) ?_
  intro W base args ds gs before hval0 hW hcnd _
  have hval : ∀ (j : Nat) t v, Try.f3.params[j]? = some t → args[j]? = some v → Value.okWide Try.prog W .any base t v := hval0
  have hW' := hW
  obtain ⟨p, q, hA0, hV, rfl, hfz, hnd⟩ := hW
  have hA : DataW.TrodAll enc Try.prog W 0 (fun _ => true) true Try.f3.params.toList args.toList ds p := hA0
  rw [Try.params3] at hA hval
  obtain ⟨v0, vs0, d0, ds0, p0, q0, hargs, rfl, rfl, h0, r0⟩ := trodAll_cons hA
  obtain ⟨v1, vs1, d1, ds1, p1, q1, rfl, rfl, rfl, h1, r1⟩ := trodAll_cons r0
  obtain ⟨v2, vs2, d2, ds2, p2, q2, rfl, rfl, rfl, h2, r2⟩ := trodAll_cons r1
  obtain ⟨rfl, rfl, rfl⟩ := trodAll_nil r2
  obtain rfl : args = #[v0, v1, v2] := by cases args; simp_all
  obtain ⟨rfl, rfl⟩ := trodVars_none hV
  obtain ⟨a0, len0, cap0, rfl⟩ := okWide_slice Try.underlying22 (hval 0 22 v0 rfl rfl)
  have k0 := h0
  have lt0 : ∀ x ∈ p0, x.block < W.heap.size := by obtain ⟨m, hm⟩ := k0; exact DataW.trod_lt m _ _ _ hm
  obtain ⟨L0, hrd0, hl0, hm0⟩ : ∃ L, Cm W a0 len0 L ∧ len0 ≤ cap0 ∧ cap0 ≤ maxLen := by
    obtain ⟨fuel, hf⟩ := h0
    exact open_coms (by simpa [Value.cells] using hf)
  obtain ⟨a1, rfl, rfl, rfl, w1⟩ := open_int Try.underlying3 (hval 1 3 v1 rfl rfl) h1
  obtain ⟨a2, rfl, rfl, rfl, w2⟩ := open_int Try.underlying3 (hval 2 3 v2 rfl rfl) h2
  clear hA0 hval0
  refine (dagBases_walk a0 len0 cap0 L0 a1 a2 W hrd0 (by unfold maxLen at hm0; omega)).mono fun e W' ⟨he, bel⟩ => ?_
  subst he
  exact ⟨_, rfl, _, _, _, [], _, [], hW', trodAll_mk1 (shut_bool Try.underlying4 _), (trodAll_cons_mk (Below.trod laidTry (by kernel_rfl) (of_decide_eq_true (by kernel_rfl)) k0 bel lt0) (trodAll_cons_mk (shut_int Try.underlying3 w1) (trodAll_cons_mk (shut_int Try.underlying3 w2) trodAll_mk0))), rfl, bel.frame _, fun h => by cases h⟩

theorem dagBases_holds : Rows.DagBasesSaid :=
  OpenClaim.holds_of_wide 3 Try.f3 rfl rfl rfl rfl rfl rfl rfl ⟨rfl, rfl, rfl, rfl, rfl⟩ rfl rfl rfl rfl rfl (by kernel_rfl) Try.func3 (by kernel_rfl)
    (of_decide_eq_true (by kernel_rfl)) (by unfold Func.isWrapper; first | (rw [if_pos (by decide +kernel)]; kernel_rfl) | (rw [if_neg (by decide +kernel)]; exact ⟨rfl, rfl⟩))
    (fun os started H enc _ => dagBases_lifted os started H enc)
#print axioms dagBases_holds
end Go.Proofs.Ytcgpgflnihjpiae
