/- What must be in any case of repos. -/
import Derived.Test.YtcgpgflnihjpiaeBegin
import Derived.Test.YtcgpgflnihjpiaeSameR
import Derived.Test.YtcgpgflnihjpiaeLog
namespace Go.Proofs.Ytcgpgflnihjpiae
open Go.RowKit

def sBig : ByteArray := ⟨#[77, 97, 105, 110]⟩
theorem ShopAt.poke {w : World} {lo g h : Nat} (S : ShopAt w lo g h) (i : Nat) (s : ByteArray) (x y : ByteArray) (hx : x.size ≤ 8) (hy : y.size ≤ 8) (he : (#[.string sMain, .int .i64 3, .string sSide, .int .i64 1] : Array Value).setIfInBounds i (.string s) = #[.string x, .int .i64 3, .string y, .int .i64 1]) :
    Cm (w.setCell ⟨h, i, none⟩ (.string s)) (some ⟨g, 0, none⟩) 6 crossL ∧ Hs (w.setCell ⟨h, i, none⟩ (.string s)) (some ⟨h, 0, none⟩) 2 [(x, 3), (y, 1)] := by
  have hlt := (Array.getElem?_eq_some_iff.1 S.hd).1
  refine ⟨CrossAt.cm (CrossFrom.at (S.cr.keep (fun k h1 h2 => ?_) (by simp [World.setCell]))), hs_block ?_ hx hy⟩
  · exact heap_setCell_other _ _ _ _ (by show k ≠ h; have := S.gh; omega)
  · rw [heap_setCell_same _ _ _ _ _ _ S.hd, he]

set_option maxRecDepth 100000 in
set_option maxHeartbeats 8000000 in
theorem rbegun_any (w : World) : Calls Try.prog 18 #[] w fun e w' => e = .returned (.bool true) ∧ Below w.heap.size w w' := by
  go_enter Try.func18, Try.ntmps18
  go_wp2_with fail
  refine (shop_any _).mono ?_
  rintro e a0 ⟨g0, h0, rfl, S0, b0⟩
  have K0 := head_any (some ⟨g0, 0, none⟩) 6 6 crossL (some ⟨h0, 0, none⟩) 2 2 shopH sSide a0 S0.cm (by omega) S0.hs (by omega)
  rw [show M.hat crossL shopH sSide = 1 by decide +kernel, show M.hchk crossL shopH sSide = 0 by decide +kernel] at K0
  have KK0 : Hid (Calls Try.prog 14 #[.agg #[.slice (some ⟨g0, 0, none⟩) 6 6, .slice (some ⟨h0, 0, none⟩) 2 2], .string ⟨#[115, 105, 100, 101]⟩] a0 fun e w' => e = .returned (.tuple #[.int .i64 1, .int .i64 0]) ∧ Below a0.heap.size a0 w') := K0
  clear K0 S0
  go_wp2_with fail
  refine KK0.out.mono ?_
  rintro e v0 ⟨rfl, bb⟩
  have c0 := dbelow2 b0 bb
  clear b0 bb KK0
  go_wp2_with fail
  refine (shop_any _).mono ?_
  rintro e a1 ⟨g1, h1, rfl, S1, b1⟩
  have K1 := log_any (some ⟨g1, 0, none⟩) 6 6 crossL (some ⟨h1, 0, none⟩) 2 2 shopH sMain a1 S1.cm (by omega) S1.hs (by omega)
  rw [show M.logL crossL shopH sMain = [3, 2, 1, 0] by decide +kernel, show M.hchk crossL shopH sMain = 0 by decide +kernel] at K1
  have KK1 : Hid (Calls Try.prog 15 #[.agg #[.slice (some ⟨g1, 0, none⟩) 6 6, .slice (some ⟨h1, 0, none⟩) 2 2], .string ⟨#[109, 97, 105, 110]⟩] a1 fun e w' => ∃ v, e = .returned (.tuple #[v, .int .i64 0]) ∧ OwnI w' a1.heap.size v [3, 2, 1, 0] ∧ Below a1.heap.size a1 w') := K1
  clear K1 S1
  go_wp2_with fail
  refine KK1.out.mono ?_
  rintro e v1 ⟨lv, rfl, ol, bb⟩
  have c1 := dbelow2 (dbelow2 c0 b1) bb
  obtain ⟨la, lc, rfl, rl, _⟩ := ol.ri
  have HL : Hid (Ri v1 la 4 [3, 2, 1, 0]) := rl
  clear b1 bb KK1 c0 rl ol
  go_wp2_with fail
  refine (shop_any _).mono ?_
  rintro e a2 ⟨g2, h2, rfl, S2, b2⟩
  have K2 := head_any (some ⟨g2, 0, none⟩) 6 6 crossL (some ⟨h2, 0, none⟩) 2 2 shopH ⟨#[110, 111, 110, 101]⟩ a2 S2.cm (by omega) S2.hs (by omega)
  rw [show M.hat crossL shopH ⟨#[110, 111, 110, 101]⟩ = 0 by decide +kernel, show M.hchk crossL shopH ⟨#[110, 111, 110, 101]⟩ = 5 by decide +kernel] at K2
  have KK2 : Hid (Calls Try.prog 14 #[.agg #[.slice (some ⟨g2, 0, none⟩) 6 6, .slice (some ⟨h2, 0, none⟩) 2 2], .string ⟨#[110, 111, 110, 101]⟩] a2 fun e w' => e = .returned (.tuple #[.int .i64 0, .int .i64 5]) ∧ Below a2.heap.size a2 w') := K2
  clear K2 S2
  go_wp2_with fail
  refine KK2.out.mono ?_
  rintro e v2 ⟨rfl, bb⟩
  have c2 := dbelow2 (dbelow2 c1 b2) bb
  have HL2 : Hid (Ri v2 la 4 [3, 2, 1, 0]) := (HL.out.below b2 (Nat.le_refl _)).below bb (Nat.le_refl _)
  clear b2 bb KK2 c1 HL
  go_wp2_with fail
  refine (shop_any _).mono ?_
  rintro e v3 ⟨g3, h3, rfl, S3, b3⟩
  have hh3 := S3.hd
  have hl3 := (Array.getElem?_eq_some_iff.1 hh3).1
  have k3 : v3.cell? ⟨h3, 2, none⟩ = some (.string sSide) := by rw [cell_of_row _ _ _ _ _ _ hh3]; rfl
  have f3 : v3.frozen? ⟨h3, 2, none⟩ = false := frozen_of_row _ _ _ _ _ hh3
  obtain ⟨P3, Q3⟩ := S3.poke 2 sMain sMain sMain (by decide) (by decide) rfl
  have bp3 : Below v2.heap.size v2 (v3.setCell ⟨h3, 2, none⟩ (.string sMain)) := b3.setCell (p := ⟨h3, 2, none⟩) (by show _ ≤ h3; have := S3.gh; have := S3.lg; omega) _
  have I3 := InBox.new (v3.setCell ⟨h3, 2, none⟩ (.string sMain)) (some ⟨g3, 0, none⟩) 6 6 crossL (some ⟨h3, 0, none⟩) 2 2 [(sMain, 3), (sMain, 1)] P3 Q3
  obtain ⟨X3, hX3⟩ : ∃ X3, X3 = (v3.setCell ⟨h3, 2, none⟩ (.string sMain)).alloc (.cells #[.slice (some ⟨g3, 0, none⟩) 6 6, .slice (some ⟨h3, 0, none⟩) 2 2] 40) := ⟨_, rfl⟩
  obtain ⟨p3, hp3⟩ : ∃ p3, p3 = v3.heap.size := ⟨_, rfl⟩
  rw [show (v3.setCell ⟨h3, 2, none⟩ (.string sMain)).heap.size = p3 by rw [hp3]; simp [World.setCell], ← hX3] at I3
  have d3 : Below v2.heap.size v2 X3 := by rw [hX3]; exact bp3.alloc bp3.size _
  have HX3 : Hid (X3 = (v3.setCell ⟨h3, 2, none⟩ (.string ⟨#[109, 97, 105, 110]⟩)).alloc (.cells #[.slice (some ⟨g3, 0, none⟩) 6 6, .slice (some ⟨h3, 0, none⟩) 2 2] 40)) := hX3
  have HP3 : Aside (p3 = v3.heap.size) := hp3
  have HI3 : Aside (InBox X3 p3 (some ⟨g3, 0, none⟩) 6 6 crossL (some ⟨h3, 0, none⟩) 2 2 [(sMain, 3), (sMain, 1)]) := I3
  have c3 := dbelow2 c2 d3
  have HL3 : Hid (Ri X3 la 4 [3, 2, 1, 0]) := HL2.out.below d3 (Nat.le_refl _)
  clear P3 Q3 bp3 I3 hX3 hp3 b3 S3 hh3 d3 HL2 c2
  go_wp2_with fail
  rw [← HX3.out, ← HP3.out]
  refine (shop_any _).mono ?_
  rintro e v4 ⟨g4, h4, rfl, S4, b4⟩
  have hh4 := S4.hd
  have hl4 := (Array.getElem?_eq_some_iff.1 hh4).1
  have k4 : v4.cell? ⟨h4, 0, none⟩ = some (.string sMain) := by rw [cell_of_row _ _ _ _ _ _ hh4]; rfl
  have f4 : v4.frozen? ⟨h4, 0, none⟩ = false := frozen_of_row _ _ _ _ _ hh4
  obtain ⟨P4, Q4⟩ := S4.poke 0 sBig sBig sSide (by decide) (by decide) rfl
  have bp4 : Below X3.heap.size X3 (v4.setCell ⟨h4, 0, none⟩ (.string sBig)) := b4.setCell (p := ⟨h4, 0, none⟩) (by show _ ≤ h4; have := S4.gh; have := S4.lg; omega) _
  have I4 := InBox.new (v4.setCell ⟨h4, 0, none⟩ (.string sBig)) (some ⟨g4, 0, none⟩) 6 6 crossL (some ⟨h4, 0, none⟩) 2 2 [(sBig, 3), (sSide, 1)] P4 Q4
  obtain ⟨X4, hX4⟩ : ∃ X4, X4 = (v4.setCell ⟨h4, 0, none⟩ (.string sBig)).alloc (.cells #[.slice (some ⟨g4, 0, none⟩) 6 6, .slice (some ⟨h4, 0, none⟩) 2 2] 40) := ⟨_, rfl⟩
  obtain ⟨p4, hp4⟩ : ∃ p4, p4 = v4.heap.size := ⟨_, rfl⟩
  rw [show (v4.setCell ⟨h4, 0, none⟩ (.string sBig)).heap.size = p4 by rw [hp4]; simp [World.setCell], ← hX4] at I4
  have d4 : Below X3.heap.size X3 X4 := by rw [hX4]; exact bp4.alloc bp4.size _
  have HX4 : Hid (X4 = (v4.setCell ⟨h4, 0, none⟩ (.string ⟨#[77, 97, 105, 110]⟩)).alloc (.cells #[.slice (some ⟨g4, 0, none⟩) 6 6, .slice (some ⟨h4, 0, none⟩) 2 2] 40)) := hX4
  have HP4 : Aside (p4 = v4.heap.size) := hp4
  have HI4 : Aside (InBox X4 p4 (some ⟨g4, 0, none⟩) 6 6 crossL (some ⟨h4, 0, none⟩) 2 2 [(sBig, 3), (sSide, 1)]) := I4
  have HI34 : Aside (InBox X4 p3 (some ⟨g3, 0, none⟩) 6 6 crossL (some ⟨h3, 0, none⟩) 2 2 [(sMain, 3), (sMain, 1)]) := HI3.out.below d4
  have c4 := dbelow2 c3 d4
  have HL4 : Hid (Ri X4 la 4 [3, 2, 1, 0]) := HL3.out.below d4 (Nat.le_refl _)
  clear P4 Q4 bp4 I4 hX4 hp4 b4 S4 hh4 d4 HL3 c3 HI3
  go_wp2_with fail
  rw [← HX4.out, ← HP4.out]
  refine (shop_any _).mono ?_
  rintro e a5 ⟨g5, h5, rfl, S5, b5⟩
  have K5 := rcheck_any (some ⟨g5, 0, none⟩) 6 6 crossL (some ⟨h5, 0, none⟩) 2 2 shopH a5 S5.cm (by omega) S5.hs (by omega)
  rw [show M.rchk crossL shopH = 0 by decide +kernel] at K5
  have KK5 : Hid (Calls Try.prog 19 #[.agg #[.slice (some ⟨g5, 0, none⟩) 6 6, .slice (some ⟨h5, 0, none⟩) 2 2]] a5 fun e w' => e = .returned (.int .i64 0) ∧ Below a5.heap.size a5 w') := K5
  clear K5 S5
  go_wp2_with fail
  refine KK5.out.mono ?_
  rintro e v5 ⟨rfl, bb⟩
  have d5 := dbelow2 b5 bb
  clear b5 bb KK5
  go_wp2_with fail
  refine (begin_any _).mono ?_
  rintro e a6 ⟨g6, h6, rfl, P6, Q6, b6⟩
  have K6 := rcheck_any (some ⟨g6, 0, none⟩) 1 1 [([], [])] (some ⟨h6, 0, none⟩) 1 1 beginH a6 P6 (by omega) Q6 (by omega)
  rw [show M.rchk [([], [])] beginH = 0 by decide +kernel] at K6
  have KK6 : Hid (Calls Try.prog 19 #[.agg #[.slice (some ⟨g6, 0, none⟩) 1 1, .slice (some ⟨h6, 0, none⟩) 1 1]] a6 fun e w' => e = .returned (.int .i64 0) ∧ Below a6.heap.size a6 w') := K6
  clear K6 P6 Q6
  go_wp2_with fail
  refine KK6.out.mono ?_
  rintro e v6 ⟨rfl, bb⟩
  have d6 := dbelow2 (dbelow2 d5 b6) bb
  have J6 := HI34.out.below d6
  have x0 := J6.c0
  have x1 := J6.c1
  have K7 := rcheck_any (some ⟨g3, 0, none⟩) 6 6 crossL (some ⟨h3, 0, none⟩) 2 2 _ v6 J6.cm (by omega) J6.hs (by omega)
  rw [show M.rchk crossL [(sMain, 3), (sMain, 1)] = 1 by decide +kernel] at K7
  have KK7 : Hid (Calls Try.prog 19 #[.agg #[.slice (some ⟨g3, 0, none⟩) 6 6, .slice (some ⟨h3, 0, none⟩) 2 2]] v6 fun e w' => e = .returned (.int .i64 1) ∧ Below v6.heap.size v6 w') := K7
  clear K7 J6 b6 bb KK6 d5
  go_wp2_with fail
  refine KK7.out.mono ?_
  rintro e v7 ⟨rfl, bb⟩
  have d7 := dbelow2 d6 bb
  have J7 := HI4.out.below d7
  have y0 := J7.c0
  have y1 := J7.c1
  have K8 := rcheck_any (some ⟨g4, 0, none⟩) 6 6 crossL (some ⟨h4, 0, none⟩) 2 2 _ v7 J7.cm (by omega) J7.hs (by omega)
  rw [show M.rchk crossL [(sBig, 3), (sSide, 1)] = 4 by decide +kernel] at K8
  have KK8 : Hid (Calls Try.prog 19 #[.agg #[.slice (some ⟨g4, 0, none⟩) 6 6, .slice (some ⟨h4, 0, none⟩) 2 2]] v7 fun e w' => e = .returned (.int .i64 4) ∧ Below v7.heap.size v7 w') := K8
  clear K8 J7 bb KK7 d6 x0 x1
  go_wp2_with fail
  refine KK8.out.mono ?_
  rintro e v8 ⟨rfl, bb⟩
  have d8 := dbelow2 d7 bb
  have HL8 : Hid (Ri v8 la 4 [3, 2, 1, 0]) := HL4.out.below d8 (Nat.le_refl _)
  have c8 := dbelow2 c4 d8
  clear bb KK8 d7 y0 y1 HL4 c4 d8 HI4 HI34
  obtain ⟨X9, hX9⟩ : ∃ X9, X9 = v8.alloc (.cells #[.int .i64 3, .int .i64 2, .int .i64 1, .int .i64 0] 3) := ⟨_, rfl⟩
  have b9 : Below v8.heap.size v8 X9 := by rw [hX9]; exact (Below.refl _ _).alloc (Nat.le_refl _) _
  have r9 : Ri X9 (some ⟨v8.heap.size, 0, none⟩) 4 [3, 2, 1, 0] := by
    refine ⟨rfl, Or.inr ⟨_, 0, rfl, by rw [hX9]; simp, fun i hi => ?_⟩⟩
    rw [hX9]
    match i, hi with
    | 0, _ => simp [go_sem]
    | 1, _ => simp [go_sem]
    | 2, _ => simp [go_sem]
    | 3, _ => simp [go_sem]
  have K9 := isame_yes la (some ⟨v8.heap.size, 0, none⟩) 4 lc 4 [3, 2, 1, 0] X9 (HL8.out.below b9 (Nat.le_refl _)) r9 (by omega)
  have KK9 : Hid (Calls Try.prog 10 #[.slice la 4 lc, .slice (some ⟨v8.heap.size, 0, none⟩) 4 4] X9 fun e w' => e = .returned (.bool true) ∧ ∃ m, w' = X9.drewN m) := K9
  have HX9 : Hid (X9 = v8.alloc (.cells #[.int .i64 3, .int .i64 2, .int .i64 1, .int .i64 0] 3)) := hX9
  have c9 := dbelow2 c8 b9
  clear K9 hX9 b9 r9 HL8 c8
  go_wp2_with fail
  rw [← HX9.out]
  refine KK9.out.mono ?_
  rintro e v9 ⟨rfl, m9, rfl⟩
  have c9' : Below w.heap.size w (X9.drewN m9) := below_drewN c9 m9
  clear c9 KK9
  go_wp2_with fail
  refine (begin_any _).mono ?_
  rintro e w10 ⟨ga, ha, rfl, Pa, Qa, ba⟩
  go_wp2_with fail
  refine (beginOf_any _).mono ?_
  rintro e w11 ⟨gb, hb, rfl, Pb, Qb, bb⟩
  have K11 := srepos_yes (some ⟨ga, 0, none⟩) (some ⟨gb, 0, none⟩) 1 1 1 [([], [])] (some ⟨ha, 0, none⟩) (some ⟨hb, 0, none⟩) 1 1 1 beginH w11 (Pa.below bb (Nat.le_refl _)) Pb (by omega) (Qa.below bb (Nat.le_refl _)) Qb (by omega)
  have KK11 : Hid (Calls Try.prog 36 #[.agg #[.slice (some ⟨ga, 0, none⟩) 1 1, .slice (some ⟨ha, 0, none⟩) 1 1], .agg #[.slice (some ⟨gb, 0, none⟩) 1 1, .slice (some ⟨hb, 0, none⟩) 1 1]] w11 fun e w' => e = .returned (.bool true) ∧ Below w11.heap.size w11 w') := K11
  have c11 := dbelow2 (dbelow2 c9' ba) bb
  clear K11 Pa Qa Pb Qb ba bb c9'
  go_wp2_with fail
  refine KK11.out.mono ?_
  rintro e w12 ⟨rfl, bc⟩
  have c12 := dbelow2 c11 bc
  go_wp2
  go_ret
  exact ⟨rfl, c12⟩
end Go.Proofs.Ytcgpgflnihjpiae
