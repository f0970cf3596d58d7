/- What must be in any case of commits. -/
import Derived.Test.YtcgpgflnihjpiadCross
import Derived.Test.YtcgpgflnihjpiadDag5
import Derived.Test.YtcgpgflnihjpiadSameB
namespace Go.Proofs.Ytcgpgflnihjpiad
open Go.RowKit

theorem cross_above3 (g : Nat) (w : World) (h : CrossAt w g) : Calls Try.prog 23 #[.slice (some ⟨g, 0, none⟩) 6 6, .int .i64 3] w fun e w' => ∃ k, e = .returned (.tuple #[.slice (some ⟨k, 0, none⟩) 6 6, .int .i64 0]) ∧ Rb w' (some ⟨k, 0, none⟩) 6 [true, true, true, true, false, false] ∧ Below w.heap.size w w' := by
  refine (dabove_good (some ⟨g, 0, none⟩) 6 6 crossL 3 w h.cm (by decide)).mono ?_
  rintro e w' ⟨hb, h2⟩
  rcases h2 with ⟨⟨x, hx, hr⟩, _⟩ | ⟨_, k, _, he, hbo⟩
  · simp at hx; omega
  · refine ⟨k, he, ?_, hb⟩
    rw [show (List.range 6).map (M.all crossL [3]) = [true, true, true, true, false, false] by decide] at hbo
    exact hbo.rb rfl
theorem cross_above6 (g : Nat) (w : World) (h : CrossAt w g) : Calls Try.prog 23 #[.slice (some ⟨g, 0, none⟩) 6 6, .int .i64 6] w fun e w' => e = .returned (.tuple #[.slice none 0 0, .int .i64 5]) ∧ Below w.heap.size w w' := by
  refine (dabove_good (some ⟨g, 0, none⟩) 6 6 crossL 6 w h.cm (by decide)).mono ?_
  rintro e w' ⟨hb, h2⟩
  rcases h2 with ⟨_, he⟩ | ⟨h3, _⟩
  · exact ⟨he, hb⟩
  · have := h3 6 (by simp); omega
theorem cross_bases (y : Nat) (l : List Int) (hy : y < 6) (hl : M.bases crossL 3 y = l) (g : Nat) (w : World) (h : CrossAt w g) : Calls Try.prog 52 #[.slice (some ⟨g, 0, none⟩) 6 6, .int .i64 3, .int .i64 (y : Int)] w fun e w' => ∃ a cap, e = .returned (.tuple #[.slice a l.length cap, .int .i64 0]) ∧ Ri w' a l.length l ∧ Below w.heap.size w w' := by
  refine (dbases_good (some ⟨g, 0, none⟩) 6 6 crossL 3 y w h.cm (by decide)).mono ?_
  rintro e w' ⟨hb, h2⟩
  rcases h2 with ⟨hr, _⟩ | ⟨_, v, rfl, ho⟩
  · omega
  · rw [show (3 : Int).toNat = 3 from rfl, Int.toNat_natCast, hl] at ho
    obtain ⟨a, cap, rfl, hri, _⟩ := ho.ri
    exact ⟨a, cap, rfl, hri, hb⟩
theorem cross_check (g : Nat) (w : World) (h : CrossAt w g) : Calls Try.prog 27 #[.slice (some ⟨g, 0, none⟩) 6 6] w fun e w' => e = .returned (.int .i64 0) ∧ Below w.heap.size w w' := by
  have f := dcheck_any (some ⟨g, 0, none⟩) 6 6 crossL w h.cm (by omega)
  rwa [show M.dchk crossL = 0 by decide] at f
theorem crossx_check (g : Nat) (w : World) (h : Cm w (some ⟨g, 0, none⟩) 6 crossX) : Calls Try.prog 27 #[.slice (some ⟨g, 0, none⟩) 6 6] w fun e w' => e = .returned (.int .i64 1) ∧ Below w.heap.size w w' := by
  have f := dcheck_any (some ⟨g, 0, none⟩) 6 6 crossX w h (by omega)
  rwa [show M.dchk crossX = 1 by decide] at f

set_option maxHeartbeats 8000000 in
theorem dbegun_any (w : World) : Calls Try.prog 26 #[] w fun e w' => e = .returned (.bool true) ∧ Below w.heap.size w w' := by
  go_enter Try.func26, Try.ntmps26
  go_wp2_with fail
  refine (cross_any _).mono ?_
  rintro e a0 ⟨g0, rfl, _, C0, ba⟩
  go_wp2_with fail
  refine (cross_above3 g0 a0 C0).mono ?_
  rintro e v0 ⟨k0, rfl, r0, bb⟩
  have HA : Hid (Rb v0 (some ⟨k0, 0, none⟩) 6 [true, true, true, true, false, false]) := r0
  have c0 := dbelow2 ba bb
  clear ba bb C0 r0
  go_wp2_with fail
  refine (cross_any _).mono ?_
  rintro e a1 ⟨g1, rfl, _, C1, ba⟩
  go_wp2_with fail
  refine (cross_bases 4 [1, 2] (by omega) (by decide) g1 a1 C1).mono ?_
  rintro e v1 ⟨p1, q1, rfl, r1, bb⟩
  have HB : Hid (Ri v1 p1 2 [1, 2]) := r1
  have c1 := dbelow2 (dbelow2 c0 ba) bb
  have d1 := dbelow2 ba bb
  have HA1 : Hid (Rb v1 (some ⟨k0, 0, none⟩) 6 [true, true, true, true, false, false]) := HA.out.below d1 (Nat.le_refl _)
  clear ba bb C1 r1 c0 d1 HA
  go_wp2_with fail
  refine (cross_any _).mono ?_
  rintro e a2 ⟨g2, rfl, _, C2, ba⟩
  go_wp2_with fail
  refine (cross_bases 1 [1] (by omega) (by decide) g2 a2 C2).mono ?_
  rintro e v2 ⟨p2, q2, rfl, r2, bb⟩
  have HC : Hid (Ri v2 p2 1 [1]) := r2
  have c2 := dbelow2 (dbelow2 c1 ba) bb
  have d2 := dbelow2 ba bb
  have HA2 : Hid (Rb v2 (some ⟨k0, 0, none⟩) 6 [true, true, true, true, false, false]) := HA1.out.below d2 (Nat.le_refl _)
  have HB2 : Hid (Ri v2 p1 2 [1, 2]) := HB.out.below d2 (Nat.le_refl _)
  clear ba bb C2 r2 c1 d2 HA1 HB
  go_wp2_with fail
  refine (cross_any _).mono ?_
  rintro e a3 ⟨g3, rfl, _, C3, ba⟩
  go_wp2_with fail
  refine (cross_bases 5 [] (by omega) (by decide) g3 a3 C3).mono ?_
  rintro e v3 ⟨p3, q3, rfl, r3, bb⟩
  have c3 := dbelow2 (dbelow2 c2 ba) bb
  have d3 := dbelow2 ba bb
  have HA3 : Hid (Rb v3 (some ⟨k0, 0, none⟩) 6 [true, true, true, true, false, false]) := HA2.out.below d3 (Nat.le_refl _)
  have HB3 : Hid (Ri v3 p1 2 [1, 2]) := HB2.out.below d3 (Nat.le_refl _)
  have HC3 : Hid (Ri v3 p2 1 [1]) := HC.out.below d3 (Nat.le_refl _)
  clear ba bb C3 r3 c2 d3 HA2 HB2 HC
  go_wp2_with fail
  refine (cross_any _).mono ?_
  rintro e a4 ⟨g4, rfl, _, C4, ba⟩
  go_wp2_with fail
  refine (cross_above6 g4 a4 C4).mono ?_
  rintro e v4 ⟨rfl, bb⟩
  have c4 := dbelow2 (dbelow2 c3 ba) bb
  have d4 := dbelow2 ba bb
  clear ba bb C4 c3
  go_wp2_with fail
  refine (cross_any _).mono ?_
  rintro e v5 ⟨g5, rfl, hg5, C5, ba⟩
  have CX : Hid (Cm ((v5.alloc (.cells #[.int .i64 1] 3)).setCell ⟨g5, 3, none⟩ (.slice (some ⟨v5.heap.size, 0, none⟩) 1 1)) (some ⟨g5, 0, none⟩) 6 crossX) := C5.poke
  obtain ⟨u3, cu, fu⟩ : ∃ u, v5.cell? ⟨g5, 3, none⟩ = some u ∧ v5.frozen? ⟨g5, 3, none⟩ = false := by
    obtain ⟨f, b1, b2, b3, b4, h1, _⟩ := C5
    exact ⟨_, by rw [cell_of_row _ _ _ _ _ _ h1]; rfl, frozen_of_row _ _ _ _ _ h1⟩
  have hg5l := C5.lt
  have c5 := dbelow2 c4 ba
  have d5 := dbelow2 d4 ba
  have hv4 := c4.size
  have hv34 := d4.size
  obtain ⟨W6, hW6⟩ : ∃ W6, W6 = (v5.alloc (.cells #[.int .i64 1] 3)).setCell ⟨g5, 3, none⟩ (.slice (some ⟨v5.heap.size, 0, none⟩) 1 1) := ⟨_, rfl⟩
  have c6 : Below w.heap.size w W6 := by rw [hW6]; exact (c5.alloc c5.size _).setCell (p := ⟨g5, 3, none⟩) (by show w.heap.size ≤ g5; omega) _
  have d6 : Below v3.heap.size v3 W6 := by rw [hW6]; exact (d5.alloc d5.size _).setCell (p := ⟨g5, 3, none⟩) (by show v3.heap.size ≤ g5; omega) _
  rw [← hW6] at CX
  have HW6 : Hid (W6 = (v5.setCell ⟨g5, 3, none⟩ (.slice (some ⟨v5.heap.size, 0, none⟩) 1 1)).alloc (.cells #[.int .i64 1] 3)) := hW6.trans (by simp [go_sem, hg5l])
  clear ba C5 c5 d5 c4 d4 hW6
  go_wp2_with fail
  rw [← HW6.out]
  refine (cross_any _).mono ?_
  rintro e a7 ⟨g7, rfl, _, C7, ba⟩
  go_wp2_with fail
  refine (cross_check g7 a7 C7).mono ?_
  rintro e v7 ⟨rfl, bb⟩
  have c7 := dbelow2 (dbelow2 c6 ba) bb
  have d7 := dbelow2 (dbelow2 d6 ba) bb
  have CX7 : Hid (Cm v7 (some ⟨g5, 0, none⟩) 6 crossX) := (CX.out.below ba (Nat.le_refl _)).below bb (Nat.le_refl _)
  clear ba bb C7 c6 d6 CX
  go_wp2_with fail
  refine (crossx_check g5 v7 CX7.out).mono ?_
  rintro e v8 ⟨rfl, ba⟩
  have c8 := dbelow2 c7 ba
  have d8 := dbelow2 d7 ba
  have hb9 : Below v8.heap.size v8 (v8.alloc (.cells #[.bool true, .bool true, .bool true, .bool true, .bool false, .bool false] 4)) := (Below.refl _ _).alloc (Nat.le_refl _) _
  have c9 := dbelow2 c8 hb9
  have d9 := dbelow2 d8 hb9
  have HA9 : Hid (Rb (v8.alloc (.cells #[.bool true, .bool true, .bool true, .bool true, .bool false, .bool false] 4)) (some ⟨k0, 0, none⟩) 6 [true, true, true, true, false, false]) := HA3.out.below d9 (Nat.le_refl _)
  have HN9 : Hid (Rb (v8.alloc (.cells #[.bool true, .bool true, .bool true, .bool true, .bool false, .bool false] 4)) (some ⟨v8.heap.size, 0, none⟩) 6 [true, true, true, true, false, false]) := by
    refine ⟨rfl, Or.inr ⟨v8.heap.size, 0, rfl, by simp, fun i hi => ?_⟩⟩
    match i, hi with
    | 0, _ => simp [go_sem]
    | 1, _ => simp [go_sem]
    | 2, _ => simp [go_sem]
    | 3, _ => simp [go_sem]
    | 4, _ => simp [go_sem]
    | 5, _ => simp [go_sem]
  clear ba c7 d7 c8 d8 hb9 HA3
  go_wp2_with fail
  refine (bsame_any _ _ 6 6 6 _ _ HA9.out HN9.out (by omega)).mono ?_
  rintro e v9 ⟨rfl, ba⟩
  have hb10 : Below v9.heap.size v9 (v9.alloc (.cells #[.int .i64 1, .int .i64 2] 3)) := (Below.refl _ _).alloc (Nat.le_refl _) _
  have c10 := dbelow2 (dbelow2 c9 ba) hb10
  have d10 := dbelow2 (dbelow2 d9 ba) hb10
  have HB10 : Hid (Ri (v9.alloc (.cells #[.int .i64 1, .int .i64 2] 3)) p1 2 [1, 2]) := HB3.out.below d10 (Nat.le_refl _)
  have HN10 : Hid (Ri (v9.alloc (.cells #[.int .i64 1, .int .i64 2] 3)) (some ⟨v9.heap.size, 0, none⟩) 2 [1, 2]) := ⟨rfl, Or.inr ⟨v9.heap.size, 0, rfl, by simp, ri_two v9 1 2⟩⟩
  clear ba c9 d9 hb10 HB3 HA9 HN9
  go_wp2_with fail
  refine (isame_any _ _ 2 2 _ _ _ _ _ HB10.out HN10.out (by omega)).mono ?_
  rintro e v10 ⟨rfl, ba⟩
  have hb11 : Below v10.heap.size v10 (v10.alloc (.cells #[.int .i64 1] 3)) := (Below.refl _ _).alloc (Nat.le_refl _) _
  have c11 := dbelow2 (dbelow2 c10 ba) hb11
  have d11 := dbelow2 (dbelow2 d10 ba) hb11
  have HC11 : Hid (Ri (v10.alloc (.cells #[.int .i64 1] 3)) p2 1 [1]) := HC3.out.below d11 (Nat.le_refl _)
  have HN11 : Hid (Ri (v10.alloc (.cells #[.int .i64 1] 3)) (some ⟨v10.heap.size, 0, none⟩) 1 [1]) := ⟨rfl, Or.inr ⟨v10.heap.size, 0, rfl, by simp, ri_one v10 1⟩⟩
  clear ba c10 d10 hb11 HB10 HN10 HC3
  go_wp2_with fail
  refine (isame_any _ _ 1 1 _ _ _ _ _ HC11.out HN11.out (by omega)).mono ?_
  rintro e v11 ⟨rfl, ba⟩
  have c12 := dbelow2 c11 ba
  go_wp2
  go_ret
  exact ⟨rfl, c12⟩
end Go.Proofs.Ytcgpgflnihjpiad
