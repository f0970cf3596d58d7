/- treeBegun. -/
import Derived.Test.YtcgpgflnihjpiabPoke
import Derived.Test.YtcgpgflnihjpiabTwelve
namespace Go.Proofs.Ytcgpgflnihjpiab
open Go.RowKit

def X12 : List (List (List (Int × Int))) := [[[(0, 9), (3, 1), (6, 2), (9, 3)], [(12, 4), (15, 5), (18, 6)], [(21, 7), (24, 8), (27, 9)], [(30, 10), (33, 11)]], [[(9, 814), (18, 251), (27, 984), (33, 79)]]]
theorem treeX : treeE X12 = 1 := by decide
theorem top12 : M.sumV (top T12) = 668 ∧ M.chk (top T12) = 0 := by decide
theorem bigX : Big X12 := by unfold Big ground X12; simp
theorem small12 : Small T12 := by unfold Small T12; simp

theorem root_many (b0 o0 c0 : Nat) (w : World) (ht : TvS w (some ⟨b0, o0, none⟩) 2 c0 T12) : Calls Try.prog 14 #[.slice (some ⟨b0, o0, none⟩) 2 c0] w fun e w' => e = .returned (.tuple #[.int .i64 668, .int .i64 0]) ∧ Below w.heap.size w w' := by
  have := root_some _ _ _ T12 w ht big12 tree12 (by omega) (by omega) (by decide)
  rwa [top12.1, top12.2] at this
theorem tcheck_x (b0 o0 c0 : Nat) (w : World) (ht : TvS w (some ⟨b0, o0, none⟩) 2 c0 X12) : Calls Try.prog 18 #[.slice (some ⟨b0, o0, none⟩) 2 c0] w fun e w' => e = .returned (.int .i64 1) ∧ Below w.heap.size w w' := by
  have := tcheck_any _ _ _ X12 w ht bigX
  rwa [treeX] at this
theorem own_many (b0 o0 c0 : Nat) (w : World) (ht : TvS w (some ⟨b0, o0, none⟩) 2 c0 T12) : Calls Try.prog 34 #[.slice (some ⟨b0, o0, none⟩) 2 c0] w fun e w' => ∃ b0 c0 b1 c1 p c2, e = .returned (.slice (some ⟨b0, 0, none⟩) 2 c0) ∧ w'.cell? ⟨b0, 0, none⟩ = some (.slice (some ⟨b1, 0, none⟩) 4 c1) ∧ w'.cell? ⟨b1, 0, none⟩ = some (.slice (some ⟨p, 0, none⟩) 4 c2) ∧
      w'.cell? ⟨p, 1, none⟩ = some (.int .i64 0) ∧ w'.frozen? ⟨p, 1, none⟩ = false ∧ w.heap.size ≤ p ∧ Aside (TvS (w'.setCell ⟨p, 1, none⟩ (.int .i64 9)) (some ⟨b0, 0, none⟩) 2 c0 X12) ∧ Below w.heap.size w w' := by
  refine (ownTree_some _ _ _ _ T12 w (by omega) (by omega) ht small12).mono ?_
  rintro e w' ⟨v, rfl, ho, hb⟩
  obtain ⟨b0, c0, b1, c1, p, c2, rfl, h1, h2, h3, h4, h5, h6⟩ := OwnT.poke ho (by simp) (by simp)
  exact ⟨b0, c0, b1, c1, p, c2, rfl, h1, h2, h3, h4, h5, h6, hb⟩
set_option maxHeartbeats 8000000 in
theorem tbegun_any (w : World) : Calls Try.prog 11 #[] w fun e w' => e = .returned (.bool true) ∧ Below w.heap.size w w' := by
  go_enter Try.func11, Try.ntmps11
  go_wp2_with fail
  refine (many_any _).mono ?_
  rintro e w1 ⟨a, cap, rfl, s1, b1⟩
  have S1 : Aside (Sl w1 a 12 cap (manyTo 12)) := s1
  clear s1
  go_wp2_with fail
  refine (build_many _ _ _ S1.out).mono ?_
  rintro e w2 ⟨b0, o0, c0, rfl, t2, b2⟩
  have HT2 : Aside (TvS w2 (some ⟨b0, o0, none⟩) 2 c0 T12) := t2
  have q2 := below2 b1 b2
  clear b1 b2 S1 t2
  go_wp2_with fail
  refine (rows_many _ _ _ _ HT2.out).mono ?_
  rintro e w3 ⟨la, lc, rfl, s3, b3⟩
  have HL : Aside (Sl w3 la 12 lc (manyTo 12)) := s3
  have HT3 : Aside (TvS w3 (some ⟨b0, o0, none⟩) 2 c0 T12) := HT2.out.below b3
  have q3 := below2 q2 b3
  clear q2 b3 s3 HT2
  go_wp2_with fail
  refine (root_many _ _ _ _ HT3.out).mono ?_
  rintro e w4 ⟨rfl, b4⟩
  have HL4 : Aside (Sl w4 la 12 lc (manyTo 12)) := HL.out.below b4
  have HT4 : Aside (TvS w4 (some ⟨b0, o0, none⟩) 2 c0 T12) := HT3.out.below b4
  have q4 := below2 q3 b4
  clear q3 b4 HL HT3
  go_wp2_with fail
  refine (build_none none 0 _).mono ?_
  rintro e w5 ⟨rfl, b5⟩
  have HL5 : Aside (Sl w5 la 12 lc (manyTo 12)) := HL4.out.below b5
  have HT5 : Aside (TvS w5 (some ⟨b0, o0, none⟩) 2 c0 T12) := HT4.out.below b5
  have q5 := below2 q4 b5
  clear q4 b5 HL4 HT4
  go_wp2_with fail
  refine (root_none none 0 _ ⟨⟨rfl, Or.inl rfl⟩, Nat.le_refl _, by simp [maxLen], fun _ => ⟨rfl, rfl⟩⟩).mono ?_
  rintro e w6 ⟨rfl, b6⟩
  have HL6 : Aside (Sl w6 la 12 lc (manyTo 12)) := HL5.out.below b6
  have HT6 : Aside (TvS w6 (some ⟨b0, o0, none⟩) 2 c0 T12) := HT5.out.below b6
  have q6 := below2 q5 b6
  clear q5 b6 HL5 HT5
  go_wp2_with fail
  refine (own_many _ _ _ _ HT6.out).mono ?_
  rintro e w7 ⟨x0, d0, x1, d1, p, d2, rfl, h1, h2, h3, h4, hp, HX, b7⟩
  have b7' : Below w6.heap.size w6 (w7.setCell ⟨p, 1, none⟩ (.int .i64 9)) := b7.setCell (p := ⟨p, 1, none⟩) hp _
  have HL7 : Aside (Sl (w7.setCell ⟨p, 1, none⟩ (.int .i64 9)) la 12 lc (manyTo 12)) := HL6.out.below b7'
  have HT7 : Aside (TvS (w7.setCell ⟨p, 1, none⟩ (.int .i64 9)) (some ⟨b0, o0, none⟩) 2 c0 T12) := HT6.out.below b7'
  have q7 := below2 q6 b7'
  obtain ⟨a10, a11, c10, c11, e10, e11⟩ : ∃ a0 a1 c0' c1', (w7.setCell ⟨p, 1, none⟩ (.int .i64 9)).cell? ⟨b0, o0, none⟩ = some (.slice a0 4 c0') ∧ (w7.setCell ⟨p, 1, none⟩ (.int .i64 9)).cell? ⟨b0, o0 + 1, none⟩ = some (.slice a1 1 c1') := by
    obtain ⟨b', o', e, _, hc⟩ := HT7.out.1.at (by omega)
    obtain ⟨rfl, rfl⟩ : b0 = b' ∧ o0 = o' := by simpa using e
    obtain ⟨a0, n0, c0', k1, k2⟩ := hc 0 (by omega)
    obtain ⟨a1, n1, c1', k3, k4⟩ := hc 1 (by omega)
    obtain rfl : 4 = n0 := k2.1.1
    obtain rfl : 1 = n1 := k4.1.1
    exact ⟨a0, a1, c0', c1', k1, k3⟩
  clear q6 b7' HL6 HT6 b7
  go_wp2_with fail
  refine (many_any _).mono ?_
  rintro e w8 ⟨a8, cap8, rfl, s8, b8⟩
  have HM : Aside (Sl w8 a8 12 cap8 (manyTo 12)) := s8
  have HL8 : Aside (Sl w8 la 12 lc (manyTo 12)) := HL7.out.below b8
  have HT8 : Aside (TvS w8 (some ⟨b0, o0, none⟩) 2 c0 T12) := HT7.out.below b8
  have HX8 : Aside (TvS w8 (some ⟨x0, 0, none⟩) 2 d0 X12) := HX.out.below b8
  have q8 := below2 q7 b8
  clear q7 b8 s8 HL7 HT7 HX e10 e11 h1 h2 h3 h4
  go_wp2_with fail
  refine (same_many _ _ _ _ _ HL8.out HM.out).mono ?_
  rintro e w9 ⟨rfl, b9⟩
  have HT9 : Aside (TvS w9 (some ⟨b0, o0, none⟩) 2 c0 T12) := HT8.out.below b9
  have HX9 : Aside (TvS w9 (some ⟨x0, 0, none⟩) 2 d0 X12) := HX8.out.below b9
  have q9 := below2 q8 b9
  clear q8 b9 HM HL8 HT8 HX8
  go_wp2_with fail
  refine (tcheck_many _ _ _ _ HT9.out).mono ?_
  rintro e w10 ⟨rfl, b10⟩
  have HX10 : Aside (TvS w10 (some ⟨x0, 0, none⟩) 2 d0 X12) := HX9.out.below b10
  have q10 := below2 q9 b10
  clear q9 b10 HT9 HX9
  go_wp2_with fail
  refine (tcheck_x _ _ _ _ HX10.out).mono ?_
  rintro e w11 ⟨rfl, b11⟩
  have q11 := below2 q10 b11
  go_wp2
  go_ret
  exact ⟨rfl, q11⟩
end Go.Proofs.Ytcgpgflnihjpiab
