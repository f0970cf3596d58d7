/- editBegun, and the walk of the law EditPuts. -/
import Derived.Test.YtcgpgflnihjpiacTRows
import Derived.Test.YtcgpgflnihjpiacREdit
import Derived.Test.YtcgpgflnihjpiacTwelve
namespace Go.Proofs.Ytcgpgflnihjpiac
open Go.RowKit

def L13 : List (Int × Int) := M.put 10 500 (manyTo 12)
theorem edit12 : M.chk L13 = 0 ∧ eputE T12 10 500 = 0 ∧ L13.length = 13 ∧ M.putE L13 10 (-1) = 0 ∧ M.put 10 (-1) L13 = manyTo 12 ∧ eputE T12 10 997 = 3 := by decide
theorem edit12V : eputV T12 10 500 = M.build L13 := by unfold eputV; rw [if_pos edit12.2.1, flat12]; rfl
theorem tree13 : treeE (M.build L13) = 0 := build_tree L13 edit12.1
theorem big13 : Big (M.build L13) := build_big L13 edit12.1
theorem flat13 : flat (M.build L13) = L13 := (build_like L13 edit12.1).1
theorem edit13E : eputE (M.build L13) 10 (-1) = 0 := by unfold eputE; rw [tree13, if_neg (by omega), flat13]; exact edit12.2.2.2.1
theorem edit13V : eputV (M.build L13) 10 (-1) = T12 := by unfold eputV; rw [if_pos edit13E, flat13, edit12.2.2.2.2.1, build12]
def E3 : List (Int × Int) := [(5, 1), (5, 2), (6, -1)]
theorem edits3 : M.editsE [] E3 = 0 ∧ M.editsV [] E3 = [(5, 2)] ∧ M.chk [(5, 2)] = 0 := by decide
theorem tv_nil (w : World) : TvS w none 0 0 [] := ⟨⟨rfl, Or.inl rfl⟩, Nat.le_refl _, by simp [maxLen], fun _ => ⟨rfl, rfl⟩⟩
theorem ch_three (w : World) : Ch (w.alloc (.cells #[.int .i64 5, .int .i64 0, .int .i64 1, .int .i64 5, .int .i64 0, .int .i64 2, .int .i64 6, .int .i64 0, .int .i64 (-1)] 50)) (some ⟨w.heap.size, 0, none⟩) 3 E3 := by
  refine ⟨rfl, Or.inr ⟨w.heap.size, 0, rfl, by simp, fun i hi => ?_⟩⟩
  rcases (show i = 0 ∨ i = 1 ∨ i = 2 by omega) with rfl | rfl | rfl
  · exact ⟨by simp [go_sem, E3], ⟨0, by simp [go_sem]⟩, by simp [go_sem, E3]⟩
  · exact ⟨by simp [go_sem, E3], ⟨0, by simp [go_sem]⟩, by simp [go_sem, E3]⟩
  · exact ⟨by simp [go_sem, E3], ⟨0, by simp [go_sem]⟩, by simp [go_sem, E3]⟩

theorem put_12 (b0 o0 c0 : Nat) (w : World) (ht : TvS w (some ⟨b0, o0, none⟩) 2 c0 T12) :
    Calls Try.prog 9 #[.slice (some ⟨b0, o0, none⟩) 2 c0, .int .i64 10, .int .i64 500] w fun e w' => ∃ xa xn xc, e = .returned (.tuple #[.slice xa xn xc, .int .i64 0]) ∧ Aside (TvS w' xa xn xc (M.build L13)) ∧ Below w.heap.size w w' := by
  refine (eput_any _ _ _ T12 10 500 w ht big12).mono ?_
  rintro e w' ⟨v, rfl, ho, hb⟩
  rw [edit12V] at ho
  rw [edit12.2.1]
  obtain ⟨xa, xn, xc, rfl, h⟩ := ho.tv
  exact ⟨xa, xn, xc, rfl, h, hb⟩
theorem put_no (b0 o0 c0 : Nat) (w : World) (ht : TvS w (some ⟨b0, o0, none⟩) 2 c0 T12) :
    Calls Try.prog 9 #[.slice (some ⟨b0, o0, none⟩) 2 c0, .int .i64 10, .int .i64 997] w fun e w' => ∃ v, e = .returned (.tuple #[v, .int .i64 3]) ∧ Below w.heap.size w w' := by
  refine (eput_any _ _ _ T12 10 997 w ht big12).mono ?_
  rintro e w' ⟨v, rfl, ho, hb⟩
  rw [edit12.2.2.2.2.2]
  exact ⟨v, rfl, hb⟩
theorem put_13 (xa : Option Addr) (xn xc : Nat) (w : World) (ht : TvS w xa xn xc (M.build L13)) :
    Calls Try.prog 9 #[.slice xa xn xc, .int .i64 10, .int .i64 (-1)] w fun e w' => ∃ ya yn yc, e = .returned (.tuple #[.slice ya yn yc, .int .i64 0]) ∧ Aside (TvS w' ya yn yc T12) ∧ Below w.heap.size w w' := by
  refine (eput_any _ _ _ (M.build L13) 10 (-1) w ht big13).mono ?_
  rintro e w' ⟨v, rfl, ho, hb⟩
  rw [edit13V] at ho
  rw [edit13E]
  obtain ⟨ya, yn, yc, rfl, h⟩ := ho.tv
  exact ⟨ya, yn, yc, rfl, h, hb⟩
theorem all_3 (b : Nat) (w : World) (h : Ch w (some ⟨b, 0, none⟩) 3 E3) :
    Calls Try.prog 13 #[.slice none 0 0, .slice (some ⟨b, 0, none⟩) 3 3] w fun e w' => ∃ ya yn yc, e = .returned (.tuple #[.slice ya yn yc, .int .i64 0]) ∧ Aside (TvS w' ya yn yc (M.build [(5, 2)])) ∧ Below w.heap.size w w' := by
  refine (eall_few none 0 0 [] (some ⟨b, 0, none⟩) 3 3 E3 w (tv_nil w) (by intro c hc; simp [ground] at hc) h (by omega) rfl edits3.1).mono ?_
  rintro e w' ⟨v, rfl, ho, hb⟩
  have e : M.editsV (flat []) E3 = [(5, 2)] := edits3.2.1
  rw [e] at ho
  obtain ⟨ya, yn, yc, rfl, h⟩ := ho.tv
  exact ⟨ya, yn, yc, rfl, h, hb⟩
theorem rows_of (l : List (Int × Int)) (hl : M.chk l = 0) (xa : Option Addr) (xn xc : Nat) (w : World) (ht : TvS w xa xn xc (M.build l)) :
    Calls Try.prog 34 #[.slice xa xn xc] w fun e w' => ∃ ya yc, e = .returned (.tuple #[.slice ya l.length yc, .int .i64 0]) ∧ Aside (Sl w' ya l.length yc l) ∧ Below w.heap.size w w' := by
  refine (trows_ok _ _ _ (M.build l) w ht (build_big l hl) (build_tree l hl)).mono ?_
  rintro e w' ⟨v, rfl, ho, hb⟩
  rw [(build_like l hl).1] at ho
  obtain ⟨ya, yc, rfl, hs⟩ := Own.sl ho
  exact ⟨ya, yc, rfl, hs, hb⟩

set_option maxRecDepth 100000 in
set_option maxHeartbeats 8000000 in
theorem ebegun_any (w : World) : Calls Try.prog 11 #[] w fun e w' => e = .returned (.bool true) ∧ Below w.heap.size w w' := by
  have R13 := rows_of L13 edit12.1
  rw [edit12.2.2.1] at R13
  have HR13 : Aside (∀ (xa : Option Addr) (xn xc : Nat) (w : World), TvS w xa xn xc (M.build L13) → Calls Try.prog 34 #[.slice xa xn xc] w fun e w' => ∃ ya yc, e = .returned (.tuple #[.slice ya 13 yc, .int .i64 0]) ∧ Aside (Sl w' ya 13 yc L13) ∧ Below w.heap.size w w') := R13
  clear R13
  go_enter Try.func11, Try.ntmps11
  go_wp2_with fail
  refine (many_any _).mono ?_
  rintro e w1 ⟨a, cap, rfl, s1, b1⟩
  have S1 : Aside (Sl w1 a 12 cap (manyTo 12)) := s1
  clear s1
  go_wp2_with fail
  refine (build_many _ _ _ S1.out).mono ?_
  rintro e w2 ⟨b0, o0, c0, rfl, t2, b2⟩
  have HT2 : Aside (TvS w2 (some ⟨b0, o0, none⟩) 2 c0 T12) := t2
  have q2 := below2 b1 b2
  clear b1 b2 S1 t2
  go_wp2_with fail
  refine (put_12 _ _ _ _ HT2.out).mono ?_
  rintro e w3 ⟨xa, xn, xc, rfl, HA3, b3⟩
  have HT3 : Aside (TvS w3 (some ⟨b0, o0, none⟩) 2 c0 T12) := HT2.out.below b3
  have q3 := below2 q2 b3
  clear q2 b3 HT2
  go_wp2_with fail
  refine (put_13 _ _ _ _ HA3.out).mono ?_
  rintro e w4 ⟨ya, yn, yc, rfl, HB4, b4⟩
  have HT4 : Aside (TvS w4 (some ⟨b0, o0, none⟩) 2 c0 T12) := HT3.out.below b4
  have HA4 : Aside (TvS w4 xa xn xc (M.build L13)) := HA3.out.below b4
  have q4 := below2 q3 b4
  clear q3 b4 HT3 HA3
  have hb5 : Below w4.heap.size w4 (w4.alloc (.cells #[.int .i64 5, .int .i64 0, .int .i64 1, .int .i64 5, .int .i64 0, .int .i64 2, .int .i64 6, .int .i64 0, .int .i64 (-1)] 50)) := (Below.refl _ _).alloc (Nat.le_refl _) _
  have HCh : Aside (Ch (w4.alloc (.cells #[.int .i64 5, .int .i64 0, .int .i64 1, .int .i64 5, .int .i64 0, .int .i64 2, .int .i64 6, .int .i64 0, .int .i64 (-1)] 50)) (some ⟨w4.heap.size, 0, none⟩) 3 E3) := ch_three w4
  go_wp2_with fail
  refine (all_3 _ _ HCh.out).mono ?_
  rintro e w5 ⟨za, zn, zc, rfl, HC5, b5⟩
  have b45 := hb5.trans (b5.mono hb5.size)
  have HT5 : Aside (TvS w5 (some ⟨b0, o0, none⟩) 2 c0 T12) := HT4.out.below b45
  have HA5 : Aside (TvS w5 xa xn xc (M.build L13)) := HA4.out.below b45
  have HB5 : Aside (TvS w5 ya yn yc T12) := HB4.out.below b45
  have q5 := below2 q4 b45
  clear q4 b45 b5 hb5 HCh HT4 HA4 HB4
  go_wp2_with fail
  refine (put_no _ _ _ _ HT5.out).mono ?_
  rintro e w6 ⟨v6, rfl, b6⟩
  have HT6 : Aside (TvS w6 (some ⟨b0, o0, none⟩) 2 c0 T12) := HT5.out.below b6
  have HA6 : Aside (TvS w6 xa xn xc (M.build L13)) := HA5.out.below b6
  have HB6 : Aside (TvS w6 ya yn yc T12) := HB5.out.below b6
  have HC6 : Aside (TvS w6 za zn zc (M.build [(5, 2)])) := HC5.out.below b6
  have q6 := below2 q5 b6
  clear q5 b6 HT5 HA5 HB5 HC5
  go_wp2_with fail
  refine (HR13.out _ _ _ _ HA6.out).mono ?_
  rintro e w7 ⟨la, lc, rfl, _, b7⟩
  have HT7 : Aside (TvS w7 (some ⟨b0, o0, none⟩) 2 c0 T12) := HT6.out.below b7
  have HB7 : Aside (TvS w7 ya yn yc T12) := HB6.out.below b7
  have HC7 : Aside (TvS w7 za zn zc (M.build [(5, 2)])) := HC6.out.below b7
  have q7 := below2 q6 b7
  clear q6 b7 HT6 HA6 HB6 HC6
  go_wp2_with fail
  refine (rows_of [(5, 2)] edits3.2.2 _ _ _ _ HC7.out).mono ?_
  rintro e w8 ⟨ma, mc, rfl, HM8, b8⟩
  have HT8 : Aside (TvS w8 (some ⟨b0, o0, none⟩) 2 c0 T12) := HT7.out.below b8
  have HB8 : Aside (TvS w8 ya yn yc T12) := HB7.out.below b8
  have q8 := below2 q7 b8
  clear q7 b8 HT7 HB7 HC7
  go_wp2_with fail
  refine (tsame_any ya (some ⟨b0, o0, none⟩) yn 2 yc c0 T12 T12 w8 HB8.out.1 HT8.out.1 HB8.out.len).mono ?_
  rintro e w9 ⟨rfl, b9⟩
  have HM9 : Aside (Sl w9 ma 1 mc [(5, 2)]) := HM8.out.below b9
  have q9 := below2 q8 b9
  have hTT : decide (T12 = T12) = true := by simp
  clear q8 b9 HT8 HB8 HM8
  have hb10 : Below w9.heap.size w9 (w9.alloc (.cells #[.int .i64 5, .int .i64 2] 56)) := (Below.refl _ _).alloc (Nat.le_refl _) _
  go_wp2_with fail
  refine (same_any ma (some ⟨w9.heap.size, 0, none⟩) 1 1 mc 1 [(5, 2)] [(5, 2)] _ (HM9.out.below hb10).1 (one_rd w9 5 2) (by omega)).mono ?_
  rintro e w11 ⟨rfl, b11⟩
  have q11 := below2 q9 (hb10.trans (b11.mono hb10.size))
  have hmm : decide (([(5, 2)] : List (Int × Int)) = [(5, 2)]) = true := by simp
  go_wp2
  go_ret
  exact ⟨rfl, q11⟩

set_option maxHeartbeats 2000000 in
theorem puts_walk (a : Option Addr) (n cap : Nat) (T : List (List (List (Int × Int)))) (key val : Int) (w : World) (hT : TvS w a n cap T) (hbig : Big T) (hfl : (flat T).length ≤ 900000) :
    Calls Try.prog 3 #[.slice a n cap, .int .i64 key, .int .i64 val] w fun e w' => e = .returned (.bool true) ∧ Below w.heap.size w w' := by
  have HT : Aside (TvS w a n cap T) := hT
  obtain ⟨R, hR⟩ : ∃ R, R = eputV T key val := ⟨_, rfl⟩
  obtain ⟨e0, he⟩ : ∃ e0, e0 = eputE T key val := ⟨_, rfl⟩
  have H1 : Aside (∀ W, Below w.heap.size w W → Calls Try.prog 9 #[.slice a n cap, .int .i64 key, .int .i64 val] W fun e w' => ∃ xa xn xc, e = .returned (.tuple #[.slice xa xn xc, .int .i64 e0]) ∧ Aside (TvS w' xa xn xc R) ∧ Below W.heap.size W w') := fun W hb => by
    refine (eput_any a n cap T key val W (HT.out.below hb) hbig).mono ?_
    rintro e w' ⟨v, rfl, ho, hb2⟩
    obtain ⟨xa, xn, xc, rfl, hs⟩ := ho.tv
    rw [he, hR]
    exact ⟨xa, xn, xc, rfl, hs, hb2⟩
  have H2 : Aside (∀ W, Below w.heap.size w W → Calls Try.prog 10 #[.slice a n cap, .int .i64 key, .int .i64 val] W fun e w' => ∃ xa xn xc, e = .returned (.tuple #[.slice xa xn xc, .int .i64 e0]) ∧ Aside (TvS w' xa xn xc R) ∧ Below W.heap.size W w') := fun W hb => by
    refine (editOf_any a n cap T key val W (HT.out.below hb) hfl).mono ?_
    rintro e w' ⟨v, rfl, ho, hb2⟩
    obtain ⟨xa, xn, xc, rfl, hs⟩ := ho.tv
    rw [he, hR]
    exact ⟨xa, xn, xc, rfl, hs, hb2⟩
  clear hT hbig hfl hR he
  go_enter Try.func3, Try.ntmps3
  go_wp2_with fail
  refine (H1.out _ (Below.refl _ _)).mono ?_
  rintro e w1 ⟨xa, xn, xc, rfl, HX1, b1⟩
  go_wp2_with fail
  refine (H2.out _ b1).mono ?_
  rintro e w2 ⟨ya, yn, yc, rfl, HY2, b2⟩
  have HX2 : Aside (TvS w2 xa xn xc R) := HX1.out.below b2
  have q2 := below2 b1 b2
  clear HX1 b1 b2
  go_wp2_with fail
  refine (ebegun_any _).mono ?_
  rintro e w3 ⟨rfl, b3⟩
  have HX3 : Aside (TvS w3 xa xn xc R) := HX2.out.below b3
  have HY3 : Aside (TvS w3 ya yn yc R) := HY2.out.below b3
  have q3 := below2 q2 b3
  clear HX2 HY2 q2 b3
  go_wp2_with fail
  refine (tsame_any xa ya xn yn xc yc R R w3 HX3.out.1 HY3.out.1 HX3.out.len).mono ?_
  rintro e w4 ⟨rfl, b4⟩
  have q4 := below2 q3 b4
  have hll : decide (R = R) = true := by simp
  go_wp2
  go_ret
  exact ⟨rfl, q4⟩
end Go.Proofs.Ytcgpgflnihjpiac
