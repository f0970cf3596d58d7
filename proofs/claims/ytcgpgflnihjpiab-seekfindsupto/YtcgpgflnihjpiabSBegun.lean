/- seekBegun, and the walks of the laws SeekFinds and SeekRanges. -/
import Derived.Test.YtcgpgflnihjpiabRSeek
import Derived.Test.YtcgpgflnihjpiabTwelve
namespace Go.Proofs.Ytcgpgflnihjpiab
open Go.RowKit

theorem seek12 : (seekV T12 9 = 3 ∧ seekL T12 9 = 2 ∧ seekE T12 9 = 0) ∧ (seekV T12 10 = -1 ∧ seekL T12 10 = 2 ∧ seekE T12 10 = 0) ∧ (seekV T12 34 = -1 ∧ seekL T12 34 = 0 ∧ seekE T12 34 = 0) ∧ (seekV T12 100 = 0 ∧ seekL T12 100 = 0 ∧ seekE T12 100 = 3) := by decide
theorem range12 : (rangeE T12 4 12 = 0 ∧ rangeV T12 4 12 = [(6, 2), (9, 3), (12, 4)]) ∧ (rangeE T12 5 4 = 3 ∧ rangeV T12 5 4 = []) := by decide

theorem find_12 (b0 o0 c0 : Nat) (w : World) (ht : TvS w (some ⟨b0, o0, none⟩) 2 c0 T12) (key v l e : Int) (h1 : seekV T12 key = v) (h2 : seekL T12 key = l) (h3 : seekE T12 key = e) :
    Calls Try.prog 22 #[.slice (some ⟨b0, o0, none⟩) 2 c0, .int .i64 key] w fun x w' => x = .returned (.tuple #[.int .i64 v, .int .i64 l, .int .i64 e]) ∧ Below w.heap.size w w' := by
  have := seekF_any _ _ _ T12 key w ht big12
  rwa [h1, h2, h3] at this
theorem range_12 (b0 o0 c0 : Nat) (w : World) (ht : TvS w (some ⟨b0, o0, none⟩) 2 c0 T12) :
    Calls Try.prog 25 #[.slice (some ⟨b0, o0, none⟩) 2 c0, .int .i64 4, .int .i64 12] w fun x w' => ∃ xb xo xc, x = .returned (.tuple #[.slice (some ⟨xb, xo, none⟩) 3 xc, .int .i64 0]) ∧ xb < w'.heap.size ∧ w'.cell? ⟨xb, xo, none⟩ = some (.int .i64 6) ∧ Below w.heap.size w w' := by
  refine (seekR_any _ _ _ T12 4 12 w ht big12).mono ?_
  rintro e w' ⟨v, rfl, ho, hb⟩
  rw [range12.1.2] at ho
  rw [range12.1.1]
  obtain ⟨a, c, rfl, hs⟩ := Own.sl ho
  rcases hs.1.cases with ⟨e, _⟩ | ⟨xb, xo, rfl, _, _, hxB, hxc⟩
  · simp at e
  · exact ⟨xb, xo, c, rfl, hxB, by have := (hxc 0 (by simp)).1; simpa using this, hb⟩
theorem range_no (b0 o0 c0 : Nat) (w : World) (ht : TvS w (some ⟨b0, o0, none⟩) 2 c0 T12) :
    Calls Try.prog 25 #[.slice (some ⟨b0, o0, none⟩) 2 c0, .int .i64 5, .int .i64 4] w fun x w' => ∃ v, x = .returned (.tuple #[v, .int .i64 3]) ∧ Below w.heap.size w w' := by
  refine (seekR_any _ _ _ T12 5 4 w ht big12).mono ?_
  rintro e w' ⟨v, rfl, ho, hb⟩
  rw [range12.2.1]
  exact ⟨v, rfl, hb⟩

set_option maxHeartbeats 8000000 in
theorem sbegun_any (w : World) : Calls Try.prog 24 #[] w fun e w' => e = .returned (.bool true) ∧ Below w.heap.size w w' := by
  go_enter Try.func24, Try.ntmps24
  go_wp2_with fail
  refine (many_any _).mono ?_
  rintro e w1 ⟨a, cap, rfl, s1, b1⟩
  have S1 : Aside (Sl w1 a 12 cap (manyTo 12)) := s1
  clear s1
  go_wp2_with fail
  refine (build_many _ _ _ S1.out).mono ?_
  rintro e w2 ⟨b0, o0, c0, rfl, t2, b2⟩
  have HT2 : Aside (TvS w2 (some ⟨b0, o0, none⟩) 2 c0 T12) := t2
  have q2 := below2 b1 b2
  clear b1 b2 S1 t2
  go_wp2_with fail
  refine (find_12 _ _ _ _ HT2.out 9 3 2 0 seek12.1.1 seek12.1.2.1 seek12.1.2.2).mono ?_
  rintro e w3 ⟨rfl, b3⟩
  have HT3 : Aside (TvS w3 (some ⟨b0, o0, none⟩) 2 c0 T12) := HT2.out.below b3
  have q3 := below2 q2 b3
  clear q2 b3 HT2
  go_wp2_with fail
  refine (find_12 _ _ _ _ HT3.out 10 (-1) 2 0 seek12.2.1.1 seek12.2.1.2.1 seek12.2.1.2.2).mono ?_
  rintro e w4 ⟨rfl, b4⟩
  have HT4 : Aside (TvS w4 (some ⟨b0, o0, none⟩) 2 c0 T12) := HT3.out.below b4
  have q4 := below2 q3 b4
  clear q3 b4 HT3
  go_wp2_with fail
  refine (find_12 _ _ _ _ HT4.out 34 (-1) 0 0 seek12.2.2.1.1 seek12.2.2.1.2.1 seek12.2.2.1.2.2).mono ?_
  rintro e w5 ⟨rfl, b5⟩
  have HT5 : Aside (TvS w5 (some ⟨b0, o0, none⟩) 2 c0 T12) := HT4.out.below b5
  have q5 := below2 q4 b5
  clear q4 b5 HT4
  go_wp2_with fail
  refine (range_12 _ _ _ _ HT5.out).mono ?_
  rintro e w6 ⟨xb, xo, xc, rfl, hxB, hx6, b6⟩
  have HT6 : Aside (TvS w6 (some ⟨b0, o0, none⟩) 2 c0 T12) := HT5.out.below b6
  have q6 := below2 q5 b6
  clear q5 b6 HT5
  go_wp2_with fail
  refine (find_12 _ _ _ _ HT6.out 100 0 0 3 seek12.2.2.2.1 seek12.2.2.2.2.1 seek12.2.2.2.2.2).mono ?_
  rintro e w7 ⟨rfl, b7⟩
  have HT7 : Aside (TvS w7 (some ⟨b0, o0, none⟩) 2 c0 T12) := HT6.out.below b7
  have hx7 : w7.cell? ⟨xb, xo, none⟩ = some (.int .i64 6) := (b7.cell (p := ⟨xb, xo, none⟩) hxB).trans hx6
  have hxB7 : xb < w7.heap.size := Nat.lt_of_lt_of_le hxB b7.size
  have q7 := below2 q6 b7
  clear q6 b7 HT6 hx6 hxB
  go_wp2_with fail
  refine (range_no _ _ _ _ HT7.out).mono ?_
  rintro e w8 ⟨v8, rfl, b8⟩
  have hx8 : w8.cell? ⟨xb, xo, none⟩ = some (.int .i64 6) := (b8.cell (p := ⟨xb, xo, none⟩) hxB7).trans hx7
  have q8 := below2 q7 b8
  clear q7 b8 HT7 hx7 hxB7
  go_wp2
  go_ret
  exact ⟨rfl, q8⟩

set_option maxHeartbeats 2000000 in
theorem finds_walk (a : Option Addr) (n cap : Nat) (T : List (List (List (Int × Int)))) (key : Int) (w : World) (hT : TvS w a n cap T) (hbig : Big T) (hfl : (flat T).length ≤ 900000) :
    Calls Try.prog 6 #[.slice a n cap, .int .i64 key] w fun e w' => e = .returned (.bool true) ∧ Below w.heap.size w w' := by
  have HT : Aside (TvS w a n cap T) := hT
  obtain ⟨v, hv⟩ : ∃ v, v = seekV T key := ⟨_, rfl⟩
  obtain ⟨l, hl⟩ : ∃ l, l = seekL T key := ⟨_, rfl⟩
  obtain ⟨e0, he⟩ : ∃ e0, e0 = seekE T key := ⟨_, rfl⟩
  have H1 : Aside (∀ W, Below w.heap.size w W → Calls Try.prog 22 #[.slice a n cap, .int .i64 key] W fun e w' => e = .returned (.tuple #[.int .i64 v, .int .i64 l, .int .i64 e0]) ∧ Below W.heap.size W w') := fun W hb => by rw [hv, hl, he]; exact seekF_any a n cap T key W (HT.out.below hb) hbig
  have H2 : Aside (∀ W, Below w.heap.size w W → Calls Try.prog 23 #[.slice a n cap, .int .i64 key] W fun e w' => e = .returned (.tuple #[.int .i64 v, .int .i64 l, .int .i64 e0]) ∧ Below W.heap.size W w') := fun W hb => by rw [hv, hl, he]; exact seekOf_any a n cap T key W (HT.out.below hb) hfl
  clear hT hbig hfl hv hl he
  go_enter Try.func6, Try.ntmps6
  go_wp2_with fail
  refine (H1.out _ (Below.refl _ _)).mono ?_
  rintro e w1 ⟨rfl, b1⟩
  go_wp2_with fail
  refine (H2.out _ b1).mono ?_
  rintro e w2 ⟨rfl, b2⟩
  have q2 := below2 b1 b2
  go_wp2_with fail
  refine (sbegun_any _).mono ?_
  rintro e w3 ⟨rfl, b3⟩
  have q3 := below2 q2 b3
  go_wp2
  go_ret
  exact ⟨rfl, q3⟩

set_option maxHeartbeats 2000000 in
theorem ranges_walk (a : Option Addr) (n cap : Nat) (T : List (List (List (Int × Int)))) (lo hi : Int) (w : World) (hT : TvS w a n cap T) (hbig : Big T) (hfl : (flat T).length ≤ 900000) :
    Calls Try.prog 7 #[.slice a n cap, .int .i64 lo, .int .i64 hi] w fun e w' => e = .returned (.bool true) ∧ Below w.heap.size w w' := by
  have HT : Aside (TvS w a n cap T) := hT
  obtain ⟨l, hl⟩ : ∃ l, l = rangeV T lo hi := ⟨_, rfl⟩
  obtain ⟨L, hL⟩ : ∃ L, L = l.length := ⟨_, rfl⟩
  obtain ⟨e0, he⟩ : ∃ e0, e0 = rangeE T lo hi := ⟨_, rfl⟩
  have hL9 : L ≤ 900000 := by
    rw [hL, hl]
    unfold rangeV
    split
    · exact Nat.le_trans (M.filt_len _ _ _) hfl
    · simp
  have H1 : Aside (∀ W, Below w.heap.size w W → Calls Try.prog 25 #[.slice a n cap, .int .i64 lo, .int .i64 hi] W fun e w' => ∃ xa xc, e = .returned (.tuple #[.slice xa L xc, .int .i64 e0]) ∧ Aside (Sl w' xa L xc l) ∧ Below W.heap.size W w') := fun W hb => by
    refine (seekR_any a n cap T lo hi W (HT.out.below hb) hbig).mono ?_
    rintro e w' ⟨v, rfl, ho, hb2⟩
    obtain ⟨xa, xc, rfl, hs⟩ := Own.sl ho
    rw [← hl, ← hL] at hs ⊢
    rw [he]
    exact ⟨xa, xc, rfl, hs, hb2⟩
  have H2 : Aside (∀ W, Below w.heap.size w W → Calls Try.prog 26 #[.slice a n cap, .int .i64 lo, .int .i64 hi] W fun e w' => ∃ xa xc, e = .returned (.tuple #[.slice xa L xc, .int .i64 e0]) ∧ Aside (Sl w' xa L xc l) ∧ Below W.heap.size W w') := fun W hb => by
    refine (rangeOf_any a n cap T lo hi W (HT.out.below hb) hfl).mono ?_
    rintro e w' ⟨v, rfl, ho, hb2⟩
    obtain ⟨xa, xc, rfl, hs⟩ := Own.sl ho
    rw [← hl, ← hL] at hs ⊢
    rw [he]
    exact ⟨xa, xc, rfl, hs, hb2⟩
  clear hT hbig hfl hl hL he
  go_enter Try.func7, Try.ntmps7
  go_wp2_with fail
  refine (H1.out _ (Below.refl _ _)).mono ?_
  rintro e w1 ⟨xa, xc, rfl, HX1, b1⟩
  go_wp2_with fail
  refine (H2.out _ b1).mono ?_
  rintro e w2 ⟨ya, yc, rfl, HY2, b2⟩
  have HX2 : Aside (Sl w2 xa L xc l) := HX1.out.below b2
  have q2 := below2 b1 b2
  clear HX1 b1 b2
  go_wp2_with fail
  refine (sbegun_any _).mono ?_
  rintro e w3 ⟨rfl, b3⟩
  have HX3 : Aside (Sl w3 xa L xc l) := HX2.out.below b3
  have HY3 : Aside (Sl w3 ya L yc l) := HY2.out.below b3
  have q3 := below2 q2 b3
  clear HX2 HY2 q2 b3
  go_wp2_with fail
  refine (same_any xa ya L L xc yc l l w3 HX3.out.1 HY3.out.1 (by omega)).mono ?_
  rintro e w4 ⟨rfl, b4⟩
  have q4 := below2 q3 b4
  have hll : decide (l = l) = true := by simp
  go_wp2
  go_ret
  exact ⟨rfl, q4⟩
end Go.Proofs.Ytcgpgflnihjpiab
