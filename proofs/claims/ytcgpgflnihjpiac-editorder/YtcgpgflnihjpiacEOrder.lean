/- The walk of the law EditOrder. -/
import Derived.Test.YtcgpgflnihjpiacESame
namespace Go.Proofs.Ytcgpgflnihjpiac
open Go.RowKit

theorem eorder_bad (a : Option Addr) (n cap : Nat) (l : List (Int × Int)) (p u q v : Int) (w : World) (h : Sl w a n cap l) (hb : M.chk l ≠ 0) :
    Calls Try.prog 6 #[.slice a n cap, .int .i64 p, .int .i64 u, .int .i64 q, .int .i64 v] w fun e w' => e = .returned (.bool true) ∧ Below w.heap.size w w' := by
  have H := build_bad a n cap l w h.1 h.len hb
  obtain ⟨c, hc⟩ : ∃ c, c = M.chk l := ⟨_, rfl⟩
  rw [← hc] at H hb
  have HH : Aside (Calls Try.prog 15 #[.slice a n cap] w fun e w' => e = .returned (.tuple #[.slice none 0 0, .int .i64 c]) ∧ Below w.heap.size w w') := H
  have hne : (c != 0) = true := by simp [hb]
  clear H hc hb h
  go_enter Try.func6, Try.ntmps6
  go_wp2_with fail
  refine HH.out.mono ?_
  rintro e w1 ⟨rfl, b1⟩
  go_wp2_with fail
  refine (ebegun_any _).mono ?_
  rintro e w2 ⟨rfl, b2⟩
  have q2 := below2 b1 b2
  go_wp2
  go_ret
  exact ⟨rfl, q2⟩

set_option maxHeartbeats 4000000 in
theorem eorder_short (a : Option Addr) (n cap : Nat) (l : List (Int × Int)) (p u q v : Int) (w : World) (h : Sl w a n cap l) (h0 : M.chk l = 0) (hs : M.putE l p u ≠ 0 ∨ M.putE l q v ≠ 0) :
    Calls Try.prog 6 #[.slice a n cap, .int .i64 p, .int .i64 u, .int .i64 q, .int .i64 v] w fun e w' => e = .returned (.bool true) ∧ Below w.heap.size w w' := by
  have HS : Aside (Sl w a n cap l) := h
  have HZ : Aside (M.chk l = 0) := h0
  obtain ⟨pe, hpe⟩ : ∃ pe, pe = M.putE l p u := ⟨_, rfl⟩
  obtain ⟨qe, hqe⟩ : ∃ qe, qe = M.putE l q v := ⟨_, rfl⟩
  have HP : Aside (∀ ta tn tc W, TvS W ta tn tc (M.build l) → Calls Try.prog 9 #[.slice ta tn tc, .int .i64 p, .int .i64 u] W fun e w' => ∃ xa xn xc, e = .returned (.tuple #[.slice xa xn xc, .int .i64 pe]) ∧ Aside (TvS w' xa xn xc (eV l p u)) ∧ Below W.heap.size W w') := fun ta tn tc W hT => by rw [hpe]; exact eput_built l h0 p u ta tn tc W hT
  have HQ : Aside (∀ ta tn tc W, TvS W ta tn tc (M.build l) → Calls Try.prog 9 #[.slice ta tn tc, .int .i64 q, .int .i64 v] W fun e w' => ∃ xa xn xc, e = .returned (.tuple #[.slice xa xn xc, .int .i64 qe]) ∧ Aside (TvS w' xa xn xc (eV l q v)) ∧ Below W.heap.size W w') := fun ta tn tc W hT => by rw [hqe]; exact eput_built l h0 q v ta tn tc W hT
  have Hs : (pe != 0) = true ∨ ((pe != 0) = false ∧ (qe != 0) = true) := by
    rw [← hpe, ← hqe] at hs
    by_cases k1 : pe = 0
    · exact Or.inr ⟨by simp [k1], by rcases hs with h | h <;> simp_all⟩
    · exact Or.inl (by simp [k1])
  clear h h0 hs hpe hqe
  rcases Hs with k1 | ⟨k1, k2⟩
  all_goals
    go_enter Try.func6, Try.ntmps6
    go_wp2_with fail
    refine (build_tv l HZ.out a n cap _ HS.out).mono ?_
    rintro e w1 ⟨ta, tn, tc, rfl, HT1, b1⟩
    go_wp2_with fail
    refine (HP.out _ _ _ _ HT1.out).mono ?_
    rintro e w2 ⟨xa, xn, xc, rfl, HX2, b2⟩
    have HT2 : Aside (TvS w2 ta tn tc (M.build l)) := HT1.out.below b2
    have q2 := below2 b1 b2
    clear b1 b2 HT1
    go_wp2_with fail
    refine (HQ.out _ _ _ _ HT2.out).mono ?_
    rintro e w3 ⟨ya, yn, yc, rfl, HY3, b3⟩
    have q3 := below2 q2 b3
    clear q2 b3
    go_wp2_with fail
    refine (ebegun_any _).mono ?_
    rintro e w5 ⟨rfl, b5⟩
    have q5 := below2 q3 b5
    go_wp2
    go_ret
    exact ⟨rfl, q5⟩

set_option maxRecDepth 100000 in
set_option maxHeartbeats 8000000 in
theorem eorder_full (a : Option Addr) (n cap : Nat) (l : List (Int × Int)) (p u q v : Int) (w : World) (h : Sl w a n cap l) (h0 : M.chk l = 0) (h1 : M.putE l p u = 0) (h2 : M.putE l q v = 0) :
    Calls Try.prog 6 #[.slice a n cap, .int .i64 p, .int .i64 u, .int .i64 q, .int .i64 v] w fun e w' => e = .returned (.bool true) ∧ Below w.heap.size w w' := by
  obtain ⟨t1, t2, t3, t4, t5, t6, t7, t8, t9⟩ := M.two_puts h1 h2
  have HS : Aside (Sl w a n cap l) := h
  have HZ : Aside (M.chk l = 0) := h0
  obtain ⟨X, hX⟩ : ∃ X, X = M.put p u l := ⟨_, rfl⟩
  obtain ⟨Y, hY⟩ : ∃ Y, Y = M.put q v l := ⟨_, rfl⟩
  have hXc : M.chk X = 0 := by rw [hX]; exact M.put_chk h1
  have hYc : M.chk Y = 0 := by rw [hY]; exact M.put_chk h2
  have eX : eV l p u = M.build X := by unfold eV; rw [if_pos h1, hX]
  have eY : eV l q v = M.build Y := by unfold eV; rw [if_pos h2, hY]
  obtain ⟨was, hwas⟩ : ∃ was, was = M.find p l := ⟨_, rfl⟩
  obtain ⟨j, hj⟩ : ∃ j, j = M.putE X q v := ⟨_, rfl⟩
  obtain ⟨k, hk⟩ : ∃ k, k = M.putE Y p u := ⟨_, rfl⟩
  obtain ⟨Z1, hZ1⟩ : ∃ Z1, Z1 = eV X q v := ⟨_, rfl⟩
  obtain ⟨Z2, hZ2⟩ : ∃ Z2, Z2 = eV Y p u := ⟨_, rfl⟩
  have HP : Aside (∀ ta tn tc W, TvS W ta tn tc (M.build l) → Calls Try.prog 9 #[.slice ta tn tc, .int .i64 p, .int .i64 u] W fun e w' => ∃ xa xn xc, e = .returned (.tuple #[.slice xa xn xc, .int .i64 0]) ∧ Aside (TvS w' xa xn xc (M.build X)) ∧ Below W.heap.size W w') := fun ta tn tc W hT => by
    have := eput_built l h0 p u ta tn tc W hT
    rwa [h1, eX] at this
  have HQ : Aside (∀ ta tn tc W, TvS W ta tn tc (M.build l) → Calls Try.prog 9 #[.slice ta tn tc, .int .i64 q, .int .i64 v] W fun e w' => ∃ xa xn xc, e = .returned (.tuple #[.slice xa xn xc, .int .i64 0]) ∧ Aside (TvS w' xa xn xc (M.build Y)) ∧ Below W.heap.size W w') := fun ta tn tc W hT => by
    have := eput_built l h0 q v ta tn tc W hT
    rwa [h2, eY] at this
  have HF : Aside (∀ W, Below w.heap.size w W → Calls Try.prog 18 #[.slice a n cap, .int .i64 p] W fun e w' => e = .returned (.tuple #[.int .i64 was, .int .i64 0]) ∧ Below W.heap.size W w') := fun W hb => by
    have := find_any a n cap l p W (HS.out.below hb).1 HS.out.len
    rwa [t1, M.findV_ok t1, ← hwas] at this
  have HBk : Aside (∀ ta tn tc W, TvS W ta tn tc (M.build X) → Calls Try.prog 9 #[.slice ta tn tc, .int .i64 p, .int .i64 was] W fun e w' => ∃ xa xn xc, e = .returned (.tuple #[.slice xa xn xc, .int .i64 0]) ∧ Aside (TvS w' xa xn xc (M.build l)) ∧ Below W.heap.size W w') := fun ta tn tc W hT => by
    have := eput_built X hXc p was ta tn tc W hT
    have e1 : M.putE X p was = 0 := by rw [hX, hwas]; exact t5
    have e2 : eV X p was = M.build l := by unfold eV; rw [if_pos e1, hX, hwas, t8]
    rwa [e1, e2] at this
  have HZ1 : Aside (∀ ta tn tc W, TvS W ta tn tc (M.build X) → Calls Try.prog 9 #[.slice ta tn tc, .int .i64 q, .int .i64 v] W fun e w' => ∃ xa xn xc, e = .returned (.tuple #[.slice xa xn xc, .int .i64 j]) ∧ Aside (TvS w' xa xn xc Z1) ∧ Below W.heap.size W w') := fun ta tn tc W hT => by rw [hj, hZ1]; exact eput_built X hXc q v ta tn tc W hT
  have HZ2 : Aside (∀ ta tn tc W, TvS W ta tn tc (M.build Y) → Calls Try.prog 9 #[.slice ta tn tc, .int .i64 p, .int .i64 u] W fun e w' => ∃ xa xn xc, e = .returned (.tuple #[.slice xa xn xc, .int .i64 k]) ∧ Aside (TvS w' xa xn xc Z2) ∧ Below W.heap.size W w') := fun ta tn tc W hT => by rw [hk, hZ2]; exact eput_built Y hYc p u ta tn tc W hT
  have Hpq : (p == q) = true ∨ ((p == q) = false ∧ j = k ∧ Z1 = Z2) := by
    by_cases hpq : p = q
    · exact Or.inl (by simp [hpq])
    · obtain ⟨g1, g2⟩ := t9 hpq
      have ejk : j = k := by rw [hj, hk, hX, hY]; exact g1
      refine Or.inr ⟨by simp [hpq], ejk, ?_⟩
      rw [hZ1, hZ2]
      unfold eV
      rw [← hj, ← hk, ejk]
      by_cases hk0 : k = 0
      · rw [if_pos hk0, if_pos hk0]
        have a1 : M.putV X q v = M.put q v X := M.putV_ok (by rw [← hj, ejk]; exact hk0)
        have a2 : M.putV Y p u = M.put p u Y := M.putV_ok (by rw [← hk]; exact hk0)
        rw [← a1, ← a2, hX, hY, g2]
      · rw [if_neg hk0, if_neg hk0]
  obtain ⟨T, hT⟩ : ∃ T, T = M.build l := ⟨_, rfl⟩
  clear h h0 h1 h2 t1 t2 t3 t4 t5 t6 t7 t8 t9 hX hY hXc hYc eX eY hwas hj hk hZ1 hZ2
  have HB : Aside (Calls Try.prog 15 #[.slice a n cap] w fun e w' => ∃ ta tn tc, e = .returned (.tuple #[.slice ta tn tc, .int .i64 0]) ∧ Aside (TvS w' ta tn tc (M.build l)) ∧ Below w.heap.size w w') := build_tv l HZ.out a n cap w HS.out
  rw [← hT] at HP HQ HBk HB
  clear hT
  rcases Hpq with hpq | ⟨hpq, rfl, rfl⟩
  all_goals
    go_enter Try.func6, Try.ntmps6
    go_wp2_with fail
    refine HB.out.mono ?_
    rintro e w1 ⟨ta, tn, tc, rfl, HT1, b1⟩
    go_wp2_with fail
    refine (HP.out _ _ _ _ HT1.out).mono ?_
    rintro e w2 ⟨xa, xn, xc, rfl, HX2, b2⟩
    have HT2 : Aside (TvS w2 ta tn tc T) := HT1.out.below b2
    have q2 := below2 b1 b2
    clear b1 b2 HT1
    go_wp2_with fail
    refine (HQ.out _ _ _ _ HT2.out).mono ?_
    rintro e w3 ⟨ya, yn, yc, rfl, HY3, b3⟩
    have HT3 : Aside (TvS w3 ta tn tc T) := HT2.out.below b3
    have HX3 : Aside (TvS w3 xa xn xc (M.build X)) := HX2.out.below b3
    have q3 := below2 q2 b3
    clear q2 b3 HT2 HX2
    go_wp2_with fail
    refine (HF.out _ q3).mono ?_
    rintro e w4 ⟨rfl, b4⟩
    have HT4 : Aside (TvS w4 ta tn tc T) := HT3.out.below b4
    have HX4 : Aside (TvS w4 xa xn xc (M.build X)) := HX3.out.below b4
    have HY4 : Aside (TvS w4 ya yn yc (M.build Y)) := HY3.out.below b4
    have q4 := below2 q3 b4
    clear q3 b4 HT3 HX3 HY3
    go_wp2_with fail
    refine (HBk.out _ _ _ _ HX4.out).mono ?_
    rintro e w5 ⟨ba, bn, bc, rfl, HB5, b5⟩
    have HT5 : Aside (TvS w5 ta tn tc T) := HT4.out.below b5
    have HX5 : Aside (TvS w5 xa xn xc (M.build X)) := HX4.out.below b5
    have HY5 : Aside (TvS w5 ya yn yc (M.build Y)) := HY4.out.below b5
    have q5 := below2 q4 b5
    clear q4 b5 HT4 HX4 HY4
    go_wp2_with fail
    refine (HZ1.out _ _ _ _ HX5.out).mono ?_
    rintro e w6 ⟨za, zn, zc, rfl, HZ6, b6⟩
    have HT6 : Aside (TvS w6 ta tn tc T) := HT5.out.below b6
    have HB6 : Aside (TvS w6 ba bn bc T) := HB5.out.below b6
    have HY6 : Aside (TvS w6 ya yn yc (M.build Y)) := HY5.out.below b6
    have q6 := below2 q5 b6
    clear q5 b6 HT5 HX5 HY5 HB5
    go_wp2_with fail
    refine (HZ2.out _ _ _ _ HY6.out).mono ?_
    rintro e w7 ⟨va, vn, vc, rfl, HV7, b7⟩
    have HT7 : Aside (TvS w7 ta tn tc T) := HT6.out.below b7
    have HB7 : Aside (TvS w7 ba bn bc T) := HB6.out.below b7
    have HZ7 := HZ6.out.below b7
    have HZ7' : Aside (TvS w7 za zn zc Z1) := HZ7
    have q7 := below2 q6 b7
    clear q6 b7 HT6 HY6 HB6 HZ6 HZ7
    go_wp2_with fail
    refine (ebegun_any _).mono ?_
    rintro e w8 ⟨rfl, b8⟩
    have HT8 : Aside (TvS w8 ta tn tc T) := HT7.out.below b8
    have HB8 : Aside (TvS w8 ba bn bc T) := HB7.out.below b8
    have HZ8 : Aside (TvS w8 za zn zc Z1) := HZ7'.out.below b8
    have HV8 := HV7.out.below b8
    have HV8' : Aside (TvS w8 va vn vc _) := HV8
    have q8 := below2 q7 b8
    clear q7 b8 HT7 HB7 HZ7' HV7 HV8
    go_wp2_with fail
    refine (tsame_any ba ta bn tn bc tc T T w8 HB8.out.1 HT8.out.1 HB8.out.len).mono ?_
    rintro e w9 ⟨rfl, b9⟩
    have HZ9 : Aside (TvS w9 za zn zc Z1) := HZ8.out.below b9
    have HV9 := HV8'.out.below b9
    have HV9' : Aside (TvS w9 va vn vc _) := HV9
    have q9 := below2 q8 b9
    have hTT : decide (T = T) = true := by simp
    clear q8 b9 HT8 HB8 HZ8 HV8' HV9
    first
      | (go_wp2
         go_ret
         exact ⟨rfl, q9⟩)
      | (go_wp2_with fail
         refine (tsame_any za va zn vn zc vc Z1 Z1 w9 HZ9.out.1 HV9'.out.1 HZ9.out.len).mono ?_
         rintro e w10 ⟨rfl, b10⟩
         have q10 := below2 q9 b10
         have hZZ : decide (Z1 = Z1) = true := by simp
         go_wp2
         go_ret
         exact ⟨rfl, q10⟩)

theorem eorder_walk (a : Option Addr) (n cap : Nat) (l : List (Int × Int)) (p u q v : Int) (w : World) (h : Sl w a n cap l) :
    Calls Try.prog 6 #[.slice a n cap, .int .i64 p, .int .i64 u, .int .i64 q, .int .i64 v] w fun e w' => e = .returned (.bool true) ∧ Below w.heap.size w w' := by
  by_cases h0 : M.chk l = 0
  · by_cases h1 : M.putE l p u = 0
    · by_cases h2 : M.putE l q v = 0
      · exact eorder_full a n cap l p u q v w h h0 h1 h2
      · exact eorder_short a n cap l p u q v w h h0 (Or.inr h2)
    · exact eorder_short a n cap l p u q v w h h0 (Or.inl h1)
  · exact eorder_bad a n cap l p u q v w h h0
end Go.Proofs.Ytcgpgflnihjpiac
