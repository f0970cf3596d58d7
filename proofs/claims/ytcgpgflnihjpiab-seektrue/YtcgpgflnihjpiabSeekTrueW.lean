/- The walk of the law SeekTrue. -/
import Derived.Test.YtcgpgflnihjpiabSBegun
namespace Go.Proofs.Ytcgpgflnihjpiab
open Go.RowKit

theorem M.filt_join (lo k hi : Int) (l : List (Int × Int)) (h : M.Ok l) (h1 : lo ≤ k) (h2 : k < hi) : M.filt lo k l ++ M.filt (k + 1) hi l = M.filt lo hi l := by
  induction l with
  | nil => rfl
  | cons r t ih =>
    have ht := ih h.tail
    have e : ∀ a b, M.filt a b (r :: t) = M.filt a b [r] ++ M.filt a b t := fun a b => M.filt_append a b [r] t
    by_cases hr : r.1 ≤ k
    · rw [e lo k, e (k + 1) hi, e lo hi, ← ht, M.filt_none (k + 1) hi [r] (by simp; omega), List.nil_append, ← List.append_assoc]
      congr 2
      unfold M.filt
      simp only [List.filter_cons, List.filter_nil]
      have e2 : decide (lo ≤ r.1 ∧ r.1 ≤ k) = decide (lo ≤ r.1 ∧ r.1 ≤ hi) := by
        by_cases hl : lo ≤ r.1
        · rw [decide_eq_true (show lo ≤ r.1 ∧ r.1 ≤ k from ⟨hl, hr⟩), decide_eq_true (show lo ≤ r.1 ∧ r.1 ≤ hi from ⟨hl, by omega⟩)]
        · rw [decide_eq_false (fun q => hl q.1), decide_eq_false (fun q => hl q.1)]
      rw [e2]
    · have hn : M.filt lo k (r :: t) = [] := M.filt_none lo k _ fun q hq => by
        rcases List.mem_cons.1 hq with rfl | hq
        · right; omega
        · have := h.head q hq; right; omega
      rw [hn, List.nil_append]
      unfold M.filt
      refine List.filter_congr fun q hq => ?_
      have hq1 : k < q.1 := by
        rcases List.mem_cons.1 hq with rfl | hq
        · omega
        · have := h.head q hq; omega
      by_cases hh : q.1 ≤ hi
      · rw [decide_eq_true (show k + 1 ≤ q.1 ∧ q.1 ≤ hi from ⟨by omega, hh⟩), decide_eq_true (show lo ≤ q.1 ∧ q.1 ≤ hi from ⟨by omega, hh⟩)]
      · rw [decide_eq_false (fun q => hh q.2), decide_eq_false (fun q => hh q.2)]

theorem strue_bad (a : Option Addr) (n cap : Nat) (l : List (Int × Int)) (key lo hi : Int) (w : World) (h : Sl w a n cap l) (hb : M.chk l ≠ 0) :
    Calls Try.prog 8 #[.slice a n cap, .int .i64 key, .int .i64 lo, .int .i64 hi] w fun e w' => e = .returned (.bool true) ∧ Below w.heap.size w w' := by
  have H := build_bad a n cap l w h.1 h.len hb
  obtain ⟨c, hc⟩ : ∃ c, c = M.chk l := ⟨_, rfl⟩
  rw [← hc] at H hb
  have HH : Aside (Calls Try.prog 9 #[.slice a n cap] w fun e w' => e = .returned (.tuple #[.slice none 0 0, .int .i64 c]) ∧ Below w.heap.size w w') := H
  have hne : (c != 0) = true := by simp [hb]
  clear H hc hb h
  go_enter Try.func8, Try.ntmps8
  go_wp2_with fail
  refine HH.out.mono ?_
  rintro e w1 ⟨rfl, b1⟩
  go_wp2_with fail
  refine (sbegun_any _).mono ?_
  rintro e w2 ⟨rfl, b2⟩
  have q2 := below2 b1 b2
  go_wp2
  go_ret
  exact ⟨rfl, q2⟩

/-- What the first four calls of the law make, for right rows. -/
theorem seek_like (l : List (Int × Int)) (h : M.chk l = 0) (key : Int) : seekE (M.build l) key = M.asked l key ∧ (M.asked l key = 0 → seekV (M.build l) key = M.findV l key ∧ seekL (M.build l) key ≤ (M.build l).length ∧ (seekV (M.build l) key ≠ -1 → seekL (M.build l) key ≠ 0)) := by
  have hE := build_tree l h
  have hfl := (build_like l h).1
  have e1 : seekE (M.build l) key = M.asked l key := by
    unfold seekE M.asked
    rw [hE, h]
  refine ⟨e1, fun h0 => ?_⟩
  have e2 : seekV (M.build l) key = M.find key l := by unfold seekV; rw [e1, if_pos h0, hfl]
  refine ⟨by rw [e2, M.findV_ok h0], ?_, fun hv => ?_⟩
  · unfold seekL looksV
    rw [e1, if_pos h0]
    split <;> omega
  · rw [e2] at hv
    unfold seekL looksV
    rw [e1, if_pos h0, hfl]
    have hl : l ≠ [] := fun e => hv (by rw [e]; rfl)
    have hk : key ≤ M.lastK l := by
      by_cases hk : key ≤ M.lastK l
      · exact hk
      · exact absurd (M.find_above l ((M.chk_zero l).1 h).2 key (by omega)) hv
    have hT : M.build l ≠ [] := fun e => hl ((build_like l h).2.1.1 e)
    rw [if_pos ⟨hT, hk⟩]
    have := List.length_pos_iff.2 hT
    omega

/-- A world behind the first four calls, with all that is known there. -/
theorem range_sl (ta : Option Addr) (tn tc : Nat) (l : List (Int × Int)) (lo hi : Int) (w : World) (hT : TvS w ta tn tc (M.build l)) (h : M.chk l = 0) :
    Calls Try.prog 25 #[.slice ta tn tc, .int .i64 lo, .int .i64 hi] w fun e w' => ∃ xa xc, e = .returned (.tuple #[.slice xa (rangeV (M.build l) lo hi).length xc, .int .i64 (rangeE (M.build l) lo hi)]) ∧ Sl w' xa (rangeV (M.build l) lo hi).length xc (rangeV (M.build l) lo hi) ∧ Below w.heap.size w w' := by
  refine (seekR_any ta tn tc (M.build l) lo hi w hT (build_big l h)).mono ?_
  rintro e w' ⟨v, rfl, ho, hb⟩
  obtain ⟨xa, xc, rfl, hs⟩ := Own.sl ho
  exact ⟨xa, xc, rfl, hs, hb⟩
theorem rangeE_ok (l : List (Int × Int)) (h : M.chk l = 0) (lo hi : Int) (h1 : 0 ≤ lo) (h2 : lo ≤ hi) (h3 : hi ≤ 99) : rangeE (M.build l) lo hi = 0 := by
  unfold rangeE; rw [build_tree l h, if_neg (by omega), if_neg (by omega)]
theorem rangeV_ok (l : List (Int × Int)) (h : M.chk l = 0) (lo hi : Int) (h1 : 0 ≤ lo) (h2 : lo ≤ hi) (h3 : hi ≤ 99) : rangeV (M.build l) lo hi = M.filt lo hi l := by
  unfold rangeV; rw [rangeE_ok l h lo hi h1 h2 h3, if_pos rfl, (build_like l h).1]
theorem rangeE_zero (l : List (Int × Int)) (h : M.chk l = 0) (lo hi : Int) (h0 : rangeE (M.build l) lo hi = 0) : 0 ≤ lo ∧ lo ≤ hi ∧ hi ≤ 99 := by
  unfold rangeE at h0
  rw [build_tree l h, if_neg (by omega)] at h0
  by_cases hr : lo < 0 ∨ hi < lo ∨ 99 < hi
  · rw [if_pos hr] at h0; omega
  · omega

/-- The law's calls, with letters for what they answer. -/
theorem strue_calls (a : Option Addr) (n cap : Nat) (l : List (Int × Int)) (key : Int) (w : World) (h : Sl w a n cap l) (h0 : M.chk l = 0) :
    ∃ (e0 v v' lk : Int) (tn : Nat), tn ≤ 6 ∧ Aside (e0 = M.asked l key) ∧ ((e0 == 0) = false ∨ ((e0 == 0) = true ∧ v' = v ∧ decide ((tn : Int) < lk) = false ∧ ((v != -1) = false ∨ ((v != -1) = true ∧ (lk == 0) = false)))) ∧
      Aside (∀ W, Below w.heap.size w W → Calls Try.prog 9 #[.slice a n cap] W fun e w' => ∃ ta tc, e = .returned (.tuple #[.slice ta tn tc, .int .i64 0]) ∧ Aside (TvS w' ta tn tc (M.build l)) ∧ Below W.heap.size W w') ∧
      Aside (∀ ta tc W, TvS W ta tn tc (M.build l) → Calls Try.prog 22 #[.slice ta tn tc, .int .i64 key] W fun e w' => e = .returned (.tuple #[.int .i64 v, .int .i64 lk, .int .i64 e0]) ∧ Below W.heap.size W w') ∧
      Aside (∀ W, Below w.heap.size w W → Calls Try.prog 27 #[.slice a n cap, .int .i64 key] W fun e w' => e = .returned (.tuple #[.int .i64 v', .int .i64 e0]) ∧ Below W.heap.size W w') := by
  obtain ⟨q1, q2⟩ := seek_like l h0 key
  refine ⟨M.asked l key, seekV (M.build l) key, M.findV l key, seekL (M.build l) key, (M.build l).length, (build_like l h0).2.2.2.2.2, rfl, ?_, fun W hb => ?_, fun ta tc W hT => ?_, fun W hb => ?_⟩
  · by_cases hz : M.asked l key = 0
    · obtain ⟨k1, k2, k3⟩ := q2 hz
      refine Or.inr ⟨by simp [hz], k1.symm, by simp; exact k2, ?_⟩
      by_cases hv : seekV (M.build l) key = -1
      · exact Or.inl (by simp [hv])
      · exact Or.inr ⟨by simp [hv], by simp [k3 hv]⟩
    · exact Or.inl (by simp [hz])
  · refine (build_ok a n cap l W (h.below hb) h0).mono ?_
    rintro e w' ⟨v, rfl, ho, hb2⟩
    obtain ⟨ta, tn, tc, rfl, ht⟩ := ho.tv
    obtain rfl : tn = (M.build l).length := ht.1.1.symm
    exact ⟨ta, tc, rfl, ht, hb2⟩
  · have := seekF_any ta _ tc (M.build l) key W hT (build_big l h0)
    rwa [q1] at this
  · exact find_any a n cap l key W (h.below hb).1 h.len

set_option maxHeartbeats 4000000 in
/-- The law where its last part is not come to. -/
theorem strue_short (a : Option Addr) (n cap : Nat) (l : List (Int × Int)) (key lo hi : Int) (w : World) (h : Sl w a n cap l) (h0 : M.chk l = 0) (hs : rangeE (M.build l) lo hi ≠ 0 ∨ key < lo ∨ hi ≤ key) :
    Calls Try.prog 8 #[.slice a n cap, .int .i64 key, .int .i64 lo, .int .i64 hi] w fun e w' => e = .returned (.bool true) ∧ Below w.heap.size w w' := by
  obtain ⟨e0, v, v', lk, tn, htn, HE0, Hc, HB, HF, HRF⟩ := strue_calls a n cap l key w h h0
  obtain ⟨r0, hr0⟩ : ∃ r0, r0 = rangeE (M.build l) lo hi := ⟨_, rfl⟩
  obtain ⟨R, hR⟩ : ∃ R, R = (rangeV (M.build l) lo hi).length := ⟨_, rfl⟩
  have HR : Aside (∀ ta tc W, TvS W ta tn tc (M.build l) → Calls Try.prog 25 #[.slice ta tn tc, .int .i64 lo, .int .i64 hi] W fun e w' => ∃ xa xc, e = .returned (.tuple #[.slice xa R xc, .int .i64 r0]) ∧ Below W.heap.size W w') := fun ta tc W hT => by
    refine (range_sl ta tn tc l lo hi W hT h0).mono ?_
    rintro e w' ⟨xa, xc, rfl, _, hb⟩
    rw [hR, hr0]
    exact ⟨xa, xc, rfl, hb⟩
  have Hs : (r0 != 0) = true ∨ ((r0 != 0) = false ∧ decide (key < lo) = true) ∨ ((r0 != 0) = false ∧ decide (key < lo) = false ∧ decide (hi ≤ key) = true) := by
    rw [← hr0] at hs
    by_cases k1 : r0 = 0
    · by_cases k2 : key < lo
      · exact Or.inr (Or.inl ⟨by simp [k1], by simp [k2]⟩)
      · exact Or.inr (Or.inr ⟨by simp [k1], by simp; omega, by simp; omega⟩)
    · exact Or.inl (by simp [k1])
  clear hs hr0 hR h h0
  rcases Hc with hz | ⟨hz, rfl, hlt, hv | ⟨hv, hlz⟩⟩
  all_goals rcases Hs with k1 | ⟨k1, k2⟩ | ⟨k1, k2, k3⟩
  all_goals
    go_enter Try.func8, Try.ntmps8
    go_wp2_with fail
    refine (HB.out _ (Below.refl _ _)).mono ?_
    rintro e w1 ⟨ta, tc, rfl, HT1, b1⟩
    go_wp2_with fail
    refine (HF.out _ _ _ HT1.out).mono ?_
    rintro e w2 ⟨rfl, b2⟩
    have HT2 : Aside (TvS w2 ta tn tc (M.build l)) := HT1.out.below b2
    have q2 := below2 b1 b2
    clear HT1 b1 b2
    go_wp2_with fail
    refine (HRF.out _ q2).mono ?_
    rintro e w3 ⟨rfl, b3⟩
    have HT3 : Aside (TvS w3 ta tn tc (M.build l)) := HT2.out.below b3
    have q3 := below2 q2 b3
    clear HT2 q2 b3
    go_wp2_with fail
    refine (HR.out _ _ _ HT3.out).mono ?_
    rintro e w4 ⟨xa, xc, rfl, b4⟩
    have q4 := below2 q3 b4
    clear HT3 q3 b4
    go_wp2_with fail
    refine (sbegun_any _).mono ?_
    rintro e w5 ⟨rfl, b5⟩
    have q5 := below2 q4 b5
    go_wp2
    go_ret
    exact ⟨rfl, q5⟩

/-- append_rd at an operation that is guarded. -/
theorem append_rd_g {w : World} {ops : Array Oper} {rest : List Oper} {o : Oper} {a : Act} {Q : Exit → Act → World → Prop} (hw : Region.wanted o (yielded ops a.tmps) = true) (s x : Operand)
    (ho : o.op = .call { callee := .builtin .append, args := #[s, x], argTypes := #[22, 22] })
    (base : Nat) (v : Value) (l : List (Int × Int)) (hs : a.eval s = v) (hown : Own w base v l)
    (ao : Option Addr) (m c : Nat) (l2 : List (Int × Int)) (hx : a.eval x = .slice ao m c) (hr : Rd w ao m l2) (hnil : ao = none → m = 0 ∧ c = 0)
    (hbig : l.length + m ≤ 1000000) (hbase : base ≤ w.heap.size)
    (h : ∀ v' w', Own w' base v' (l ++ l2) → Below base w w' → wpList Try.prog ops Q rest (a.put o.dst v') w') : wpList Try.prog ops Q (o :: rest) a w := by
  have k := append_rd (ops := ops) (rest := rest) (o := { o with guard := none }) (a := a) (Q := Q) (w := w) rfl s x ho base v l hs hown ao m c l2 hx hr hnil hbig hbase h
  unfold wpList at k ⊢
  rw [if_pos (by simp [Region.wanted])] at k
  rw [if_pos hw]
  exact k

set_option maxHeartbeats 4000000 in
theorem strue_full (a : Option Addr) (n cap : Nat) (l : List (Int × Int)) (key lo hi : Int) (w : World) (h : Sl w a n cap l) (h0 : M.chk l = 0) (hr : rangeE (M.build l) lo hi = 0) (h1 : lo ≤ key) (h2 : key < hi) :
    Calls Try.prog 8 #[.slice a n cap, .int .i64 key, .int .i64 lo, .int .i64 hi] w fun e w' => e = .returned (.bool true) ∧ Below w.heap.size w w' := by
  obtain ⟨e0, v, v', lk, tn, htn, HE0, Hc, HB, HF, HRF⟩ := strue_calls a n cap l key w h h0
  obtain ⟨z1, z2, z3⟩ := rangeE_zero l h0 lo hi hr
  have hok := (M.chk_zero l).1 h0
  obtain ⟨X, hX⟩ : ∃ X, X = M.filt lo hi l := ⟨_, rfl⟩
  obtain ⟨Y, hY⟩ : ∃ Y, Y = M.filt lo key l := ⟨_, rfl⟩
  obtain ⟨Z, hZ⟩ : ∃ Z, Z = M.filt (key + 1) hi l := ⟨_, rfl⟩
  have HJ : Aside (Y ++ Z = X) := by unfold Aside; rw [hX, hY, hZ]; exact M.filt_join lo key hi l hok.2 h1 h2
  obtain ⟨x, hx⟩ : ∃ x, x = X.length := ⟨_, rfl⟩
  obtain ⟨y, hy⟩ : ∃ y, y = Y.length := ⟨_, rfl⟩
  obtain ⟨z, hz'⟩ : ∃ z, z = Z.length := ⟨_, rfl⟩
  have hx40 : x ≤ 40 := by rw [hx, hX]; exact Nat.le_trans (M.filt_len _ _ _) hok.1
  have hyz : y + z = x := by rw [hx, hy, hz', ← HJ.out, List.length_append]
  have HYZ : Aside (y + z = x) := hyz
  have hy40 : y ≤ 40 := by omega
  have hz40 : z ≤ 40 := by omega
  have mk : ∀ (lo hi : Int) (V : List (Int × Int)) (m : Nat), 0 ≤ lo → lo ≤ hi → hi ≤ 99 → V = M.filt lo hi l → m = V.length → Aside (∀ ta tc W, TvS W ta tn tc (M.build l) → Calls Try.prog 25 #[.slice ta tn tc, .int .i64 lo, .int .i64 hi] W fun e w' => ∃ xa xc, e = .returned (.tuple #[.slice xa m xc, .int .i64 0]) ∧ Aside (Sl w' xa m xc V) ∧ Below W.heap.size W w') := by
    intro lo hi V m k1 k2 k3 k4 k5 ta tc W hT
    refine (range_sl ta tn tc l lo hi W hT h0).mono ?_
    rintro e w' ⟨xa, xc, rfl, hs, hb⟩
    rw [rangeV_ok l h0 lo hi k1 k2 k3, ← k4, ← k5] at hs ⊢
    rw [rangeE_ok l h0 lo hi k1 k2 k3]
    exact ⟨xa, xc, rfl, hs, hb⟩
  have HX := mk lo hi X x z1 z2 z3 hX hx
  have HY := mk lo key Y y z1 h1 (by omega) hY hy
  have HZ := mk (key + 1) hi Z z (by omega) (by omega) z3 hZ hz'
  have HXl : Aside (x = X.length) := hx
  have HYl : Aside (y = Y.length) := hy
  have HZl : Aside (z = Z.length) := hz'
  have k2 : decide (key < lo) = false := by simp; omega
  have k3 : decide (hi ≤ key) = false := by simp; omega
  clear mk hX hY hZ hx hy hz' hok h h0 hr hyz
  rcases Hc with hz | ⟨hz, rfl, hlt, hv | ⟨hv, hlz⟩⟩
  all_goals
    go_enter Try.func8, Try.ntmps8
    go_wp2_with fail
    refine (HB.out _ (Below.refl _ _)).mono ?_
    rintro e w1 ⟨ta, tc, rfl, HT1, b1⟩
    go_wp2_with fail
    refine (HF.out _ _ _ HT1.out).mono ?_
    rintro e w2 ⟨rfl, b2⟩
    have HT2 : Aside (TvS w2 ta tn tc (M.build l)) := HT1.out.below b2
    have q2 := below2 b1 b2
    clear HT1 b1 b2
    go_wp2_with fail
    refine (HRF.out _ q2).mono ?_
    rintro e w3 ⟨rfl, b3⟩
    have HT3 : Aside (TvS w3 ta tn tc (M.build l)) := HT2.out.below b3
    have q3 := below2 q2 b3
    clear HT2 q2 b3
    go_wp2_with fail
    refine (HX.out _ _ _ HT3.out).mono ?_
    rintro e w4 ⟨xa, xc, rfl, HX4, b4⟩
    have HT4 : Aside (TvS w4 ta tn tc (M.build l)) := HT3.out.below b4
    have q4 := below2 q3 b4
    clear HT3 q3 b4
    go_wp2_with fail
    refine (HY.out _ _ _ HT4.out).mono ?_
    rintro e w5 ⟨ya, yc, rfl, HY5, b5⟩
    have HT5 : Aside (TvS w5 ta tn tc (M.build l)) := HT4.out.below b5
    have HX5 : Aside (Sl w5 xa x xc X) := HX4.out.below b5
    have q5 := below2 q4 b5
    clear HT4 HX4 q4 b5
    go_wp2_with fail
    refine (HZ.out _ _ _ HT5.out).mono ?_
    rintro e w6 ⟨za, zc, rfl, HZ6, b6⟩
    have HX6 : Aside (Sl w6 xa x xc X) := HX5.out.below b6
    have HY6 : Aside (Sl w6 ya y yc Y) := HY5.out.below b6
    have q6 := below2 q5 b6
    clear HT5 HX5 HY5 q5 b6
    go_wp2_with fail
    refine (sbegun_any _).mono ?_
    rintro e w7 ⟨rfl, b7⟩
    have HX7 : Aside (Sl w7 xa x xc X) := HX6.out.below b7
    have HY7 : Aside (Sl w7 ya y yc Y) := HY6.out.below b7
    have HZ7 : Aside (Sl w7 za z zc Z) := HZ6.out.below b7
    have q7 := below2 q6 b7
    clear HX6 HY6 HZ6 q6 b7
    have hb8 : Below w7.heap.size w7 (w7.alloc (.cells #[] 43)) := (Below.refl _ _).alloc (Nat.le_refl _) _
    go_wp2_with (at_builtin; refine append_rd_g rfl (.tmp 114) (.tmp 115) rfl w7.heap.size _ [] rfl (own_empty0 w7) ya y yc Y rfl (HY7.out.below hb8).1 HY7.out.2.2.2 (by simp; omega) (by simp) ?_)
    intro u w8 ho8 hb9
    obtain ⟨ua, un, uc, rfl⟩ := own_shape ho8
    have HU : Aside (Own w8 w7.heap.size (.slice ua un uc) Y) := ho8
    have q8 := below2 q7 (hb8.trans hb9)
    have b78 : Below w7.heap.size w7 w8 := hb8.trans hb9
    have HZ8 : Aside (Sl w8 za z zc Z) := HZ7.out.below (hb8.trans hb9)
    have hs8 : w7.heap.size ≤ w8.heap.size := (hb8.trans hb9).size
    clear ho8 hb9 hb8 HY7 HZ7
    go_wp2_with (at_builtin; refine append_rd_g rfl (.tmp 116) (.tmp 117) rfl w7.heap.size _ Y rfl HU.out za z zc Z rfl HZ8.out.1 HZ8.out.2.2.2 (by rw [← HYl.out]; omega) hs8 ?_)
    intro u w9 ho9 hb9
    rw [HJ.out] at ho9
    obtain ⟨va, vc, e2, hs9⟩ := Own.sl ho9
    rw [← HXl.out] at e2 hs9
    subst e2
    have HV9 : Aside (Sl w9 va x vc X) := hs9
    have q9 : Below w.heap.size w w9 := q8.trans (hb9.mono q7.size)
    have HX9 : Aside (Sl w9 xa x xc X) := HX7.out.below (b78.trans hb9)
    clear ho9 hb9 hs9 HX7 HZ8 HU b78
    go_wp2_with fail
    refine (same_any va xa x x vc xc X X w9 HV9.out.1 HX9.out.1 (by omega)).mono ?_
    rintro e w10 ⟨rfl, b10⟩
    have q10 := below2 q9 b10
    have hll : decide (X = X) = true := by simp
    go_wp2
    go_ret
    exact ⟨rfl, q10⟩

theorem strue_walk (a : Option Addr) (n cap : Nat) (l : List (Int × Int)) (key lo hi : Int) (w : World) (h : Sl w a n cap l) :
    Calls Try.prog 8 #[.slice a n cap, .int .i64 key, .int .i64 lo, .int .i64 hi] w fun e w' => e = .returned (.bool true) ∧ Below w.heap.size w w' := by
  by_cases h0 : M.chk l = 0
  · by_cases hr : rangeE (M.build l) lo hi = 0
    · by_cases h1 : lo ≤ key
      · by_cases h2 : key < hi
        · exact strue_full a n cap l key lo hi w h h0 hr h1 h2
        · exact strue_short a n cap l key lo hi w h h0 (by omega)
      · exact strue_short a n cap l key lo hi w h h0 (by omega)
    · exact strue_short a n cap l key lo hi w h h0 (Or.inl hr)
  · exact strue_bad a n cap l key lo hi w h h0
end Go.Proofs.Ytcgpgflnihjpiab
