/- The walk of the law TreeTells. -/
import Derived.Test.YtcgpgflnihjpiabTRows
import Derived.Test.YtcgpgflnihjpiabTBegun
import Derived.Test.YtcgpgflnihjpiabRRoot
namespace Go.Proofs.Ytcgpgflnihjpiab
open Go.RowKit

theorem root_bad (a : Option Addr) (n cap : Nat) (T : List (List (List (Int × Int)))) (w : World) (hT : TvS w a n cap T) (hbig : Big T) (hE : treeE T = 1) :
    Calls Try.prog 14 #[.slice a n cap] w fun e w' => e = .returned (.tuple #[.int .i64 0, .int .i64 1]) ∧ Below w.heap.size w w' := by
  have HC := tcheck_any a n cap T w hT hbig
  rw [hE] at HC
  have HC1 : Aside (Calls Try.prog 18 #[.slice a n cap] w fun e w' => e = .returned (.int .i64 1) ∧ Below w.heap.size w w') := HC
  clear HC hT hbig hE
  go_enter Try.func14, Try.ntmps14
  go_wp2_with fail
  refine HC1.out.mono ?_
  rintro e w1 ⟨rfl, b1⟩
  go_wp2
  go_ret2
  exact ⟨rfl, b1⟩

def rootV (T : List (List (List (Int × Int)))) : Int := if T = [] then 1 else M.sum (top T)

theorem top_ok {T : List (List (List (Int × Int)))} (hE : treeE T = 0) (hne : T ≠ []) : T.length ≤ 6 ∧ (T.getD (T.length - 1) []).length = 1 ∧ M.chk (top T) = 0 := by
  obtain ⟨h1, h2⟩ := treeE_ok hE
  obtain ⟨L1, L2, L3, L4, L5, L6⟩ := build_like (flat T) h1
  rw [← h2] at L1 L2 L3 L4 L5 L6
  have hl : 0 < T.length := List.length_pos_iff.2 hne
  have h5 := L5 (fun e => hne (L2.2 e))
  have hm := L4 _ (getD_memT T [] (T.length - 1) (by omega))
  refine ⟨L6, h5, (hm.2 _ ?_).2⟩
  exact getD_memT (T.getD (T.length - 1) []) [] 0 (by rw [h5]; omega)

theorem root_good (a : Option Addr) (n cap : Nat) (T : List (List (List (Int × Int)))) (w : World) (hT : TvS w a n cap T) (hbig : Big T) (hE : treeE T = 0) :
    Calls Try.prog 14 #[.slice a n cap] w fun e w' => e = .returned (.tuple #[.int .i64 (rootV T), .int .i64 0]) ∧ Below w.heap.size w w' := by
  by_cases hne : T = []
  · subst hne
    obtain rfl : n = 0 := hT.1.1.symm
    exact root_none a cap w hT
  · obtain ⟨k1, k2, k3⟩ := top_ok hE hne
    have hl : 0 < T.length := List.length_pos_iff.2 hne
    have := root_some a n cap T w hT hbig hE (by rw [← hT.1.1]; exact hl) (by rw [← hT.1.1]; omega) (by rw [← hT.1.1, k2]; omega)
    rw [k3, show M.sumV (top T) = M.sum (top T) by unfold M.sumV; rw [if_pos k3]] at this
    unfold rootV
    rw [if_neg hne]
    exact this
theorem rootOf_good (a : Option Addr) (n cap : Nat) (T : List (List (List (Int × Int)))) (w : World) (hT : TvS w a n cap T) (hE : treeE T = 0) :
    Calls Try.prog 17 #[.slice a n cap] w fun e w' => e = .returned (.int .i64 (rootV T)) ∧ Below w.heap.size w w' := by
  by_cases hne : T = []
  · subst hne
    obtain rfl : n = 0 := hT.1.1.symm
    refine (rootOf_none a cap w).mono ?_
    rintro e w' ⟨rfl, rfl⟩
    exact ⟨rfl, Below.refl _ _⟩
  · obtain ⟨k1, k2, k3⟩ := top_ok hE hne
    have hl : 0 < T.length := List.length_pos_iff.2 hne
    have := rootOf_some a n cap T w hT (by rw [← hT.1.1]; exact hl) (by rw [← hT.1.1]; omega) (by rw [← hT.1.1, k2]; omega) k3
    unfold rootV
    rw [if_neg hne]
    exact this

set_option maxRecDepth 100000 in
set_option maxHeartbeats 8000000 in
theorem tells_good (a : Option Addr) (n cap : Nat) (T : List (List (List (Int × Int)))) (w : World) (hT : TvS w a n cap T) (hbig : Big T) (hE : treeE T = 0) :
    Calls Try.prog 4 #[.slice a n cap] w fun e w' => e = .returned (.bool true) ∧ Below w.heap.size w w' := by
  have h40 := ((M.chk_zero _).1 (treeE_ok hE).1).1
  have HT : Aside (TvS w a n cap T) := hT
  obtain ⟨l, hl⟩ : ∃ l, l = flat T := ⟨_, rfl⟩
  obtain ⟨L, hL⟩ : ∃ L, L = l.length := ⟨_, rfl⟩
  obtain ⟨r, hr⟩ : ∃ r, r = rootV T := ⟨_, rfl⟩
  have hL40 : L ≤ 40 := by rw [hL, hl]; exact h40
  have H1 : Aside (∀ W, Below w.heap.size w W → Calls Try.prog 13 #[.slice a n cap] W fun e w' => ∃ xa xc, e = .returned (.tuple #[.slice xa L xc, .int .i64 0]) ∧ Aside (Sl w' xa L xc l) ∧ Below W.heap.size W w') := fun W hb => by
    refine (trows_ok a n cap T W (HT.out.below hb) hbig hE).mono ?_
    rintro e w' ⟨v, rfl, ho, hb2⟩
    obtain ⟨xa, xc, rfl, hs⟩ := Own.sl ho
    rw [← hl, ← hL] at hs ⊢
    exact ⟨xa, xc, rfl, hs, hb2⟩
  have H2 : Aside (∀ W, Below w.heap.size w W → Calls Try.prog 14 #[.slice a n cap] W fun e w' => e = .returned (.tuple #[.int .i64 r, .int .i64 0]) ∧ Below W.heap.size W w') := fun W hb => by rw [hr]; exact root_good a n cap T W (HT.out.below hb) hbig hE
  have H3 : Aside (∀ W, Below w.heap.size w W → Calls Try.prog 15 #[.slice a n cap] W fun e w' => e = .returned (.int .i64 0) ∧ Below W.heap.size W w') := fun W hb => by
    have := treeError_any a n cap T W (HT.out.below hb) (by omega)
    rwa [hE] at this
  have H4 : Aside (∀ W, Below w.heap.size w W → Calls Try.prog 16 #[.slice a n cap] W fun e w' => ∃ xa xc, e = .returned (.slice xa L xc) ∧ Aside (Sl w' xa L xc l) ∧ Below W.heap.size W w') := fun W hb => by
    refine (rowsOf_any a n cap T W (HT.out.below hb) (by omega)).mono ?_
    rintro e w' ⟨xa, xc, rfl, _, hs, hb2⟩
    rw [← hl, ← hL] at hs ⊢
    exact ⟨xa, xc, rfl, hs, hb2⟩
  have H5 : Aside (∀ W, Below w.heap.size w W → Calls Try.prog 17 #[.slice a n cap] W fun e w' => e = .returned (.int .i64 r) ∧ Below W.heap.size W w') := fun W hb => by rw [hr]; exact rootOf_good a n cap T W (HT.out.below hb) hE
  have H6 : Aside (∀ W, Below w.heap.size w W → Calls Try.prog 18 #[.slice a n cap] W fun e w' => e = .returned (.int .i64 0) ∧ Below W.heap.size W w') := fun W hb => by
    have := tcheck_any a n cap T W (HT.out.below hb) hbig
    rwa [hE] at this
  clear hT hbig hE h40 hl hL hr
  go_enter Try.func4, Try.ntmps4
  go_wp2_with fail
  refine (H1.out _ (Below.refl _ _)).mono ?_
  rintro e w1 ⟨xa, xc, rfl, HX1, b1⟩
  go_wp2_with fail
  refine (H2.out _ b1).mono ?_
  rintro e w2 ⟨rfl, b2⟩
  have HX2 : Aside (Sl w2 xa L xc l) := HX1.out.below b2
  have q2 := below2 b1 b2
  clear b1 b2 HX1
  go_wp2_with fail
  refine (H3.out _ q2).mono ?_
  rintro e w3 ⟨rfl, b3⟩
  have HX3 : Aside (Sl w3 xa L xc l) := HX2.out.below b3
  have q3 := below2 q2 b3
  clear q2 b3 HX2
  go_wp2_with fail
  refine (H4.out _ q3).mono ?_
  rintro e w4 ⟨ya, yc, rfl, HY4, b4⟩
  have HX4 : Aside (Sl w4 xa L xc l) := HX3.out.below b4
  have q4 := below2 q3 b4
  clear q3 b4 HX3
  go_wp2_with fail
  refine (H5.out _ q4).mono ?_
  rintro e w5 ⟨rfl, b5⟩
  have HX5 : Aside (Sl w5 xa L xc l) := HX4.out.below b5
  have HY5 : Aside (Sl w5 ya L yc l) := HY4.out.below b5
  have q5 := below2 q4 b5
  clear q4 b5 HX4 HY4
  go_wp2_with fail
  refine (tbegun_any _).mono ?_
  rintro e w6 ⟨rfl, b6⟩
  have HX6 : Aside (Sl w6 xa L xc l) := HX5.out.below b6
  have HY6 : Aside (Sl w6 ya L yc l) := HY5.out.below b6
  have q6 := below2 q5 b6
  clear q5 b6 HX5 HY5
  go_wp2_with fail
  refine (H6.out _ q6).mono ?_
  rintro e w7 ⟨rfl, b7⟩
  have HX7 : Aside (Sl w7 xa L xc l) := HX6.out.below b7
  have HY7 : Aside (Sl w7 ya L yc l) := HY6.out.below b7
  have q7 := below2 q6 b7
  clear q6 b7 HX6 HY6
  go_wp2_with fail
  refine (same_any xa ya L L xc yc l l w7 HX7.out.1 HY7.out.1 (by omega)).mono ?_
  rintro e w8 ⟨rfl, b8⟩
  have q8 := below2 q7 b8
  have hll : decide (l = l) = true := by simp
  go_wp2
  go_ret
  exact ⟨rfl, q8⟩

set_option maxRecDepth 100000 in
set_option maxHeartbeats 8000000 in
theorem tells_bad (a : Option Addr) (n cap : Nat) (T : List (List (List (Int × Int)))) (w : World) (hT : TvS w a n cap T) (hbig : Big T) (hfl : (flat T).length ≤ 900000) (hE : treeE T = 1) :
    Calls Try.prog 4 #[.slice a n cap] w fun e w' => e = .returned (.bool true) ∧ Below w.heap.size w w' := by
  have HT : Aside (TvS w a n cap T) := hT
  have H1 : Aside (∀ W, Below w.heap.size w W → Calls Try.prog 13 #[.slice a n cap] W fun e w' => e = .returned (.tuple #[.slice none 0 0, .int .i64 1]) ∧ Below W.heap.size W w') := fun W hb => trows_bad a n cap T W (HT.out.below hb) hbig hE
  have H2 : Aside (∀ W, Below w.heap.size w W → Calls Try.prog 14 #[.slice a n cap] W fun e w' => e = .returned (.tuple #[.int .i64 0, .int .i64 1]) ∧ Below W.heap.size W w') := fun W hb => root_bad a n cap T W (HT.out.below hb) hbig hE
  have H3 : Aside (∀ W, Below w.heap.size w W → Calls Try.prog 15 #[.slice a n cap] W fun e w' => e = .returned (.int .i64 1) ∧ Below W.heap.size W w') := fun W hb => by
    have := treeError_any a n cap T W (HT.out.below hb) hfl
    rwa [hE] at this
  have H6 : Aside (∀ W, Below w.heap.size w W → Calls Try.prog 18 #[.slice a n cap] W fun e w' => e = .returned (.int .i64 1) ∧ Below W.heap.size W w') := fun W hb => by
    have := tcheck_any a n cap T W (HT.out.below hb) hbig
    rwa [hE] at this
  clear hT hbig hE hfl
  go_enter Try.func4, Try.ntmps4
  go_wp2_with fail
  refine (H1.out _ (Below.refl _ _)).mono ?_
  rintro e w1 ⟨rfl, b1⟩
  go_wp2_with fail
  refine (H2.out _ b1).mono ?_
  rintro e w2 ⟨rfl, b2⟩
  have q2 := below2 b1 b2
  go_wp2_with fail
  refine (H3.out _ q2).mono ?_
  rintro e w3 ⟨rfl, b3⟩
  have q3 := below2 q2 b3
  go_wp2_with fail
  refine (tbegun_any _).mono ?_
  rintro e w6 ⟨rfl, b6⟩
  have q6 := below2 q3 b6
  go_wp2_with fail
  refine (H6.out _ q6).mono ?_
  rintro e w7 ⟨rfl, b7⟩
  have q7 := below2 q6 b7
  go_wp2_with fail
  refine (same_none none none 0 0 w7).mono ?_
  rintro e w8 ⟨rfl, rfl⟩
  go_wp2
  go_ret
  exact ⟨rfl, q7⟩

theorem tells_walk (a : Option Addr) (n cap : Nat) (T : List (List (List (Int × Int)))) (w : World) (hT : TvS w a n cap T) (hbig : Big T) (hfl : (flat T).length ≤ 900000) :
    Calls Try.prog 4 #[.slice a n cap] w fun e w' => e = .returned (.bool true) ∧ Below w.heap.size w w' := by
  rcases treeE_or T with h | h
  · exact tells_good a n cap T w hT hbig h
  · exact tells_bad a n cap T w hT hbig hfl h
end Go.Proofs.Ytcgpgflnihjpiab
