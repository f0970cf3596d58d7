/- The walks of the laws EditSame and EditOrder. -/
import Derived.Test.YtcgpgflnihjpiacEBegun
import Derived.Test.YtcgpgflnihjpiacFindA
namespace Go.Proofs.Ytcgpgflnihjpiac
open Go.RowKit

def eV (l : List (Int × Int)) (key val : Int) : List (List (List (Int × Int))) := if M.putE l key val = 0 then M.build (M.put key val l) else []
theorem eput_built (l : List (Int × Int)) (h : M.chk l = 0) (key val : Int) (ta : Option Addr) (tn tc : Nat) (w : World) (hT : TvS w ta tn tc (M.build l)) :
    Calls Try.prog 9 #[.slice ta tn tc, .int .i64 key, .int .i64 val] w fun e w' => ∃ xa xn xc, e = .returned (.tuple #[.slice xa xn xc, .int .i64 (M.putE l key val)]) ∧ Aside (TvS w' xa xn xc (eV l key val)) ∧ Below w.heap.size w w' := by
  refine (eput_any ta tn tc (M.build l) key val w hT (build_big l h)).mono ?_
  rintro e w' ⟨v, rfl, ho, hb⟩
  have e1 : eputE (M.build l) key val = M.putE l key val := by unfold eputE; rw [build_tree l h, if_neg (by omega), (build_like l h).1]
  have e2 : eputV (M.build l) key val = eV l key val := by unfold eputV eV; rw [e1, (build_like l h).1]
  rw [e2] at ho
  rw [e1]
  obtain ⟨xa, xn, xc, rfl, hs⟩ := ho.tv
  exact ⟨xa, xn, xc, rfl, hs, hb⟩
theorem build_tv (l : List (Int × Int)) (h : M.chk l = 0) (a : Option Addr) (n cap : Nat) (w : World) (hs : Sl w a n cap l) :
    Calls Try.prog 15 #[.slice a n cap] w fun e w' => ∃ ta tn tc, e = .returned (.tuple #[.slice ta tn tc, .int .i64 0]) ∧ Aside (TvS w' ta tn tc (M.build l)) ∧ Below w.heap.size w w' := by
  refine (build_ok a n cap l w hs h).mono ?_
  rintro e w' ⟨v, rfl, ho, hb⟩
  obtain ⟨ta, tn, tc, rfl, ht⟩ := ho.tv
  exact ⟨ta, tn, tc, rfl, ht, hb⟩

theorem esame_bad (a : Option Addr) (n cap : Nat) (l : List (Int × Int)) (key val : Int) (w : World) (h : Sl w a n cap l) (hb : M.chk l ≠ 0) :
    Calls Try.prog 5 #[.slice a n cap, .int .i64 key, .int .i64 val] w fun e w' => e = .returned (.bool true) ∧ Below w.heap.size w w' := by
  have H := build_bad a n cap l w h.1 h.len hb
  obtain ⟨c, hc⟩ : ∃ c, c = M.chk l := ⟨_, rfl⟩
  rw [← hc] at H hb
  have HH : Aside (Calls Try.prog 15 #[.slice a n cap] w fun e w' => e = .returned (.tuple #[.slice none 0 0, .int .i64 c]) ∧ Below w.heap.size w w') := H
  have hne : (c != 0) = true := by simp [hb]
  clear H hc hb h
  go_enter Try.func5, Try.ntmps5
  go_wp2_with fail
  refine HH.out.mono ?_
  rintro e w1 ⟨rfl, b1⟩
  go_wp2_with fail
  refine (ebegun_any _).mono ?_
  rintro e w2 ⟨rfl, b2⟩
  have q2 := below2 b1 b2
  go_wp2
  go_ret
  exact ⟨rfl, q2⟩

set_option maxHeartbeats 4000000 in
theorem esame_good (a : Option Addr) (n cap : Nat) (l : List (Int × Int)) (key val : Int) (w : World) (h : Sl w a n cap l) (h0 : M.chk l = 0) :
    Calls Try.prog 5 #[.slice a n cap, .int .i64 key, .int .i64 val] w fun e w' => e = .returned (.bool true) ∧ Below w.heap.size w w' := by
  have HS : Aside (Sl w a n cap l) := h
  have HZ : Aside (M.chk l = 0) := h0
  obtain ⟨pe, hpe⟩ : ∃ pe, pe = M.putE l key val := ⟨_, rfl⟩
  have HP : Aside (∀ ta tn tc W, TvS W ta tn tc (M.build l) → Calls Try.prog 9 #[.slice ta tn tc, .int .i64 key, .int .i64 val] W fun e w' => ∃ xa xn xc, e = .returned (.tuple #[.slice xa xn xc, .int .i64 pe]) ∧ Aside (TvS w' xa xn xc (eV l key val)) ∧ Below W.heap.size W w') := fun ta tn tc W hT => by rw [hpe]; exact eput_built l h0 key val ta tn tc W hT
  have HQ : Aside (∀ W, Below w.heap.size w W → Calls Try.prog 16 #[.slice a n cap, .int .i64 key, .int .i64 val] W fun e w' => ∃ za zn zc, e = .returned (.tuple #[.slice za zn zc, .int .i64 pe]) ∧ Aside (Sl w' za zn zc (M.putV l key val)) ∧ Below W.heap.size W w') := fun W hb => by
    rw [hpe]
    have hs := HS.out.below hb
    refine (put_any a n cap l key val W hs.1 hs.2.1 hs.2.2.1 hs.2.2.2).mono ?_
    rintro e w' ⟨za, zn, zc, rfl, r1, r2, r3, r4, r5⟩
    exact ⟨za, zn, zc, rfl, ⟨r1, r2, r3, r4⟩, r5⟩
  by_cases hp : pe = 0
  · have hput : M.putE l key val = 0 := by rw [← hpe]; exact hp
    have HV : Aside (eV l key val = M.build (M.put key val l)) := by unfold Aside eV; rw [if_pos hput]
    have HPV : Aside (M.putV l key val = M.put key val l) := M.putV_ok hput
    have HK : Aside (M.chk (M.put key val l) = 0) := M.put_chk hput
    have hpb : (pe != 0) = false := by simp [hp]
    clear h h0 hpe hp hput
    go_enter Try.func5, Try.ntmps5
    go_wp2_with fail
    refine (build_tv l HZ.out a n cap _ HS.out).mono ?_
    rintro e w1 ⟨ta, tn, tc, rfl, HT1, b1⟩
    go_wp2_with fail
    refine (HP.out _ _ _ _ HT1.out).mono ?_
    rintro e w2 ⟨xa, xn, xc, rfl, HX2, b2⟩
    have q2 := below2 b1 b2
    clear b1 b2 HT1
    go_wp2_with fail
    refine (HQ.out _ q2).mono ?_
    rintro e w3 ⟨za, zn, zc, rfl, HZ3, b3⟩
    have HX3 : Aside (TvS w3 xa xn xc (M.build (M.put key val l))) := by unfold Aside; rw [← HV.out]; exact HX2.out.below b3
    have HM3 : Aside (Sl w3 za zn zc (M.put key val l)) := by unfold Aside; rw [← HPV.out]; exact HZ3.out
    have q3 := below2 q2 b3
    clear q2 b3 HX2 HZ3
    go_wp2_with fail
    refine (build_tv (M.put key val l) HK.out za zn zc _ HM3.out).mono ?_
    rintro e w4 ⟨ya, yn, yc, rfl, HY4, b4⟩
    have HX4 : Aside (TvS w4 xa xn xc (M.build (M.put key val l))) := HX3.out.below b4
    have q4 := below2 q3 b4
    clear q3 b4 HX3 HM3
    go_wp2_with fail
    refine (ebegun_any _).mono ?_
    rintro e w5 ⟨rfl, b5⟩
    have HX5 : Aside (TvS w5 xa xn xc (M.build (M.put key val l))) := HX4.out.below b5
    have HY5 : Aside (TvS w5 ya yn yc (M.build (M.put key val l))) := HY4.out.below b5
    have q5 := below2 q4 b5
    clear q4 b5 HX4 HY4
    obtain ⟨R, hR⟩ : ∃ R, R = M.build (M.put key val l) := ⟨_, rfl⟩
    rw [← hR] at HX5 HY5
    have HCk : Aside (∀ W, TvS W xa xn xc R → Calls Try.prog 17 #[.slice xa xn xc] W fun e w' => e = .returned (.int .i64 0) ∧ Below W.heap.size W w') := fun W hT => by
      have := tcheck_any xa xn xc R W hT (by rw [hR]; exact build_big _ HK.out)
      rwa [show treeE R = 0 by rw [hR]; exact build_tree _ HK.out] at this
    clear hR
    go_wp2_with fail
    refine (tsame_any xa ya xn yn xc yc R R w5 HX5.out.1 HY5.out.1 HX5.out.len).mono ?_
    rintro e w6 ⟨rfl, b6⟩
    have HX6 : Aside (TvS w6 xa xn xc R) := HX5.out.below b6
    have q6 := below2 q5 b6
    have hRR : decide (R = R) = true := by simp
    clear q5 b6 HX5 HY5
    go_wp2_with fail
    refine (HCk.out _ HX6.out).mono ?_
    rintro e w7 ⟨rfl, b7⟩
    have q7 := below2 q6 b7
    go_wp2
    go_ret
    exact ⟨rfl, q7⟩
  · have hpb : (pe != 0) = true := by simp [hp]
    clear h h0 hpe hp
    go_enter Try.func5, Try.ntmps5
    go_wp2_with fail
    refine (build_tv l HZ.out a n cap _ HS.out).mono ?_
    rintro e w1 ⟨ta, tn, tc, rfl, HT1, b1⟩
    go_wp2_with fail
    refine (HP.out _ _ _ _ HT1.out).mono ?_
    rintro e w2 ⟨xa, xn, xc, rfl, HX2, b2⟩
    have q2 := below2 b1 b2
    clear b1 b2 HT1
    go_wp2_with fail
    refine (HQ.out _ q2).mono ?_
    rintro e w3 ⟨za, zn, zc, rfl, HZ3, b3⟩
    have q3 := below2 q2 b3
    clear q2 b3
    go_wp2_with fail
    refine (ebegun_any _).mono ?_
    rintro e w5 ⟨rfl, b5⟩
    have q5 := below2 q3 b5
    go_wp2
    go_ret
    exact ⟨rfl, q5⟩

theorem esame_walk (a : Option Addr) (n cap : Nat) (l : List (Int × Int)) (key val : Int) (w : World) (h : Sl w a n cap l) :
    Calls Try.prog 5 #[.slice a n cap, .int .i64 key, .int .i64 val] w fun e w' => e = .returned (.bool true) ∧ Below w.heap.size w w' := by
  by_cases h0 : M.chk l = 0
  · exact esame_good a n cap l key val w h h0
  · exact esame_bad a n cap l key val w h h0
end Go.Proofs.Ytcgpgflnihjpiac
