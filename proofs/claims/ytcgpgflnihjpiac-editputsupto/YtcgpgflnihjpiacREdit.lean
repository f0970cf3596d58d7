/- The EditOf of the reference. -/
import Derived.Test.YtcgpgflnihjpiacEditE
import Derived.Test.YtcgpgflnihjpiacRTree
import Derived.Test.YtcgpgflnihjpiacPutOf
namespace Go.Proofs.Ytcgpgflnihjpiac
open Go.RowKit

set_option maxHeartbeats 2000000 in
theorem editOf_any (a : Option Addr) (n cap : Nat) (T : List (List (List (Int × Int)))) (key val : Int) (w : World) (hT : TvS w a n cap T) (hfl : (flat T).length ≤ 900000) :
    Calls Try.prog 10 #[.slice a n cap, .int .i64 key, .int .i64 val] w fun e w' => ∃ v, e = .returned (.tuple #[v, .int .i64 (eputE T key val)]) ∧ OwnT w' w.heap.size v (eputV T key val) ∧ Below w.heap.size w w' := by
  have HC := treeError_any a n cap T w hT hfl
  have HT : Aside (TvS w a n cap T) := hT
  rcases treeE_or T with h | h
  · rw [h] at HC
    have HC1 : Aside (Calls Try.prog 29 #[.slice a n cap] w fun e w' => e = .returned (.int .i64 0) ∧ Below w.heap.size w w') := HC
    have e1 : eputE T key val = M.putE (flat T) key val := by unfold eputE; rw [if_neg (by omega)]
    have HR : Aside (∀ W, Below w.heap.size w W → Calls Try.prog 31 #[.slice a n cap] W fun e w' => ∃ xa xn xc, e = .returned (.slice xa xn xc) ∧ Aside (Sl w' xa xn xc (flat T)) ∧ Below W.heap.size W w') := fun W hb => by
      refine (rowsOf_any a n cap T W (HT.out.below hb) hfl).mono ?_
      rintro e w' ⟨xa, xc, rfl, _, hs, hb2⟩
      exact ⟨xa, _, xc, rfl, hs, hb2⟩
    obtain ⟨pe, hpe⟩ : ∃ pe, pe = M.putE (flat T) key val := ⟨_, rfl⟩
    have HP : Aside (∀ xa xn xc W, Sl W xa xn xc (flat T) → Calls Try.prog 30 #[.slice xa xn xc, .int .i64 key, .int .i64 val] W fun e w' => ∃ za zn zc, e = .returned (.tuple #[.slice za zn zc, .int .i64 pe]) ∧ Aside (Sl w' za zn zc (M.putV (flat T) key val)) ∧ Below W.heap.size W w') := fun xa xn xc W hs => by
      rw [hpe]
      refine (putOf_any xa xn xc (flat T) key val W hs.1 hs.len).mono ?_
      rintro e w' ⟨za, zn, zc, rfl, r1, r2, r3, r4, r5⟩
      exact ⟨za, zn, zc, rfl, ⟨r1, r2, r3, r4⟩, r5⟩
    rw [e1, ← hpe]
    by_cases hp : pe = 0
    · have hput : M.putE (flat T) key val = 0 := by rw [← hpe]; exact hp
      have HRR : Aside (eputV T key val = M.build (M.put key val (flat T))) := by unfold Aside eputV; rw [e1, hput, if_pos rfl]
      have HPV : Aside (M.putV (flat T) key val = M.put key val (flat T)) := M.putV_ok hput
      have HK : Aside (M.chk (M.put key val (flat T)) = 0) := M.put_chk hput
      obtain ⟨R, hR⟩ : ∃ R, R = eputV T key val := ⟨_, rfl⟩
      rw [← hR] at HRR ⊢
      have hpb : (pe != 0) = false := by simp [hp]
      have HP0 : Aside (pe = 0) := hp
      clear HC hT hfl h e1 hpe hp hput hR
      go_enter Try.func10, Try.ntmps10
      go_wp2_with fail
      refine HC1.out.mono ?_
      rintro e w1 ⟨rfl, b1⟩
      go_wp2_with fail
      refine (HR.out _ b1).mono ?_
      rintro e w2 ⟨xa, xn, xc, rfl, HX, b2⟩
      have q2 := below2 b1 b2
      go_wp2_with fail
      refine (HP.out _ _ _ _ HX.out).mono ?_
      rintro e w3 ⟨za, zn, zc, rfl, HZ, b3⟩
      have q3 := below2 q2 b3
      have HZ3 : Aside (Sl w3 za zn zc (M.put key val (flat T))) := by unfold Aside; rw [← HPV.out]; exact HZ.out
      clear HX HZ b1 b2 b3 q2
      go_wp2_with fail
      refine (rbuild_any za zn zc (M.put key val (flat T)) w3 HZ3.out HK.out).mono ?_
      rintro e w4 ⟨v, rfl, ho, b4⟩
      have HO : Aside (OwnT w4 w.heap.size v R) := by unfold Aside; rw [HRR.out]; exact ho.mono q3.size
      have q4 := below2 q3 b4
      clear ho
      go_wp2
      go_ret2
      exact ⟨_, by rw [HP0.out]; rfl, HO.out, q4⟩
    · have HRR : Aside (eputV T key val = []) := by unfold Aside eputV; rw [e1, ← hpe, if_neg hp]
      obtain ⟨R, hR⟩ : ∃ R, R = eputV T key val := ⟨_, rfl⟩
      rw [← hR] at HRR ⊢
      have hpb : (pe != 0) = true := by simp [hp]
      clear HC hT hfl h e1 hpe hp hR
      go_enter Try.func10, Try.ntmps10
      go_wp2_with fail
      refine HC1.out.mono ?_
      rintro e w1 ⟨rfl, b1⟩
      go_wp2_with fail
      refine (HR.out _ b1).mono ?_
      rintro e w2 ⟨xa, xn, xc, rfl, HX, b2⟩
      have q2 := below2 b1 b2
      go_wp2_with fail
      refine (HP.out _ _ _ _ HX.out).mono ?_
      rintro e w3 ⟨za, zn, zc, rfl, HZ, b3⟩
      have q3 := below2 q2 b3
      go_wp2
      go_ret2
      exact ⟨_, rfl, by rw [HRR.out]; exact OwnT.nil _ _, q3⟩
  · rw [h] at HC
    have HC1 : Aside (Calls Try.prog 29 #[.slice a n cap] w fun e w' => e = .returned (.int .i64 1) ∧ Below w.heap.size w w') := HC
    have e1 : eputE T key val = 1 := by unfold eputE; rw [if_pos (by omega), h]
    have e2 : eputV T key val = [] := by unfold eputV; rw [e1, if_neg (by omega)]
    rw [e1, e2]
    clear HC hT hfl h e1 e2
    go_enter Try.func10, Try.ntmps10
    go_wp2_with fail
    refine HC1.out.mono ?_
    rintro e w1 ⟨rfl, b1⟩
    go_wp2
    go_ret2
    exact ⟨_, rfl, OwnT.nil _ _, b1⟩
end Go.Proofs.Ytcgpgflnihjpiac
