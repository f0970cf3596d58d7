/- The reference's DiffOf. -/
import Derived.Test.YtoeipmoonmgajacRDiff2
namespace Go.Proofs.Ytoeipmoonmgajac
open Go.RowKit

theorem treeE_chk {T : List (List (List (Int × Int)))} (h : treeE T = 0) : M.chk (flat T) = 0 := by
  unfold treeE at h
  by_cases e : M.chk (flat T) = 0 ∧ T = M.build (flat T)
  · exact e.1
  · rw [if_neg e] at h; omega
set_option maxHeartbeats 4000000 in
theorem diffOf_any (a1 a2 : Option Addr) (n1 n2 c1 c2 : Nat) (T U : List (List (List (Int × Int)))) (w : World) (h1 : TvS w a1 n1 c1 T) (f1 : (flat T).length ≤ 900000) (h2 : TvS w a2 n2 c2 U) (f2 : (flat U).length ≤ 900000) :
    Calls Try.prog 20 #[.slice a1 n1 c1, .slice a2 n2 c2] w fun e w' => HandsC w w' (difV T U) (difE T U) e := by
  have E1 : Hid (∀ W, Below w.heap.size w W → Calls Try.prog 29 #[.slice a1 n1 c1] W fun e w' => e = .returned (.int .i64 (treeE T)) ∧ Below W.heap.size W w') := fun W hW => treeError_any a1 n1 c1 T W (h1.below hW) f1
  have E2 : Hid (∀ W, Below w.heap.size w W → Calls Try.prog 29 #[.slice a2 n2 c2] W fun e w' => e = .returned (.int .i64 (treeE U)) ∧ Below W.heap.size W w') := fun W hW => treeError_any a2 n2 c2 U W (h2.below hW) f2
  have R1 : Hid (∀ W, Below w.heap.size w W → Calls Try.prog 31 #[.slice a1 n1 c1] W fun e w' => ∃ va vn vc, e = .returned (.slice va vn vc) ∧ Rd w' va vn (flat T) ∧ Below W.heap.size W w') := fun W hW => (rowsOf_any a1 n1 c1 T W (h1.below hW) f1).mono fun e w' ⟨va, vc, he, _, hs, hb⟩ => ⟨va, _, vc, he, hs.1, hb⟩
  have R2 : Hid (∀ W, Below w.heap.size w W → Calls Try.prog 31 #[.slice a2 n2 c2] W fun e w' => ∃ va vn vc, e = .returned (.slice va vn vc) ∧ Rd w' va vn (flat U) ∧ Below W.heap.size W w') := fun W hW => (rowsOf_any a2 n2 c2 U W (h2.below hW) f2).mono fun e w' ⟨va, vc, he, _, hs, hb⟩ => ⟨va, _, vc, he, hs.1, hb⟩
  clear h1 h2 f1 f2
  by_cases z1 : treeE T = 0
  · by_cases z2 : treeE U = 0
    · have e0 : difE T U = 0 := by unfold difE; rw [if_neg (by omega)]; exact z2
      unfold difV
      rw [e0, if_pos rfl]
      have Z1 : Hid (M.chk (flat T) = 0) := treeE_chk z1
      have Z2 : Hid (M.chk (flat U) = 0) := treeE_chk z2
      rw [z1] at E1
      rw [z2] at E2
      clear z1 z2 e0
      go_enter Try.func20, Try.ntmps20
      go_wp2_with fail
      refine (E1.out _ (Below.refl _ _)).mono ?_
      rintro e w1 ⟨rfl, q1⟩
      go_wp2_with fail
      refine (E2.out _ q1).mono ?_
      rintro e w2 ⟨rfl, ba⟩
      have q2 := below2 q1 ba
      clear ba q1
      go_wp2_with fail
      refine (R1.out _ q2).mono ?_
      rintro e w3 ⟨xa, xn, xc, rfl, r, ba⟩
      have X3 : Hid (Rd w3 xa xn (flat T)) := r
      have q3 := below2 q2 ba
      clear ba q2 r
      go_wp2_with fail
      refine (R2.out _ q3).mono ?_
      rintro e w4 ⟨ya, yn, yc, rfl, r, ba⟩
      have Y4 : Hid (Rd w4 ya yn (flat U)) := r
      have X4 : Hid (Rd w4 xa xn (flat T)) := X3.out.below ba (Nat.le_refl _)
      have q4 := below2 q3 ba
      clear ba q3 r X3
      go_wp2_with fail
      refine (differ_any _ _ _ _ _ _ _ _ _ X4.out Y4.out Z1.out Z2.out).mono ?_
      rintro e w5 ⟨va, vn, vc, rfl, r, g1, g2, ba⟩
      have V5 : Hid (Rc w5 va vn (M.dif (flat T) (flat U))) := r
      have q5 := below2 q4 ba
      clear ba q4 r
      go_wp2
      go_ret2
      exact ⟨va, vn, vc, rfl, V5.out, g1, g2, q5⟩
    · have e0 : difE T U = treeE U := by unfold difE; rw [if_neg (by omega)]
      unfold difV
      rw [e0, if_neg z2]
      obtain ⟨E, hE⟩ : ∃ E, E = treeE U := ⟨_, rfl⟩
      rw [← hE] at E2 z2 ⊢
      rw [z1] at E1
      have hEb : (E != 0) = true := by simp [z2]
      clear z1 z2 e0 hE
      go_enter Try.func20, Try.ntmps20
      go_wp2_with fail
      refine (E1.out _ (Below.refl _ _)).mono ?_
      rintro e w1 ⟨rfl, q1⟩
      go_wp2_with fail
      refine (E2.out _ q1).mono ?_
      rintro e w2 ⟨rfl, ba⟩
      have q2 := below2 q1 ba
      go_wp2
      go_ret2
      exact HandsC.err E q2
  · have e0 : difE T U = treeE T := by unfold difE; rw [if_pos z1]
    unfold difV
    rw [e0, if_neg z1]
    obtain ⟨E, hE⟩ : ∃ E, E = treeE T := ⟨_, rfl⟩
    rw [← hE] at E1 z1 ⊢
    have hEb : (E != 0) = true := by simp [z1]
    clear z1 e0 hE
    go_enter Try.func20, Try.ntmps20
    go_wp2_with fail
    refine (E1.out _ (Below.refl _ _)).mono ?_
    rintro e w1 ⟨rfl, q1⟩
    go_wp2
    go_ret2
    exact HandsC.err E q1
end Go.Proofs.Ytoeipmoonmgajac
