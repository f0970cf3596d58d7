/- edit.Put and edit.All. -/
import Derived.Test.YtcgpgflnihjpiacEditD
namespace Go.Proofs.Ytcgpgflnihjpiac
open Go.RowKit Go.Shelf

def eputE (T : List (List (List (Int × Int)))) (key val : Int) : Int := if treeE T ≠ 0 then treeE T else M.putE (flat T) key val
def eputV (T : List (List (List (Int × Int)))) (key val : Int) : List (List (List (Int × Int))) := if eputE T key val = 0 then M.build (M.put key val (flat T)) else []

theorem edited_any (a : Option Addr) (n cap : Nat) (T : List (List (List (Int × Int)))) (ea : Option Addr) (en ec : Nat) (E : List (Int × Int)) (w : World) (hT : TvS w a n cap T) (hbig : Big T) (hCh : Ch w ea en E) (hen : en ≤ 9223372036854775807) :
    Calls Try.prog 28 #[.slice a n cap, .slice ea en ec] w fun e w' => ∃ v, e = .returned (.tuple #[v, .int .i64 (if treeE T ≠ 0 then treeE T else M.editsE (flat T) E)]) ∧ OwnT w' w.heap.size v (if treeE T = 0 ∧ M.editsE (flat T) E = 0 then M.build (M.editsV (flat T) E) else []) ∧ Below w.heap.size w w' := by
  rcases treeE_or T with h | h
  · rw [if_neg (by omega)]
    have e : (if treeE T = 0 ∧ M.editsE (flat T) E = 0 then M.build (M.editsV (flat T) E) else []) = (if M.editsE (flat T) E = 0 then M.build (M.editsV (flat T) E) else []) := by simp [h]
    rw [e]
    exact edited_good a n cap T ea en ec E w hT hbig h hCh hen
  · rw [if_pos (by omega), if_neg (by omega), h]
    refine (edited_bad a n cap T ea en ec w hT hbig h).mono ?_
    rintro e w' ⟨rfl, hb⟩
    exact ⟨_, rfl, OwnT.nil _ _, hb⟩

set_option maxHeartbeats 1000000 in
theorem eput_any (a : Option Addr) (n cap : Nat) (T : List (List (List (Int × Int)))) (key val : Int) (w : World) (hT : TvS w a n cap T) (hbig : Big T) :
    Calls Try.prog 9 #[.slice a n cap, .int .i64 key, .int .i64 val] w fun e w' => ∃ v, e = .returned (.tuple #[v, .int .i64 (eputE T key val)]) ∧ OwnT w' w.heap.size v (eputV T key val) ∧ Below w.heap.size w w' := by
  obtain ⟨W0, hW0⟩ : ∃ W0, W0 = w.alloc (.cells #[.int .i64 key, .int .i64 0, .int .i64 val] 50) := ⟨_, rfl⟩
  have hb0 : Below w.heap.size w W0 := by rw [hW0]; exact (Below.refl _ _).alloc (Nat.le_refl _) _
  have hCh : Ch W0 (some ⟨w.heap.size, 0, none⟩) 1 [(key, val)] := by
    refine ⟨rfl, Or.inr ⟨w.heap.size, 0, rfl, by rw [hW0]; simp, fun i hi => ?_⟩⟩
    obtain rfl : i = 0 := by omega
    rw [hW0]
    exact ⟨by simp [go_sem], ⟨0, by simp [go_sem]⟩, by simp [go_sem]⟩
  have H := edited_any a n cap T (some ⟨w.heap.size, 0, none⟩) 1 1 [(key, val)] W0 (hT.below hb0) hbig hCh (by omega)
  have e1 : (if treeE T ≠ 0 then treeE T else M.editsE (flat T) [(key, val)]) = eputE T key val := by
    unfold eputE
    by_cases h : M.putE (flat T) key val = 0
    · simp [M.editsE, h]
    · simp [M.editsE, h]
  have e2 : (if treeE T = 0 ∧ M.editsE (flat T) [(key, val)] = 0 then M.build (M.editsV (flat T) [(key, val)]) else []) = eputV T key val := by
    unfold eputV
    rw [← e1]
    by_cases h : treeE T = 0
    · simp [h, M.editsV]
    · simp [h]
  rw [e1, e2] at H
  obtain ⟨x, hx⟩ : ∃ x, x = eputE T key val := ⟨_, rfl⟩
  obtain ⟨R, hR⟩ : ∃ R, R = eputV T key val := ⟨_, rfl⟩
  rw [← hx, ← hR] at H ⊢
  have HH : Aside (Calls Try.prog 28 #[.slice a n cap, .slice (some ⟨w.heap.size, 0, none⟩) 1 1] W0 fun e w' => ∃ v, e = .returned (.tuple #[v, .int .i64 x]) ∧ OwnT w' W0.heap.size v R ∧ Below W0.heap.size W0 w') := H
  have HW0 : Aside (W0 = w.alloc (.cells #[.int .i64 key, .int .i64 0, .int .i64 val] 50)) := hW0
  clear H hW0 hCh hx hR e1 e2 hT hbig
  go_enter Try.func9, Try.ntmps9
  go_wp2_with fail
  rw [← HW0.out]
  refine HH.out.mono ?_
  rintro e w1 ⟨v, rfl, ho, b1⟩
  have HO : Aside (OwnT w1 w.heap.size v R) := ho.mono hb0.size
  have q1 := below2 hb0 b1
  clear ho
  go_wp2
  go_ret2
  exact ⟨_, rfl, HO.out, q1⟩

set_option maxHeartbeats 1000000 in
theorem eall_few (a : Option Addr) (n cap : Nat) (T : List (List (List (Int × Int)))) (ea : Option Addr) (en ec : Nat) (E : List (Int × Int)) (w : World) (hT : TvS w a n cap T) (hbig : Big T) (hCh : Ch w ea en E) (hen : en ≤ 100) (hE : treeE T = 0) (hE2 : M.editsE (flat T) E = 0) :
    Calls Try.prog 13 #[.slice a n cap, .slice ea en ec] w fun e w' => ∃ v, e = .returned (.tuple #[v, .int .i64 0]) ∧ OwnT w' w.heap.size v (M.build (M.editsV (flat T) E)) ∧ Below w.heap.size w w' := by
  have H := edited_any a n cap T ea en ec E w hT hbig hCh (by omega)
  rw [if_neg (by omega), if_pos ⟨hE, hE2⟩, hE2] at H
  have HH : Aside (Calls Try.prog 28 #[.slice a n cap, .slice ea en ec] w fun e w' => ∃ v, e = .returned (.tuple #[v, .int .i64 0]) ∧ OwnT w' w.heap.size v (M.build (M.editsV (flat T) E)) ∧ Below w.heap.size w w') := H
  have hd : decide ((100 : Int) < (en : Int)) = false := by simp; omega
  clear H hT hbig hCh hE hE2
  go_enter Try.func13, Try.ntmps13
  go_wp2_with fail
  refine HH.out.mono ?_
  rintro e w1 ⟨v, rfl, ho, b1⟩
  have HO : Aside (OwnT w1 w.heap.size v (M.build (M.editsV (flat T) E))) := ho
  clear ho
  go_wp2
  go_ret2
  exact ⟨_, rfl, HO.out, b1⟩
end Go.Proofs.Ytcgpgflnihjpiac
