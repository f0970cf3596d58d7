/- The reference's MergeOf, whatever it is handed. -/
import Derived.Test.YtcgpgflnihjpiadRMerge
namespace Go.Proofs.Ytcgpgflnihjpiad
open Go.RowKit

set_option maxRecDepth 100000 in
set_option maxHeartbeats 4000000 in
theorem mergeOf_own (a1 a2 a3 : Option Addr) (n1 n2 n3 c1 c2 c3 : Nat) (b l m : List (Int × Int)) (w : World) (h1 : Rd w a1 n1 b) (h2 : Rd w a2 n2 l) (h3 : Rd w a3 n3 m)
    (k1 : n1 ≤ 9223372036854775807) (k2 : n2 ≤ 9223372036854775807) (k3 : n3 ≤ 9223372036854775807) :
    Calls Try.prog 20 #[.slice a1 n1 c1, .slice a2 n2 c2, .slice a3 n3 c3] w fun e w' => Hands3O w w' (M.mergeV b l m) (M.mergeK b l m) (M.mergeE b l m) e := by
  by_cases hall : M.chk b = 0 ∧ M.chk l = 0 ∧ M.chk m = 0
  · exact mergeOf_good a1 a2 a3 n1 n2 n3 c1 c2 c3 b l m w h1 h2 h3 hall.1 hall.2.1 hall.2.2
  · have E1 : Hid (∀ W, Below w.heap.size w W → Calls Try.prog 46 #[.slice a1 n1 c1] W fun e w' => e = .returned (.int .i64 (M.chk b)) ∧ Below W.heap.size W w') := fun W hW => error_any a1 n1 c1 b W (h1.below hW (Nat.le_refl _)) k1
    have E2 : Hid (∀ W, Below w.heap.size w W → Calls Try.prog 46 #[.slice a2 n2 c2] W fun e w' => e = .returned (.int .i64 (M.chk l)) ∧ Below W.heap.size W w') := fun W hW => error_any a2 n2 c2 l W (h2.below hW (Nat.le_refl _)) k2
    have E3 : Hid (∀ W, Below w.heap.size w W → Calls Try.prog 46 #[.slice a3 n3 c3] W fun e w' => e = .returned (.int .i64 (M.chk m)) ∧ Below W.heap.size W w') := fun W hW => error_any a3 n3 c3 m W (h3.below hW (Nat.le_refl _)) k3
    have e0 : M.mergeE b l m = if M.chk b ≠ 0 then M.chk b else if M.chk l ≠ 0 then M.chk l else M.chk m := by
      unfold M.mergeE
      by_cases z1 : M.chk b = 0
      · by_cases z2 : M.chk l = 0
        · have z3 : M.chk m ≠ 0 := fun z3 => hall ⟨z1, z2, z3⟩
          simp [z1, z2, z3]
        · simp [z1, z2]
      · simp [z1]
    have hne : M.mergeE b l m ≠ 0 := by
      rw [e0]
      by_cases z1 : M.chk b = 0
      · by_cases z2 : M.chk l = 0
        · have z3 : M.chk m ≠ 0 := fun z3 => hall ⟨z1, z2, z3⟩
          simp [z1, z2, z3]
        · simp [z1, z2]
      · simp [z1]
    have e1 : M.mergeV b l m = [] := by unfold M.mergeV; rw [if_neg hne]
    have e2 : M.mergeK b l m = [] := by unfold M.mergeK; rw [if_neg hne]
    rw [e1, e2]
    obtain ⟨E, hE⟩ : ∃ E, E = M.mergeE b l m := ⟨_, rfl⟩
    rw [← hE] at e0 hne ⊢
    obtain ⟨x, hx⟩ : ∃ x, x = M.chk b := ⟨_, rfl⟩
    obtain ⟨y, hy⟩ : ∃ y, y = M.chk l := ⟨_, rfl⟩
    obtain ⟨z, hz⟩ : ∃ z, z = M.chk m := ⟨_, rfl⟩
    rw [← hx, ← hy, ← hz] at e0
    rw [← hx] at E1
    rw [← hy] at E2
    rw [← hz] at E3
    obtain ⟨Wa, hWa⟩ : ∃ Wa, Wa = w.alloc (.cells #[.slice a1 n1 c1, .slice a2 n2 c2, .slice a3 n3 c3] 22) := ⟨_, rfl⟩
    have ba : Below w.heap.size w Wa := by rw [hWa]; exact (Below.refl _ _).alloc (Nat.le_refl _) _
    have hWs : w.heap.size < Wa.heap.size := by rw [hWa]; simp
    have q0 : Wa.cell? ⟨w.heap.size, 0, none⟩ = some (.slice a1 n1 c1) := by rw [hWa]; simp [go_sem]
    have q1 : Wa.cell? ⟨w.heap.size, 1, none⟩ = some (.slice a2 n2 c2) := by rw [hWa]; simp [go_sem]
    have q2 : Wa.cell? ⟨w.heap.size, 2, none⟩ = some (.slice a3 n3 c3) := by rw [hWa]; simp [go_sem]
    have HWa : Hid (Wa = w.alloc (.cells #[.slice a1 n1 c1, .slice a2 n2 c2, .slice a3 n3 c3] 22)) := hWa
    have HE : Hid (E = if x ≠ 0 then x else if y ≠ 0 then y else z) := e0
    have HNE : Hid (E ≠ 0) := hne
    clear h1 h2 h3 e0 e1 e2 hE hx hy hz hWa hall hne
    go_enter Try.func20, Try.ntmps20
    go_wp2
    rw [← HWa.out]
    refine wp_loop_rounds 4 ?_
    rw [rounds_succ]
    go_wp2_with fail
    refine (E1.out _ ba).mono ?_
    rintro e w1 ⟨rfl, hb1⟩
    have b1 := ba.trans (hb1.mono ba.size)
    have p1 : w1.cell? ⟨w.heap.size, 1, none⟩ = some (.slice a2 n2 c2) := (hb1.cell (p := ⟨w.heap.size, 1, none⟩) hWs).trans q1
    have p2 : w1.cell? ⟨w.heap.size, 2, none⟩ = some (.slice a3 n3 c3) := (hb1.cell (p := ⟨w.heap.size, 2, none⟩) hWs).trans q2
    have hs1 : w.heap.size < w1.heap.size := Nat.lt_of_lt_of_le hWs hb1.size
    clear q0 q1 q2 hb1 hWs ba HWa
    by_cases hx : x = 0
    · have hxb : (x != 0) = false := by simp [hx]
      have HX : Hid (x = 0) := hx
      clear hx
      go_wp2
      rw [rounds_succ]
      go_wp2_with fail
      refine (E2.out _ b1).mono ?_
      rintro e w2 ⟨rfl, hb2⟩
      have b2 := b1.trans (hb2.mono b1.size)
      have r2 : w2.cell? ⟨w.heap.size, 2, none⟩ = some (.slice a3 n3 c3) := (hb2.cell (p := ⟨w.heap.size, 2, none⟩) hs1).trans p2
      clear p1 p2 hb2 b1 hs1
      by_cases hy : y = 0
      · have hyb : (y != 0) = false := by simp [hy]
        have HZ : Hid (E = z) := by have h := HE.out; rw [HX.out, hy] at h; simpa [Hid] using h
        have hzb : (z != 0) = true := by have h := HNE.out; rw [HZ.out] at h; simp [h]
        clear hy
        go_wp2
        rw [rounds_succ]
        go_wp2_with fail
        refine (E3.out _ b2).mono ?_
        rintro e w3 ⟨rfl, hb3⟩
        have b3 := b2.trans (hb3.mono b2.size)
        clear r2 hb3 b2
        go_wp2
        go_ret3
        rw [HZ.out]
        exact Hands3O.err z b3
      · have hyb : (y != 0) = true := by simp [hy]
        have HZ : Hid (E = y) := by have h := HE.out; rw [HX.out] at h; simp [hy] at h; exact h
        clear hy
        go_wp2
        go_ret3
        rw [HZ.out]
        exact Hands3O.err y b2
    · have hxb : (x != 0) = true := by simp [hx]
      have HZ : Hid (E = x) := by have h := HE.out; rw [if_pos hx] at h; exact h
      clear hx
      go_wp2
      go_ret3
      rw [HZ.out]
      exact Hands3O.err x b1

theorem mergeOf_any (a1 a2 a3 : Option Addr) (n1 n2 n3 c1 c2 c3 : Nat) (b l m : List (Int × Int)) (w : World) (h1 : Rd w a1 n1 b) (h2 : Rd w a2 n2 l) (h3 : Rd w a3 n3 m)
    (k1 : n1 ≤ 9223372036854775807) (k2 : n2 ≤ 9223372036854775807) (k3 : n3 ≤ 9223372036854775807) :
    Calls Try.prog 20 #[.slice a1 n1 c1, .slice a2 n2 c2, .slice a3 n3 c3] w fun e w' => Hands3 w w' (M.mergeV b l m) (M.mergeK b l m) (M.mergeE b l m) e :=
  (mergeOf_own a1 a2 a3 n1 n2 n3 c1 c2 c3 b l m w h1 h2 h3 k1 k2 k3).mono fun _ _ h => h.hands
end Go.Proofs.Ytcgpgflnihjpiad
