/- Numbers and commits in memory; dag.parentsRight, dag.Check. -/
import Derived.Test.YtcgpgflnihjpiadCheck
import Derived.Test.YtcgpgflnihjpiadInts
import Derived.Test.YtcgpgflnihjpiadDag0
namespace Go.Proofs.Ytcgpgflnihjpiad
open Go.RowKit

/-- Commits lie in memory as L. -/
def Cm (w : World) (a : Option Addr) (n : Nat) (L : List M.Com) : Prop :=
  L.length = n ∧ (n = 0 ∨ ∃ b off, a = some ⟨b, off, none⟩ ∧ b < w.heap.size ∧ ∀ i, i < n → ∃ a1 n1 c1 a2 n2 c2, w.cell? ⟨b, off + i * 2, none⟩ = some (.slice a1 n1 c1) ∧ w.cell? ⟨b, off + i * 2 + 1, none⟩ = some (.slice a2 n2 c2) ∧ Rd w a1 n1 (L.getD i ([], [])).1 ∧ Ri w a2 n2 (L.getD i ([], [])).2 ∧ n1 ≤ 9223372036854775807 ∧ n2 ≤ 9223372036854775807)
theorem Cm.below {w w' : World} {a : Option Addr} {n : Nat} {L : List M.Com} (h : Cm w a n L) {B : Nat} (hb : Below B w w') (hB : w.heap.size ≤ B) : Cm w' a n L := by
  obtain ⟨h1, h2⟩ := h
  refine ⟨h1, ?_⟩
  rcases h2 with h2 | ⟨b, off, ha, hlt, hc⟩
  · exact Or.inl h2
  · refine Or.inr ⟨b, off, ha, Nat.lt_of_lt_of_le hlt hb.size, fun i hi => ?_⟩
    obtain ⟨a1, n1, c1, a2, n2, c2, k1, k2, k3, k4, k5⟩ := hc i hi
    exact ⟨a1, n1, c1, a2, n2, c2, (hb.cell (p := ⟨b, off + i * 2, none⟩) (by show b < B; omega)).trans k1, (hb.cell (p := ⟨b, off + i * 2 + 1, none⟩) (by show b < B; omega)).trans k2, k3.below hb hB, k4.below hb hB, k5⟩
theorem Cm.cases {w : World} {a : Option Addr} {n : Nat} {L : List M.Com} (h : Cm w a n L) : (n = 0 ∧ L = []) ∨ ∃ b off, a = some ⟨b, off, none⟩ ∧ 0 < n ∧ L.length = n ∧ b < w.heap.size ∧ ∀ i, i < n → ∃ a1 n1 c1 a2 n2 c2, w.cell? ⟨b, off + i * 2, none⟩ = some (.slice a1 n1 c1) ∧ w.cell? ⟨b, off + i * 2 + 1, none⟩ = some (.slice a2 n2 c2) ∧ Rd w a1 n1 (L.getD i ([], [])).1 ∧ Ri w a2 n2 (L.getD i ([], [])).2 ∧ n1 ≤ 9223372036854775807 ∧ n2 ≤ 9223372036854775807 := by
  obtain ⟨h1, h2⟩ := h
  by_cases hn : n = 0
  · exact Or.inl ⟨hn, List.eq_nil_of_length_eq_zero (by omega)⟩
  · rcases h2 with h2 | ⟨b, off, ha, hlt, hc⟩
    · exact absurd h2 hn
    · exact Or.inr ⟨b, off, ha, by omega, h1, hlt, hc⟩

/-! ### parentsRight -/
theorem right_many (a : Option Addr) (n cap : Nat) (k : Int) (w : World) (h : 2 < n) (hm : n ≤ 9223372036854775807) :
    Calls Try.prog 53 #[.slice a n cap, .int .i64 k] w fun e w' => e = .returned (.bool false) ∧ w' = w := by
  go_enter Try.func53, Try.ntmps53
  go_wp2
  go_ret
  exact ⟨rfl, rfl⟩
theorem right_none (a : Option Addr) (cap : Nat) (k : Int) (w : World) :
    Calls Try.prog 53 #[.slice a 0 cap, .int .i64 k] w fun e w' => e = .returned (.bool true) ∧ w' = w := by
  go_enter Try.func53, Try.ntmps53
  go_wp2
  refine wp_loop_rounds 1 ?_
  rw [rounds_succ]
  go_wp2
  go_ret
  exact ⟨rfl, rfl⟩
set_option maxHeartbeats 1000000 in
theorem right_some (b off n cap : Nat) (l : List Int) (c : Nat) (w : World) (hn : n ≤ 2) (hl : l.length = n) (hc : ∀ i, i < n → w.cell? ⟨b, off + i, none⟩ = some (.int .i64 (l.getD i 0))) :
    Calls Try.prog 53 #[.slice (some ⟨b, off, none⟩) n cap, .int .i64 c] w fun e w' => e = .returned (.bool (M.ris c (-1) l)) ∧ w' = w := by
  have HC : Aside (∀ i, i < n → w.cell? ⟨b, off + i, none⟩ = some (.int .i64 (l.getD i 0))) := hc
  have HL : Aside (l.length = n) := hl
  clear hc hl
  go_enter Try.func53, Try.ntmps53
  go_wp2
  go_loopg [5, 13] n (fun g ah i wr => ∃ (k : Nat) (q : Int), k + g = n ∧ i = .int .i64 k ∧ ah = .int .i64 q ∧ wr = w ∧ Aside (M.ris c q (l.drop k) = M.ris c (-1) l))
  case atStart => exact ⟨0, -1, by omega, rfl, rfl, rfl, by simp [Aside]⟩
  case round =>
    obtain ⟨k, q, hk, rfl, rfl, rfl, A⟩ := hrel
    by_cases hlt : k < n
    · obtain ⟨x, hx⟩ : ∃ x, l.getD k 0 = x := ⟨_, rfl⟩
      have c0 := HC.out k hlt
      rw [hx] at c0
      have HX : Aside (l.getD k 0 = x) := hx
      clear hx
      go_wp2
      all_goals first
        | (go_ret
           exact ⟨ret_bool (A.out.symm.trans (M.ris_bad c q l k (by rw [HL.out]; exact hlt) x HX.out (by omega))).symm, rfl⟩)
        | (go_roundg (gk - 1)
           case measure => omega
           case rel => exact ⟨k + 1, x, by omega, by go_num, rfl, rfl, by unfold Aside; rw [← A.out, M.ris_good c q l k (by rw [HL.out]; exact hlt) x HX.out (by omega) (by omega)]⟩)
    · go_wp2
      go_ret
      exact ⟨ret_bool (A.out.symm.trans (M.ris_end c q l k (by rw [HL.out]; omega))).symm, rfl⟩
theorem right_any (a : Option Addr) (n cap : Nat) (l : List Int) (c : Nat) (w : World) (h : Ri w a n l) (hm : n ≤ 9223372036854775807) :
    Calls Try.prog 53 #[.slice a n cap, .int .i64 c] w fun e w' => e = .returned (.bool (M.pr c l)) ∧ w' = w := by
  by_cases h2 : 2 < n
  · rw [M.pr_long c l (by rw [h.1]; exact h2)]
    exact right_many a n cap c w h2 hm
  · rw [M.pr_short c l (by rw [h.1]; omega)]
    rcases h.cases with ⟨rfl, rfl⟩ | ⟨b, off, rfl, hn, hl, hB, hc⟩
    · exact right_none a cap c w
    · exact right_some b off n cap l c w (by omega) hl hc

/-! ### dag.Check -/
theorem dcheck_many (a : Option Addr) (n cap : Nat) (w : World) (h : 14 < n) (hm : n ≤ 9223372036854775807) :
    Calls Try.prog 27 #[.slice a n cap] w fun e w' => e = .returned (.int .i64 2) ∧ w' = w := by
  go_enter Try.func27, Try.ntmps27
  go_wp2
  go_ret
  exact ⟨rfl, rfl⟩
theorem dcheck_none (a : Option Addr) (cap : Nat) (w : World) :
    Calls Try.prog 27 #[.slice a 0 cap] w fun e w' => e = .returned (.int .i64 0) ∧ w' = w := by
  go_enter Try.func27, Try.ntmps27
  go_wp2
  refine wp_loop_rounds 1 ?_
  rw [rounds_succ]
  go_wp2
  go_ret
  exact ⟨rfl, rfl⟩

set_option maxHeartbeats 4000000 in
theorem dcheck_some (b off n cap : Nat) (L : List M.Com) (w : World) (hn : n ≤ 14) (hl : L.length = n) (hB : b < w.heap.size)
    (hc : ∀ i, i < n → ∃ a1 n1 c1 a2 n2 c2, w.cell? ⟨b, off + i * 2, none⟩ = some (.slice a1 n1 c1) ∧ w.cell? ⟨b, off + i * 2 + 1, none⟩ = some (.slice a2 n2 c2) ∧ Rd w a1 n1 (L.getD i ([], [])).1 ∧ Ri w a2 n2 (L.getD i ([], [])).2 ∧ n1 ≤ 9223372036854775807 ∧ n2 ≤ 9223372036854775807) :
    Calls Try.prog 27 #[.slice (some ⟨b, off, none⟩) n cap] w fun e w' => e = .returned (.int .i64 (M.dchkF 0 L)) ∧ Below w.heap.size w w' := by
  have HC : Aside (∀ i, i < n → ∃ a1 n1 c1 a2 n2 c2, w.cell? ⟨b, off + i * 2, none⟩ = some (.slice a1 n1 c1) ∧ w.cell? ⟨b, off + i * 2 + 1, none⟩ = some (.slice a2 n2 c2) ∧ Rd w a1 n1 (L.getD i ([], [])).1 ∧ Ri w a2 n2 (L.getD i ([], [])).2 ∧ n1 ≤ 9223372036854775807 ∧ n2 ≤ 9223372036854775807) := hc
  have HL : Aside (L.length = n) := hl
  clear hc hl
  go_enter Try.func27, Try.ntmps27
  go_wp2
  go_loopg [11] n (fun g i wr => ∃ (k : Nat), k + g = n ∧ i = .int .i64 k ∧ Below w.heap.size w wr ∧ Aside (M.dchkF k (L.drop k) = M.dchkF 0 L))
  case atStart => exact ⟨0, by omega, rfl, Below.refl _ _, by simp [Aside]⟩
  case round =>
    obtain ⟨k, hk, rfl, hbel, A⟩ := hrel
    have hsz := hbel.size
    by_cases hlt : k < n
    · obtain ⟨a1, n1, c1, a2, n2, c2, q1, q2, r1, r2, m1, m2⟩ := HC.out k hlt
      obtain ⟨C, hC⟩ : ∃ C, L.getD k ([], []) = C := ⟨_, rfl⟩
      rw [hC] at r1 r2
      have c0 : wr.cell? ⟨b, off + k * 2, none⟩ = some (.slice a1 n1 c1) := (hbel.cell (p := ⟨b, off + k * 2, none⟩) hB).trans q1
      have c1' : wr.cell? ⟨b, off + k * 2 + 1, none⟩ = some (.slice a2 n2 c2) := (hbel.cell (p := ⟨b, off + k * 2 + 1, none⟩) hB).trans q2
      obtain ⟨Wa, hWa⟩ : ∃ Wa, Wa = wr.alloc (.cells #[.slice a1 n1 c1, .slice a2 n2 c2] 90) := ⟨_, rfl⟩
      have hba : Below w.heap.size w Wa := by rw [hWa]; exact hbel.alloc hsz _
      have q5 : Wa.cell? ⟨wr.heap.size, 1, none⟩ = some (.slice a2 n2 c2) := by rw [hWa]; simp [go_sem]
      have hWs : wr.heap.size < Wa.heap.size := by rw [hWa]; simp
      have HCh := check_any a1 n1 c1 C.1 Wa (r1.below hba (Nat.le_refl _)) m1
      have HX : Aside (L.getD k ([], []) = C) := hC
      have HWa : Hid (Wa = wr.alloc (.cells #[.slice a1 n1 c1, .slice a2 n2 c2] 90)) := hWa
      have H2 : Hid (Ri w a2 n2 C.2) := r2
      have HBA : Hid (Below w.heap.size w Wa) := hba
      have Q5 : Hid (Wa.cell? ⟨wr.heap.size, 1, none⟩ = some (.slice a2 n2 c2)) := q5
      clear hC hWa q5 hba r1 r2 q1 q2
      obtain ⟨e1, he1⟩ : ∃ e1, e1 = M.chk C.1 := ⟨_, rfl⟩
      rw [← he1] at HCh
      have HE1 : Hid (e1 = M.chk C.1) := he1
      have HH : Hid (Calls Try.prog 30 #[.slice a1 n1 c1] Wa fun e w' => e = .returned (.int .i64 e1) ∧ Below Wa.heap.size Wa w') := HCh
      clear he1 HCh
      by_cases hz : e1 = 0
      · have hne : (e1 != 0) = false := by simp [hz]
        have HZ : Hid (e1 = 0) := hz
        clear hz
        go_wp2_with fail
        rw [← HWa.out]
        refine HH.out.mono ?_
        rintro e w1 ⟨rfl, hb1⟩
        have q6 : w1.cell? ⟨wr.heap.size, 1, none⟩ = some (.slice a2 n2 c2) := (hb1.cell (p := ⟨wr.heap.size, 1, none⟩) hWs).trans Q5.out
        have hb2 : Below w.heap.size w w1 := HBA.out.trans (hb1.mono HBA.out.size)
        have HP := right_any a2 n2 c2 C.2 k w1 (H2.out.below hb2 (Nat.le_refl _)) m2
        obtain ⟨t, ht⟩ : ∃ t, t = M.pr k C.2 := ⟨_, rfl⟩
        rw [← ht] at HP
        have HT : Hid (t = M.pr k C.2) := ht
        have HPP : Hid (Calls Try.prog 53 #[.slice a2 n2 c2, .int .i64 k] w1 fun e w' => e = .returned (.bool t) ∧ w' = w1) := HP
        clear ht HP hb1
        go_wp2_with fail
        refine HPP.out.mono ?_
        rintro e w2 ⟨rfl, hw2⟩
        subst hw2
        cases t with
        | true =>
          go_wp2
          go_roundg (gk - 1)
          case measure => omega
          case rel => exact ⟨k + 1, by omega, by go_num, hb2, by unfold Aside; rw [← A.out, M.dchkF_good k L (by rw [HL.out]; exact hlt) C HX.out (by rw [← HE1.out]; exact HZ.out) HT.out.symm]⟩
        | false =>
          go_wp2
          go_ret
          exact ⟨ret_int (A.out.symm.trans (M.dchkF_form k L (by rw [HL.out]; exact hlt) C HX.out (by rw [← HE1.out]; exact HZ.out) HT.out.symm)).symm, hb2⟩
      · have hne : (e1 != 0) = true := by simp [hz]
        have HZ : Hid (e1 ≠ 0) := hz
        clear hz
        go_wp2_with fail
        rw [← HWa.out]
        refine HH.out.mono ?_
        rintro e w1 ⟨rfl, hb1⟩
        have hb2 : Below w.heap.size w w1 := HBA.out.trans (hb1.mono HBA.out.size)
        clear hb1
        go_wp2
        go_ret
        exact ⟨ret_int (by rw [← A.out, M.dchkF_bad k L (by rw [HL.out]; exact hlt) C HX.out (by rw [← HE1.out]; exact HZ.out)]; exact HE1.out), hb2⟩
    · go_wp2
      go_ret
      exact ⟨ret_int (A.out.symm.trans (M.dchkF_end k L (by rw [HL.out]; omega))).symm, hbel⟩

theorem dcheck_any (a : Option Addr) (n cap : Nat) (L : List M.Com) (w : World) (h : Cm w a n L) (hm : n ≤ 9223372036854775807) :
    Calls Try.prog 27 #[.slice a n cap] w fun e w' => e = .returned (.int .i64 (M.dchk L)) ∧ Below w.heap.size w w' := by
  by_cases h14 : 14 < n
  · refine (dcheck_many a n cap w h14 hm).mono ?_
    rintro e w' ⟨rfl, rfl⟩
    exact ⟨by rw [M.dchk_many L (by rw [h.1]; exact h14)], Below.refl _ _⟩
  · have e := M.dchk_few L (by rw [h.1]; omega)
    rcases h.cases with ⟨rfl, rfl⟩ | ⟨b, off, rfl, hn, hl, hB, hc⟩
    · refine (dcheck_none a cap w).mono ?_
      rintro e w' ⟨rfl, rfl⟩
      exact ⟨rfl, Below.refl _ _⟩
    · rw [e]
      exact dcheck_some b off n cap L w (by omega) hl hB hc
end Go.Proofs.Ytcgpgflnihjpiad
